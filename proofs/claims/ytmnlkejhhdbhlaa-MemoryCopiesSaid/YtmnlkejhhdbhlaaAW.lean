/- act writes. Conditions stand in each theorem. -/
import Derived.Test.YtmnlkejhhdbhlaaAC
import Derived.Deep.CutBlock
namespace Go.Proofs.Ytmnlkejhhdbhlaa
open Go.RowKit
set_option linter.unusedVariables false
set_option maxHeartbeats 8000000
set_option maxRecDepth 100000
section
variable {W : World} {base b d cap : Nat} {m : Mm} {S : Nat → Prop} {A1 A2 Av : Option Addr} {n1 c1 n2 c2 nv cv : Nat} {l : List UInt8}
theorem act_write (hm : Mem W base b d cap m) (hG : Gm m) (hcnt : m.L.length ≤ 1000) (hr : Rf W S A1 n1 c1 A2 n2 c2 m) (hSb : S b) (hSd : S d) (hSlt : ∀ k, S k → k < W.heap.size) (wh n : Int) (ad : Nat) (x : UInt8) (hn : n < 9223372036854775808) (had : ad < 18446744073709551616) (hv : Byt W (.slice Av nv cv) l) (hoff : Off (fun k => k = b ∨ k = d) (.slice Av nv cv) l) (hl : nv ≤ 5000) (hw : wh = 0 ∨ wh = 1) :
    Calls Try.prog 14 #[.pointer (some ⟨b, 0, none⟩), .agg #[.slice A1 n1 c1, .slice A2 n2 c2], .agg #[.int .i64 wh, .int .i64 n, .int .u64 (ad : Int), .slice Av nv cv, .int .u8 (x.toNat : Int)]] W (AcP W base b d S (m.ch ad (l.length : Int) l)) := by
  obtain ⟨ha3, hbE, hsE⟩ := aE_facts W (.slice A1 n1 c1) (.slice A2 n2 c2) #[.int .i64 wh, .int .i64 n, .int .u64 (ad : Int), .slice Av nv cv, .int .u8 (x.toNat : Int)]
  have HWE : Hid (aE W (.slice A1 n1 c1) (.slice A2 n2 c2) #[.int .i64 wh, .int .i64 n, .int .u64 (ad : Int), .slice Av nv cv, .int .u8 (x.toNat : Int)] = ((W.alloc (.cells #[.slice A1 n1 c1, .slice A2 n2 c2] 32)).alloc (.cells #[.int .i64 wh, .int .i64 n, .int .u64 (ad : Int), .slice Av nv cv, .int .u8 (x.toNat : Int)] 40)).alloc (.cells #[.slice none 0 0, .slice none 0 0] 32)) := Lib.hid rfl
  obtain ⟨E, hE⟩ : ∃ E, E = aE W (.slice A1 n1 c1) (.slice A2 n2 c2) #[.int .i64 wh, .int .i64 n, .int .u64 (ad : Int), .slice Av nv cv, .int .u8 (x.toNat : Int)] := ⟨_, rfl⟩
  rw [← hE] at ha3 hbE hsE HWE
  clear hE
  obtain ⟨xi, hxi⟩ : ∃ xi, xi = (x.toNat : Int) := ⟨_, rfl⟩
  rw [← hxi] at ha3 HWE ⊢
  have HXI := Lib.hid hxi
  clear hxi
  have hmE := hm.below hbE
  have hrE := hr.below hbE
  have hvE := hv.below hbE
  have HBE := Lib.hid hbE
  have HA3 := Lib.hid ha3
  have HOFF := Lib.hid hoff
  have HSS := Lib.hid (show S b ∧ S d ∧ (∀ k, S k → k < W.heap.size) ∧ nv ≤ 5000 ∧ E.heap.size = W.heap.size + 3 ∧ nv = l.length from ⟨hSb, hSd, hSlt, hl, hsE, hv.len⟩)
  have HLT := Lib.hid (show b < W.heap.size ∧ d < W.heap.size from ⟨hm.lt, hm.dlt⟩)
  obtain ⟨A5, c5, w5, hrun5, ho5, hb5⟩ := cp_bytes E Av nv cv l hvE (by omega)
  have HRun5 := Lib.hid hrun5
  have HO5 := Lib.hid ho5
  have HB5 := Lib.hid hb5
  have hbW5 := hbE.trans (hb5.mono hbE.size)
  have hT : Rf w5 (fun k => S k ∨ (W.heap.size ≤ k ∧ k < w5.heap.size)) A1 n1 c1 A2 n2 c2 m := (hr.or (hr.newer (T := fun k => W.heap.size ≤ k ∧ k < w5.heap.size) (fun k hk => hk.1))).below hbW5
  have HRW := Lib.hid (rWrite_any hT (by have := hG.max; omega) (by omega) (fun k hk => hk.elim (fun h => Nat.lt_of_lt_of_le (hSlt k h) hbW5.size) (fun h => h.2)) ad had (hv.below hbW5) (by have := hv.len; omega))
  have h35 := ha3.below hb5
  have H35 := Lib.hid h35
  have HM5 := Lib.hid (hm.below hbW5)
  have HV := Lib.hid hv
  have HG := Lib.hid hG
  have HAD := Lib.hid had
  have x1 := (ha3.below (below_alloc E (.cells #[] 5))).c5
  have x0 := ha3.c5
  obtain ⟨y0, -, -, -, -⟩ := x0
  obtain ⟨z0, z1, z2, z3, z4⟩ := x1
  have s5 := h35.c40
  have t5 := h35.c41
  obtain ⟨p0, p1, p2, p3, p4⟩ := h35.c5
  clear ha3 hbE hsE hmE hrE hvE hoff hSb hSd hSlt hl hm hr hv hG hrun5 ho5 hb5 hbW5 hT h35 hcnt hn had
  rcases hw with rfl | rfl
  · go_enter Try.func14, Try.ntmps14
    go_upto_region 1 with fail
    rw [← HWE.out]
    go_upto_region 5 with (at_builtin; refine wpList_append_run rfl (.tmp 28) (.tmp 30) 29 29 rfl _ _ _ w5 rfl rfl HRun5.out ?_)
    go_upto_region 6 with ((go_at_call 28; with_reducible refine HRW.out.mono ?_); rintro e w6 ⟨B1, p1, e1, B2, p2, e2, rfl, hrf, hb6⟩; have HRF := Lib.hid hrf; have HB6 := Lib.hid hb6; clear hrf hb6)
    have hb7 := below_alloc w6 (.cells #[.slice B1 p1 e1, .slice B2 p2 e2] 32)
    have hx7 := heap_alloc_new w6 (.cells #[.slice B1 p1 e1, .slice B2 p2 e2] 32)
    have hs7 : (w6.alloc (.cells #[.slice B1 p1 e1, .slice B2 p2 e2] 32)).heap.size = w6.heap.size + 1 := World.size_alloc _ _
    generalize w6.alloc (.cells #[.slice B1 p1 e1, .slice B2 p2 e2] 32) = w7 at *
    have hWE := HBE.out.size
    have hs5 := HB5.out.size
    have hs6 := HB6.out.size
    have hb57 : Below w5.heap.size w5 w7 := HB6.out.trans (hb7.mono hs6)
    have hm7 := HM5.out.below hb57
    have ho7 := own_same HO5.out fun g hg => hb57.block g (HO5.out.lt g hg).2
    have hbW7 : Below W.heap.size W w7 := (HBE.out.trans (HB5.out.mono hWE)).trans (hb57.mono (by omega))
    have hA7 := H35.out.below hb57
    have hobl : ∀ k, (Value.slice A5 nv c5).ownBlock = some k → E.heap.size ≤ k ∧ k < w5.heap.size := fun k hk => HO5.out.lt k hk
    have hnv := HSS.out.2.2.2.2.2
    have hown7 : Byt w7 (.slice A5 nv c5) l := Byt.of_own ho7
    have HWr := Lib.hid (Write_any hm7 HG.out ad (.slice A5 nv c5) l HAD.out hown7 (fun h0 b' hb' hd => by have := hobl b' hb'; have hd : b' = d := hd; have := HLT.out; omega) (by have := HSS.out; omega))
    have HX : Hid (∀ w8, Chg (fun k => k = b ∨ k = d) w7 w8 → A3 W.heap.size (.slice A1 n1 c1) (.slice A2 n2 c2) #[.int .i64 0, .int .i64 n, .int .u64 (ad : Int), .slice Av nv cv, .int .u8 xi] w8 ∧ w8.ownsRow E.heap.size 5 1 (.slice A5 nv c5) nv (bv l) ∧ Byt w8 (.slice Av nv cv) l ∧ w8.heap[w6.heap.size]? = some (.cells #[.slice B1 p1 e1, .slice B2 p2 e2] 32 (0, 0))) := Lib.hid fun w8 hc => by
      have hlt := HLT.out
      refine ⟨hA7.chg hc (fun k hk => by omega), own_same ho7 fun g hg => hc.block g (by have := hobl g hg; omega) (fun hs => by have := hobl g hg; omega), (HV.out.below hbW7).chg hc HOFF.out, (hc.block _ (by omega) (fun hs => by omega)).trans hx7⟩
    have HSZ := Lib.hid (show W.heap.size + 3 = E.heap.size ∧ E.heap.size ≤ w5.heap.size ∧ w5.heap.size ≤ w6.heap.size ∧ w7.heap.size = w6.heap.size + 1 from ⟨by have := HSS.out; omega, hs5, hs6, hs7⟩)
    have HB67 := Lib.hid hb7
    have HBW7 := Lib.hid hbW7
    have HOBL := Lib.hid hobl
    obtain ⟨k0, k1, k2, k3, k4⟩ := hA7.c5
    obtain ⟨q10, hq10⟩ : ∃ q10, q10 = w6.heap.size := ⟨_, rfl⟩
    rw [← hq10] at HX HSZ ⊢
    have HQ10 := Lib.hid hq10
    clear hb7 hx7 hs7 hs5 hs6 hb57 hm7 ho7 hbW7 hA7 hobl hnv hown7 hWE hq10
    go_upto_region 7 with ((go_at_call 16; with_reducible refine HWr.out.mono ?_); rintro e w8 ⟨rfl, hm8, hc8⟩; obtain ⟨ha8, ho8, hv8, hx8⟩ := HX.out w8 hc8; have HM8 := Lib.hid hm8; have HC8 := Lib.hid hc8; have HA8 := Lib.hid ha8; have HO8 := Lib.hid ho8; have HX8 := Lib.hid hx8; have r1 := run_string (P := Try.prog) 29 9 5 Try.underlying29 Try.underlying5 Try.underlying9 (show Byt w8 (.slice A5 nv c5) l from Byt.of_own ho8); have r2 := run_string (P := Try.prog) 29 9 5 Try.underlying29 Try.underlying5 Try.underlying9 hv8; clear hm8 hc8 ho8 hv8 hx8)
    obtain ⟨k0, k1, k2, k3, k4⟩ := ha8.c5
    clear ha8
    go_upto_region 9 with fail
    clear r1 r2
    obtain ⟨g5, HA5⟩ : ∃ g, Hid (0 < nv → A5 = some ⟨g, 0, none⟩) := by
      rcases Nat.eq_zero_or_pos nv with h0 | h0
      · exact ⟨0, Lib.hid fun h => absurd h (by omega)⟩
      · obtain ⟨g, cap, e, -, -⟩ := HO8.out.form h0
        have e2 : A5 = some ⟨g, 0, none⟩ := by injection e
        exact ⟨g, Lib.hid fun _ => e2⟩
    have HCU : Hid (0 < nv → Cu w8 g5 nv) := Lib.hid fun h0 => by
      have e := HA5.out h0
      have ho := HO8.out
      rw [e] at ho
      exact Cu.of_own ho
    have hnv : (nv : Int) ≤ 5000 := by have := HSS.out; omega
    have hnc : nv ≤ c5 := by
      obtain ⟨A, c, e, h1, -⟩ := (show Byt w8 (.slice A5 nv c5) l from Byt.of_own HO8.out)
      injection e with e1 e2 e3
      omega
    go_loopw [14] (fun i wr => ∃ k : Nat, k ≤ nv ∧ i = .int .i64 k ∧ Hid (0 < nv → Cu wr g5 nv) ∧ Hid (Chg (fun q => (Value.slice A5 nv c5).ownBlock = some q) w8 wr)) (fun i _ => nv - (RowKit.intOf i).toNat)
    case atStart => exact ⟨0, Nat.zero_le _, rfl, HCU, Lib.hid (Chg.refl _ _)⟩
    case round =>
      obtain ⟨k, hk, rfl, HR, HC⟩ := hrel
      by_cases hlt : k < nv
      · obtain rfl := HA5.out (by omega)
        obtain ⟨v, c1⟩ := (HR.out (by omega)).c k hlt
        have f1 := (HR.out (by omega)).f (by omega) k
        have HS := Lib.hid fun x : Int => (HR.out (by omega)).put hlt x
        have hlti : (k : Int) < (nv : Int) := by omega
        go_wp2
        go_roundw
        case rel => exact ⟨k + 1, by omega, by go_num, Lib.hid fun _ => HS.out _, Lib.hid (HC.out.setCell (p := ⟨g5, k, none⟩) rfl _)⟩
        case measure => simp [RowKit.intOf]; omega
      · obtain rfl : k = nv := by omega
        have hlti : ¬ ((k : Int) < (k : Int)) := by omega
        have hsz : w8.heap.size = w7.heap.size ∨ w7.heap.size < w8.heap.size := by have := HC8.out.size; omega
        have ha9 : A3 W.heap.size (.slice A1 n1 c1) (.slice A2 n2 c2) #[.int .i64 0, .int .i64 n, .int .u64 (ad : Int), .slice Av k cv, .int .u8 xi] wr := HA8.out.chg HC.out fun q hq => by have := HOBL.out q hq; have := HSZ.out; omega
        have hx9 : wr.heap[q10]? = some (.cells #[.slice B1 p1 e1, .slice B2 p2 e2] 32 (0, 0)) := (HC.out.block q10 (by have := HSZ.out; omega) (fun hq => by have := HOBL.out _ hq; have := HSZ.out; omega)).trans HX8.out
        have HA9 := Lib.hid ha9
        obtain ⟨t0, t1, t2⟩ := ha9.c7
        have u0 := cell_of_row wr q10 0 _ 32 (0, 0) hx9
        have u1 := cell_of_row wr q10 1 _ 32 (0, 0) hx9
        have HEND : Hid (∀ X, Chg (fun q => q = W.heap.size + 1 + 1) wr X → AcP W base b d S (m.ch ad (l.length : Int) l) (.returned (.tuple #[.pointer (some ⟨b, 0, none⟩), .agg #[.slice B1 p1 e1, .slice B2 p2 e2], .bool true])) X) := Lib.hid fun X hX => by
          have hss := HSS.out
          have hsz := HSZ.out
          have hlt := HLT.out
          have h8 : Chg (fun q => W.heap.size ≤ q ∧ q < w5.heap.size) w8 X :=
            (HC.out.mono (T := fun q => W.heap.size ≤ q ∧ q < w5.heap.size) fun q hq => by have := HOBL.out q hq; omega).also (hX.mono fun q hq => by have hq : q = W.heap.size + 1 + 1 := hq; omega)
          have h6 : Chg (fun q => S q ∨ W.heap.size ≤ q ∧ q < w5.heap.size) w6 X :=
            ((Chg.of_below HB67.out).also (HC8.out.mono fun q hq => hq.elim (fun e => .inl (e ▸ hss.1)) (fun e => .inl (e ▸ hss.2.1)))).also (h8.mono fun q hq => .inr hq)
          refine ⟨b, d, cap, B1, p1, e1, B2, p2, e2, rfl, HM8.out.chg h8 (by omega) (by omega), (HRF.out.chg h6).mono fun q hq => .inl (hq.elim id fun e => e.elim (fun e => e ▸ hss.1) (fun e => e ▸ hss.2.1)), ((Chg.of_below HBW7.out).also HC8.out).trans h8 fun q hq h => by omega, .inl ⟨rfl, rfl⟩⟩
        clear ha9 hx9 hlti hnc hsz
        go_upto_region 12 with fail
        go_region_with ((go_at_call 13; with_reducible refine (num_any _ _).mono ?_); rintro e w' ⟨rfl, rfl⟩)
        all_goals
          go_wp2
          refine bodyPost_ret (results_mid rfl _ _ (W.heap.size + 2) 32 #[.slice B1 p1 e1, .slice B2 p2 e2] (0, 0) _ rfl (set2 _ _ _ _ _ _ _ HA9.out.a7) Try.underlying32 rfl info32) rfl ?_
          exact HEND.out _ (put2 (S := fun q => q = W.heap.size + 1 + 1) (Chg.refl _ _) rfl _ _).drew
  · go_enter Try.func14, Try.ntmps14
    go_upto_region 1 with fail
    rw [← HWE.out]
    go_upto_region 5 with (at_builtin; refine wpList_append_run rfl (.tmp 28) (.tmp 30) 29 29 rfl _ _ _ w5 rfl rfl HRun5.out ?_)
    go_upto_region 6 with ((go_at_call 28; with_reducible refine HRW.out.mono ?_); rintro e w6 ⟨B1, p1, e1, B2, p2, e2, rfl, hrf, hb6⟩; have HRF := Lib.hid hrf; have HB6 := Lib.hid hb6; clear hrf hb6)
    have hb7 := below_alloc w6 (.cells #[.slice B1 p1 e1, .slice B2 p2 e2] 32)
    have hx7 := heap_alloc_new w6 (.cells #[.slice B1 p1 e1, .slice B2 p2 e2] 32)
    have hs7 : (w6.alloc (.cells #[.slice B1 p1 e1, .slice B2 p2 e2] 32)).heap.size = w6.heap.size + 1 := World.size_alloc _ _
    generalize w6.alloc (.cells #[.slice B1 p1 e1, .slice B2 p2 e2] 32) = w7 at *
    have hWE := HBE.out.size
    have hs5 := HB5.out.size
    have hs6 := HB6.out.size
    have hb57 : Below w5.heap.size w5 w7 := HB6.out.trans (hb7.mono hs6)
    have hm7 := HM5.out.below hb57
    have ho7 := own_same HO5.out fun g hg => hb57.block g (HO5.out.lt g hg).2
    have hbW7 : Below W.heap.size W w7 := (HBE.out.trans (HB5.out.mono hWE)).trans (hb57.mono (by omega))
    have hA7 := H35.out.below hb57
    have hobl : ∀ k, (Value.slice A5 nv c5).ownBlock = some k → E.heap.size ≤ k ∧ k < w5.heap.size := fun k hk => HO5.out.lt k hk
    have hnv := HSS.out.2.2.2.2.2
    have hown7 : Byt w7 (.slice A5 nv c5) l := Byt.of_own ho7
    have HWr := Lib.hid (Write_any hm7 HG.out ad (.slice A5 nv c5) l HAD.out hown7 (fun h0 b' hb' hd => by have := hobl b' hb'; have hd : b' = d := hd; have := HLT.out; omega) (by have := HSS.out; omega))
    have HX : Hid (∀ w8, Chg (fun k => k = b ∨ k = d) w7 w8 → A3 W.heap.size (.slice A1 n1 c1) (.slice A2 n2 c2) #[.int .i64 1, .int .i64 n, .int .u64 (ad : Int), .slice Av nv cv, .int .u8 xi] w8 ∧ w8.ownsRow E.heap.size 5 1 (.slice A5 nv c5) nv (bv l) ∧ Byt w8 (.slice Av nv cv) l ∧ w8.heap[w6.heap.size]? = some (.cells #[.slice B1 p1 e1, .slice B2 p2 e2] 32 (0, 0))) := Lib.hid fun w8 hc => by
      have hlt := HLT.out
      refine ⟨hA7.chg hc (fun k hk => by omega), own_same ho7 fun g hg => hc.block g (by have := hobl g hg; omega) (fun hs => by have := hobl g hg; omega), (HV.out.below hbW7).chg hc HOFF.out, (hc.block _ (by omega) (fun hs => by omega)).trans hx7⟩
    have HSZ := Lib.hid (show W.heap.size + 3 = E.heap.size ∧ E.heap.size ≤ w5.heap.size ∧ w5.heap.size ≤ w6.heap.size ∧ w7.heap.size = w6.heap.size + 1 from ⟨by have := HSS.out; omega, hs5, hs6, hs7⟩)
    have HB67 := Lib.hid hb7
    have HBW7 := Lib.hid hbW7
    have HOBL := Lib.hid hobl
    obtain ⟨k0, k1, k2, k3, k4⟩ := hA7.c5
    obtain ⟨q10, hq10⟩ : ∃ q10, q10 = w6.heap.size := ⟨_, rfl⟩
    rw [← hq10] at HX HSZ ⊢
    have HQ10 := Lib.hid hq10
    clear hb7 hx7 hs7 hs5 hs6 hb57 hm7 ho7 hbW7 hA7 hobl hnv hown7 hWE hq10
    go_upto_region 7 with ((go_at_call 16; with_reducible refine HWr.out.mono ?_); rintro e w8 ⟨rfl, hm8, hc8⟩; obtain ⟨ha8, ho8, hv8, hx8⟩ := HX.out w8 hc8; have HM8 := Lib.hid hm8; have HC8 := Lib.hid hc8; have HA8 := Lib.hid ha8; have HO8 := Lib.hid ho8; have HX8 := Lib.hid hx8; have r1 := run_string (P := Try.prog) 29 9 5 Try.underlying29 Try.underlying5 Try.underlying9 (show Byt w8 (.slice A5 nv c5) l from Byt.of_own ho8); have r2 := run_string (P := Try.prog) 29 9 5 Try.underlying29 Try.underlying5 Try.underlying9 hv8; clear hm8 hc8 ho8 hv8 hx8)
    obtain ⟨k0, k1, k2, k3, k4⟩ := ha8.c5
    clear ha8
    go_upto_region 9 with fail
    clear r1 r2
    obtain ⟨g5, HA5⟩ : ∃ g, Hid (0 < nv → A5 = some ⟨g, 0, none⟩) := by
      rcases Nat.eq_zero_or_pos nv with h0 | h0
      · exact ⟨0, Lib.hid fun h => absurd h (by omega)⟩
      · obtain ⟨g, cap, e, -, -⟩ := HO8.out.form h0
        have e2 : A5 = some ⟨g, 0, none⟩ := by injection e
        exact ⟨g, Lib.hid fun _ => e2⟩
    have HCU : Hid (0 < nv → Cu w8 g5 nv) := Lib.hid fun h0 => by
      have e := HA5.out h0
      have ho := HO8.out
      rw [e] at ho
      exact Cu.of_own ho
    have hnv : (nv : Int) ≤ 5000 := by have := HSS.out; omega
    have hnc : nv ≤ c5 := by
      obtain ⟨A, c, e, h1, -⟩ := (show Byt w8 (.slice A5 nv c5) l from Byt.of_own HO8.out)
      injection e with e1 e2 e3
      omega
    go_loopw [14] (fun i wr => ∃ k : Nat, k ≤ nv ∧ i = .int .i64 k ∧ Hid (0 < nv → Cu wr g5 nv) ∧ Hid (Chg (fun q => (Value.slice A5 nv c5).ownBlock = some q) w8 wr)) (fun i _ => nv - (RowKit.intOf i).toNat)
    case atStart => exact ⟨0, Nat.zero_le _, rfl, HCU, Lib.hid (Chg.refl _ _)⟩
    case round =>
      obtain ⟨k, hk, rfl, HR, HC⟩ := hrel
      by_cases hlt : k < nv
      · obtain rfl := HA5.out (by omega)
        obtain ⟨v, c1⟩ := (HR.out (by omega)).c k hlt
        have f1 := (HR.out (by omega)).f (by omega) k
        have HS := Lib.hid fun x : Int => (HR.out (by omega)).put hlt x
        have hlti : (k : Int) < (nv : Int) := by omega
        go_wp2
        go_roundw
        case rel => exact ⟨k + 1, by omega, by go_num, Lib.hid fun _ => HS.out _, Lib.hid (HC.out.setCell (p := ⟨g5, k, none⟩) rfl _)⟩
        case measure => simp [RowKit.intOf]; omega
      · obtain rfl : k = nv := by omega
        have hlti : ¬ ((k : Int) < (k : Int)) := by omega
        have hsz : w8.heap.size = w7.heap.size ∨ w7.heap.size < w8.heap.size := by have := HC8.out.size; omega
        have ha9 : A3 W.heap.size (.slice A1 n1 c1) (.slice A2 n2 c2) #[.int .i64 1, .int .i64 n, .int .u64 (ad : Int), .slice Av k cv, .int .u8 xi] wr := HA8.out.chg HC.out fun q hq => by have := HOBL.out q hq; have := HSZ.out; omega
        have hx9 : wr.heap[q10]? = some (.cells #[.slice B1 p1 e1, .slice B2 p2 e2] 32 (0, 0)) := (HC.out.block q10 (by have := HSZ.out; omega) (fun hq => by have := HOBL.out _ hq; have := HSZ.out; omega)).trans HX8.out
        have HA9 := Lib.hid ha9
        obtain ⟨t0, t1, t2⟩ := ha9.c7
        have u0 := cell_of_row wr q10 0 _ 32 (0, 0) hx9
        have u1 := cell_of_row wr q10 1 _ 32 (0, 0) hx9
        have HEND : Hid (∀ X, Chg (fun q => q = W.heap.size + 1 + 1) wr X → AcP W base b d S (m.ch ad (l.length : Int) l) (.returned (.tuple #[.pointer (some ⟨b, 0, none⟩), .agg #[.slice B1 p1 e1, .slice B2 p2 e2], .bool true])) X) := Lib.hid fun X hX => by
          have hss := HSS.out
          have hsz := HSZ.out
          have hlt := HLT.out
          have h8 : Chg (fun q => W.heap.size ≤ q ∧ q < w5.heap.size) w8 X :=
            (HC.out.mono (T := fun q => W.heap.size ≤ q ∧ q < w5.heap.size) fun q hq => by have := HOBL.out q hq; omega).also (hX.mono fun q hq => by have hq : q = W.heap.size + 1 + 1 := hq; omega)
          have h6 : Chg (fun q => S q ∨ W.heap.size ≤ q ∧ q < w5.heap.size) w6 X :=
            ((Chg.of_below HB67.out).also (HC8.out.mono fun q hq => hq.elim (fun e => .inl (e ▸ hss.1)) (fun e => .inl (e ▸ hss.2.1)))).also (h8.mono fun q hq => .inr hq)
          refine ⟨b, d, cap, B1, p1, e1, B2, p2, e2, rfl, HM8.out.chg h8 (by omega) (by omega), (HRF.out.chg h6).mono fun q hq => .inl (hq.elim id fun e => e.elim (fun e => e ▸ hss.1) (fun e => e ▸ hss.2.1)), ((Chg.of_below HBW7.out).also HC8.out).trans h8 fun q hq h => by omega, .inl ⟨rfl, rfl⟩⟩
        clear ha9 hx9 hlti hnc hsz
        go_upto_region 12 with fail
        go_region_with ((go_at_call 13; with_reducible refine (num_any _ _).mono ?_); rintro e w' ⟨rfl, rfl⟩)
        all_goals
          go_wp2
          refine bodyPost_ret (results_mid rfl _ _ (W.heap.size + 2) 32 #[.slice B1 p1 e1, .slice B2 p2 e2] (0, 0) _ rfl (set2 _ _ _ _ _ _ _ HA9.out.a7) Try.underlying32 rfl info32) rfl ?_
          exact HEND.out _ (put2 (S := fun q => q = W.heap.size + 1 + 1) (Chg.refl _ _) rfl _ _).drew
end
end Go.Proofs.Ytmnlkejhhdbhlaa
