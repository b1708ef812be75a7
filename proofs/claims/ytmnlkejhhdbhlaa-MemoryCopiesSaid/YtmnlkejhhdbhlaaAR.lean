/- act reads. Conditions stand in each theorem. -/
import Derived.Test.YtmnlkejhhdbhlaaAE
import Derived.Deep.CutBlock
import Derived.Deep.RegionHeld3
namespace Go.Proofs.Ytmnlkejhhdbhlaa
open Go.RowKit
set_option linter.unusedVariables false
set_option maxHeartbeats 8000000
set_option maxRecDepth 100000
section
variable {W : World} {base b d cap : Nat} {m : Mm} {S : Nat → Prop} {A1 A2 : Option Addr} {n1 c1 n2 c2 : Nat}
theorem act_read (hm : Mem W base b d cap m) (hG : Gm m) (hcnt : m.L.length ≤ 1000) (hr : Rf W S A1 n1 c1 A2 n2 c2 m) (hSb : S b) (hSd : S d) (hSlt : ∀ k, S k → k < W.heap.size) (n : Int) (ad : Nat) (vb xv : Value) (hn : n < 9223372036854775808) (had : ad < 18446744073709551616) (wh : Int) (hw : wh = 3 ∨ wh = 4) :
    Calls Try.prog 14 #[.pointer (some ⟨b, 0, none⟩), .agg #[.slice A1 n1 c1, .slice A2 n2 c2], .agg #[.int .i64 wh, .int .i64 n, .int .u64 (ad : Int), vb, xv]] W (AcP W base b d S m) := by
  obtain ⟨ha3, hbE, hsE⟩ := aE_facts W (.slice A1 n1 c1) (.slice A2 n2 c2) #[.int .i64 wh, .int .i64 n, .int .u64 (ad : Int), vb, xv]
  have HWE : Hid (aE W (.slice A1 n1 c1) (.slice A2 n2 c2) #[.int .i64 wh, .int .i64 n, .int .u64 (ad : Int), vb, xv] = ((W.alloc (.cells #[.slice A1 n1 c1, .slice A2 n2 c2] 32)).alloc (.cells #[.int .i64 wh, .int .i64 n, .int .u64 (ad : Int), vb, xv] 40)).alloc (.cells #[.slice none 0 0, .slice none 0 0] 32)) := Lib.hid rfl
  obtain ⟨E, hE⟩ : ∃ E, E = aE W (.slice A1 n1 c1) (.slice A2 n2 c2) #[.int .i64 wh, .int .i64 n, .int .u64 (ad : Int), vb, xv] := ⟨_, rfl⟩
  rw [← hE] at ha3 hbE hsE HWE
  clear hE
  have HBE := Lib.hid hbE
  have HA3 := Lib.hid ha3
  have HSS := Lib.hid (show S b ∧ S d ∧ (∀ k, S k → k < W.heap.size) ∧ E.heap.size = W.heap.size + 3 from ⟨hSb, hSd, hSlt, hsE⟩)
  have HLT := Lib.hid (show b < W.heap.size ∧ d < W.heap.size from ⟨hm.lt, hm.dlt⟩)
  have hT : Rf E (fun k => S k ∨ W.heap.size ≤ k ∧ k < W.heap.size + 3) A1 n1 c1 A2 n2 c2 m := (hr.or (hr.newer (T := fun k => W.heap.size ≤ k ∧ k < W.heap.size + 3) (fun k hk => hk.1))).below hbE
  have hmE := hm.below hbE
  have s5 := ha3.c40
  have t5 := ha3.c41
  obtain ⟨y0, y1, y2, y3, y4⟩ := ha3.c5
  obtain ⟨z0, z1, z2⟩ := ha3.c7
  have HRW := Lib.hid (rRead_any hT hG.max ad n had hn)
  have HF : Hid (∀ X, Below E.heap.size E X → Calls Try.prog 26 #[.pointer (some ⟨b, 0, none⟩), .int .u64 (ad : Int), .int .i64 n] X (RdPost X (m.rd ad n) (m.chk ad n))) := Lib.hid fun X h => Read_any (hmE.below h) hG ad n had hn
  have hlb : (m.rd ad n).length ≤ 4194304 := by
    have := hG.max
    have : (m.rd ad n).length ≤ m.B.length := by unfold Mm.rd; split <;> simp <;> omega
    omega
  generalize m.rd ad n = l at HRW HF hlb
  generalize m.chk ad n = z at HRW HF
  have HX : Hid (∀ X, Below E.heap.size E X → A3 W.heap.size (.slice A1 n1 c1) (.slice A2 n2 c2) #[.int .i64 wh, .int .i64 n, .int .u64 (ad : Int), vb, xv] X) := Lib.hid fun X h => ha3.below h
  have HMM := Lib.hid hmE
  have HRR := Lib.hid hT
  have HLB := Lib.hid hlb
  have hlbi : (l.length : Int) ≤ 4194304 := by omega
  clear hm hG hcnt hr hSb hSd hSlt hn had ha3 hbE hsE hT hmE hlb
  rcases hw with rfl | rfl
  · go_enter Try.func14, Try.ntmps14
    go_upto_region 1 with fail
    rw [← HWE.out]
    clear HWE HA3
    go_upto_region 19 with ((go_at_call 30; with_reducible refine HRW.out.mono ?_); rintro e w1 ⟨⟨A7, c7, rfl, ho7⟩, hb7⟩; have HO7 := Lib.hid ho7; have HB7 := Lib.hid hb7; obtain ⟨o0, o1, o2, o3, o4⟩ := (HX.out w1 hb7).c5; clear ho7 hb7)
    have HF1 := Lib.hid (HF.out w1 HB7.out)
    clear HF
    go_upto_region 20 with ((go_at_call 26; with_reducible refine HF1.out.mono ?_); rintro e w2 ⟨⟨A9, c9, rfl, ho9⟩, hb9⟩; have HO9 := Lib.hid ho9; have HB9 := Lib.hid hb9; have hb2 := HB7.out.trans (hb9.mono HB7.out.size); have HB2 := Lib.hid hb2; have r1 := run_string (P := Try.prog) 29 9 5 Try.underlying29 Try.underlying5 Try.underlying9 (show Byt w2 (.slice A7 l.length c7) l from (Byt.of_own HO7.out).below hb9); have r2 := run_string (P := Try.prog) 29 9 5 Try.underlying29 Try.underlying5 Try.underlying9 (show Byt w2 (.slice A9 l.length c9) l from Byt.of_own ho9); clear ho9 hb9 hb2)
    go_upto_region 22 with ((go_at_call 13; with_reducible refine (num_any _ _).mono ?_); rintro e w' ⟨rfl, rfl⟩)
    clear r1 r2
    have HOBL : Hid (∀ k, (Value.slice A9 l.length c9).ownBlock = some k → w1.heap.size ≤ k ∧ k < w2.heap.size) := Lib.hid fun k hk => HO9.out.lt k hk
    have HS1 := Lib.hid HB7.out.size
    obtain ⟨nv, hnv⟩ : ∃ nv, nv = l.length := ⟨_, rfl⟩
    rw [← hnv] at HOBL HO9 hlbi ⊢
    clear hnv
    obtain ⟨g5, HA5⟩ : ∃ g, Hid (0 < nv → A9 = some ⟨g, 0, none⟩) := by
      rcases Nat.eq_zero_or_pos nv with h0 | h0
      · exact ⟨0, Lib.hid fun h => absurd h (by omega)⟩
      · obtain ⟨g, cap, e, -, -⟩ := HO9.out.form h0
        have e2 : A9 = some ⟨g, 0, none⟩ := by injection e
        exact ⟨g, Lib.hid fun _ => e2⟩
    have HCU : Hid (0 < nv → Cu w2 g5 nv) := Lib.hid fun h0 => by
      have e := HA5.out h0
      have ho := HO9.out
      rw [e] at ho
      exact Cu.of_own ho
    have hnc : nv ≤ c9 := by
      obtain ⟨A, c, e, h1, -⟩ := (show Byt w2 (.slice A9 nv c9) l from Byt.of_own HO9.out)
      injection e with e1 e2 e3
      omega
    go_loopw [22] (fun i wr => ∃ k : Nat, k ≤ nv ∧ i = .int .i64 k ∧ Hid (0 < nv → Cu wr g5 nv) ∧ Hid (Chg (fun q => (Value.slice A9 nv c9).ownBlock = some q) w2 wr)) (fun i _ => nv - (RowKit.intOf i).toNat)
    case atStart => exact ⟨0, Nat.zero_le _, rfl, HCU, Lib.hid (Chg.refl _ _)⟩
    case round =>
      obtain ⟨k, hk, rfl, HR, HC⟩ := hrel
      by_cases hlt : k < nv
      · obtain rfl := HA5.out (by omega)
        obtain ⟨v, c1⟩ := (HR.out (by omega)).c k hlt
        have f1 := (HR.out (by omega)).f (by omega) k
        have HS := Lib.hid fun x : Int => (HR.out (by omega)).put hlt x
        have hlti : (k : Int) < (nv : Int) := by omega
        go_wp2
        go_roundw
        case rel => exact ⟨k + 1, by omega, by go_num, Lib.hid fun _ => HS.out _, Lib.hid (HC.out.setCell (p := ⟨g5, k, none⟩) rfl _)⟩
        case measure => simp [RowKit.intOf]; omega
      · obtain rfl : k = nv := by omega
        have hlti : ¬ ((k : Int) < (k : Int)) := by omega
        have ha9 : A3 W.heap.size (.slice A1 n1 c1) (.slice A2 n2 c2) #[.int .i64 3, .int .i64 n, .int .u64 (ad : Int), vb, xv] wr := (HX.out w2 HB2.out).chg HC.out fun q hq => by have := HOBL.out q hq; have := HS1.out; have := HSS.out; omega
        have HA9 := Lib.hid ha9
        obtain ⟨t0, t1, t2⟩ := ha9.c7
        have u0 := ha9.c40
        have u1 := ha9.c41
        have HEND : Hid (∀ X, Chg (fun q => q = W.heap.size + 1 + 1) wr X → AcP W base b d S m (.returned (.tuple #[.pointer (some ⟨b, 0, none⟩), .agg #[.slice A1 n1 c1, .slice A2 n2 c2], .bool true])) X) := Lib.hid fun X hX => by
          have hss := HSS.out
          have hs1 := HS1.out
          have hlt := HLT.out
          have hcb : Below w1.heap.size w1 wr := HB9.out.trans (HC.out.below HB9.out.size fun q hq => (HOBL.out q hq).1)
          have hbe : Below E.heap.size E wr := HB7.out.trans (hcb.mono hs1)
          exact ac_end (HMM.out.below hbe) (HRR.out.below hbe) ((Chg.of_below HBE.out).then_below hbe) HLT.out hss.1 hss.2.1 X hX
        clear ha9 hlti hnc
        go_upto_region 25 with fail
        go_region
        all_goals
          go_wp2
          refine bodyPost_ret (results_mid rfl _ _ (W.heap.size + 2) 32 #[.slice A1 n1 c1, .slice A2 n2 c2] (0, 0) _ rfl (set2 _ _ _ _ _ _ _ HA9.out.a7) Try.underlying32 rfl info32) rfl ?_
          first
            | exact HEND.out _ (put2 (S := fun q => q = W.heap.size + 1 + 1) (Chg.refl _ _) rfl _ _)
            | exact HEND.out _ (put2 (S := fun q => q = W.heap.size + 1 + 1) (Chg.refl _ _) rfl _ _).drew
  · go_enter Try.func14, Try.ntmps14
    go_upto_region 1 with fail
    rw [← HWE.out]
    clear HWE HA3
    go_upto_region 19 with ((go_at_call 30; with_reducible refine HRW.out.mono ?_); rintro e w1 ⟨⟨A7, c7, rfl, ho7⟩, hb7⟩; have HO7 := Lib.hid ho7; have HB7 := Lib.hid hb7; obtain ⟨o0, o1, o2, o3, o4⟩ := (HX.out w1 hb7).c5; clear ho7 hb7)
    have HF1 := Lib.hid (HF.out w1 HB7.out)
    clear HF
    go_upto_region 20 with ((go_at_call 26; with_reducible refine HF1.out.mono ?_); rintro e w2 ⟨⟨A9, c9, rfl, ho9⟩, hb9⟩; have HO9 := Lib.hid ho9; have HB9 := Lib.hid hb9; have hb2 := HB7.out.trans (hb9.mono HB7.out.size); have HB2 := Lib.hid hb2; have r1 := run_string (P := Try.prog) 29 9 5 Try.underlying29 Try.underlying5 Try.underlying9 (show Byt w2 (.slice A7 l.length c7) l from (Byt.of_own HO7.out).below hb9); have r2 := run_string (P := Try.prog) 29 9 5 Try.underlying29 Try.underlying5 Try.underlying9 (show Byt w2 (.slice A9 l.length c9) l from Byt.of_own ho9); clear ho9 hb9 hb2)
    go_upto_region 22 with ((go_at_call 13; with_reducible refine (num_any _ _).mono ?_); rintro e w' ⟨rfl, rfl⟩)
    clear r1 r2
    have HOBL : Hid (∀ k, (Value.slice A9 l.length c9).ownBlock = some k → w1.heap.size ≤ k ∧ k < w2.heap.size) := Lib.hid fun k hk => HO9.out.lt k hk
    have HS1 := Lib.hid HB7.out.size
    obtain ⟨nv, hnv⟩ : ∃ nv, nv = l.length := ⟨_, rfl⟩
    rw [← hnv] at HOBL HO9 hlbi ⊢
    clear hnv
    obtain ⟨g5, HA5⟩ : ∃ g, Hid (0 < nv → A9 = some ⟨g, 0, none⟩) := by
      rcases Nat.eq_zero_or_pos nv with h0 | h0
      · exact ⟨0, Lib.hid fun h => absurd h (by omega)⟩
      · obtain ⟨g, cap, e, -, -⟩ := HO9.out.form h0
        have e2 : A9 = some ⟨g, 0, none⟩ := by injection e
        exact ⟨g, Lib.hid fun _ => e2⟩
    have HCU : Hid (0 < nv → Cu w2 g5 nv) := Lib.hid fun h0 => by
      have e := HA5.out h0
      have ho := HO9.out
      rw [e] at ho
      exact Cu.of_own ho
    have hnc : nv ≤ c9 := by
      obtain ⟨A, c, e, h1, -⟩ := (show Byt w2 (.slice A9 nv c9) l from Byt.of_own HO9.out)
      injection e with e1 e2 e3
      omega
    go_loopw [22] (fun i wr => ∃ k : Nat, k ≤ nv ∧ i = .int .i64 k ∧ Hid (0 < nv → Cu wr g5 nv) ∧ Hid (Chg (fun q => (Value.slice A9 nv c9).ownBlock = some q) w2 wr)) (fun i _ => nv - (RowKit.intOf i).toNat)
    case atStart => exact ⟨0, Nat.zero_le _, rfl, HCU, Lib.hid (Chg.refl _ _)⟩
    case round =>
      obtain ⟨k, hk, rfl, HR, HC⟩ := hrel
      by_cases hlt : k < nv
      · obtain rfl := HA5.out (by omega)
        obtain ⟨v, c1⟩ := (HR.out (by omega)).c k hlt
        have f1 := (HR.out (by omega)).f (by omega) k
        have HS := Lib.hid fun x : Int => (HR.out (by omega)).put hlt x
        have hlti : (k : Int) < (nv : Int) := by omega
        go_wp2
        go_roundw
        case rel => exact ⟨k + 1, by omega, by go_num, Lib.hid fun _ => HS.out _, Lib.hid (HC.out.setCell (p := ⟨g5, k, none⟩) rfl _)⟩
        case measure => simp [RowKit.intOf]; omega
      · obtain rfl : k = nv := by omega
        have hlti : ¬ ((k : Int) < (k : Int)) := by omega
        have ha9 : A3 W.heap.size (.slice A1 n1 c1) (.slice A2 n2 c2) #[.int .i64 4, .int .i64 n, .int .u64 (ad : Int), vb, xv] wr := (HX.out w2 HB2.out).chg HC.out fun q hq => by have := HOBL.out q hq; have := HS1.out; have := HSS.out; omega
        have HA9 := Lib.hid ha9
        obtain ⟨t0, t1, t2⟩ := ha9.c7
        have u0 := ha9.c40
        have u1 := ha9.c41
        have HEND : Hid (∀ X, Chg (fun q => q = W.heap.size + 1 + 1) wr X → AcP W base b d S m (.returned (.tuple #[.pointer (some ⟨b, 0, none⟩), .agg #[.slice A1 n1 c1, .slice A2 n2 c2], .bool true])) X) := Lib.hid fun X hX => by
          have hss := HSS.out
          have hs1 := HS1.out
          have hlt := HLT.out
          have hcb : Below w1.heap.size w1 wr := HB9.out.trans (HC.out.below HB9.out.size fun q hq => (HOBL.out q hq).1)
          have hbe : Below E.heap.size E wr := HB7.out.trans (hcb.mono hs1)
          exact ac_end (HMM.out.below hbe) (HRR.out.below hbe) ((Chg.of_below HBE.out).then_below hbe) HLT.out hss.1 hss.2.1 X hX
        clear ha9 hlti hnc
        go_upto_region 25 with fail
        go_region
        all_goals
          go_wp2
          refine bodyPost_ret (results_mid rfl _ _ (W.heap.size + 2) 32 #[.slice A1 n1 c1, .slice A2 n2 c2] (0, 0) _ rfl (set2 _ _ _ _ _ _ _ HA9.out.a7) Try.underlying32 rfl info32) rfl ?_
          first
            | exact HEND.out _ (put2 (S := fun q => q = W.heap.size + 1 + 1) (Chg.refl _ _) rfl _ _)
            | exact HEND.out _ (put2 (S := fun q => q = W.heap.size + 1 + 1) (Chg.refl _ _) rfl _ _).drew
end
end Go.Proofs.Ytmnlkejhhdbhlaa
