/- The walk of MemoryHolds. Conditions stand in each theorem. -/
import Derived.Test.YtmnlkejhhdbhlaaMH
import Derived.Deep.CutBlock
namespace Go.Proofs.Ytmnlkejhhdbhlaa
open Go.RowKit Go.Shelf
attribute [local go_sem] Oper.semAt_some
set_option linter.unusedVariables false
set_option maxHeartbeats 8000000
set_option maxRecDepth 100000
theorem Rws.below {w w' : World} {v : Value} {ls : List (List UInt8)} (h : Rws w v ls) (hb : Below w.heap.size w w') : Rws w' v ls := by
  obtain ⟨A, c, e, hr⟩ := h
  refine ⟨A, c, e, fun hn => ?_⟩
  obtain ⟨g, o, e2, hg, hcell⟩ := hr hn
  refine ⟨g, o, e2, Nat.lt_of_lt_of_le hg hb.size, fun j hj => ?_⟩
  obtain ⟨u, h1, h2⟩ := hcell j hj
  exact ⟨u, (hb.cell (p := ⟨g, o + j, none⟩) hg).trans h1, h2.below hb⟩
/-- The memory, the box of the address, and what was there. -/
structure Hd (w : World) (b d q x : Nat) (m : Mm) (W : World) : Prop where
  k : Kp w b d 4096 m W
  bx : Bx1 W q 38 (.int .u64 (x : Int))
  h : w.heap.size ≤ q ∧ q ≠ b ∧ q ≠ d
section
variable {w W W' : World} {b d q x : Nat} {m m' : Mm}
theorem Hd.later (h : Hd w b d q x m W) (hb : Below W.heap.size W W') : Hd w b d q x m W' := ⟨h.k.later hb, h.bx.below hb, h.h⟩
theorem hd_write (h : Hd w b d q x m W) (hG : Gm m) (a : Nat) (v : Value) (l : List UInt8) (ha : a < 18446744073709551616) (hv : Byt w v l) (hl : l.length ≤ 4194304) :
    Calls Try.prog 16 #[.pointer (some ⟨b, 0, none⟩), .int .u64 (a : Int), v] W fun e w' => e = .returned (.int .i64 (m.chk a (l.length : Int))) ∧ Hd w b d q x (m.ch a (l.length : Int) l) w' :=
  (Write_any h.k.1 hG a v l ha (hv.below h.k.2) (hv.off fun b' hb' => by have := h.k.1.row.1; have hb' : b' = d := hb'; omega) hl).mono fun e w' ⟨a1, a2, a3⟩ => ⟨a1, h.k.mv a2 a3, (a3.block q h.bx.lt (fun hs => hs.elim h.h.2.1 h.h.2.2)).trans h.bx, h.h⟩
end
/-- The end of the law, behind the marks of its loops. -/
theorem end8 {n : Nat} {w W : World} {Ds : List Nat} {tm : Array Value} (hm : Marks w.heap.size Ds W) (hb : Below w.heap.size w W) (htm : tm.getD 6 undef = .bool true) :
    LeavesInM Fence.wide n Try.prog Try.f8 tm (OkB w) (Ds.map mrk) .returning W :=
  leaves_marks (n0 := w.heap.size) Ds W hm fun W' k1 k2 k3 k4 k5 => ⟨_, results_tmp rfl _ _ _, by rw [htm], ⟨k2.trans hb.os, k3.trans hb.tape, k4.trans hb.output, by have := hb.size; omega, fun k hk => (k5 k fun hn => by omega).trans (hb.block k hk)⟩⟩
/-- The state of the second loop: the memory, what has been touched. -/
structure Ht (w : World) (b d q qt x : Nat) (m : Mm) (v : Bool) (W : World) : Prop where
  k : Hd w b d q x m W
  bt : Bx1 W qt 4 (.bool v)
  h : w.heap.size ≤ qt ∧ qt ≠ b ∧ qt ≠ d ∧ qt ≠ q
section
variable {w W W' : World} {b d q qt x : Nat} {m : Mm} {v : Bool}
theorem Ht.later (h : Ht w b d q qt x m v W) (hb : Below W.heap.size W W') : Ht w b d q qt x m v W' := ⟨h.k.later hb, h.bt.below hb, h.h⟩
theorem Ht.put (h : Ht w b d q qt x m v W) (u : Bool) : Ht w b d q qt x m u (W.setCell ⟨qt, 0, none⟩ (.bool u)) := by
  have hc : Chg (fun k => k = qt) W (W.setCell ⟨qt, 0, none⟩ (.bool u)) := (Chg.refl (fun k => k = qt) W).setCell (p := ⟨qt, 0, none⟩) rfl _
  refine ⟨⟨⟨h.k.k.1.chg hc (fun e => h.h.2.1 e.symm) (fun e => h.h.2.2.1 e.symm), h.k.k.2.setCell h.h.1 _⟩, ?_, h.k.h⟩, heap_setCell_same W qt 0 _ 4 _ h.bt, h.h⟩
  exact (Below.heap_setCell W _ _ _ (fun e => h.h.2.2.2 (Eq.symm e))).trans h.k.bx
theorem own_mem {β : Type} {base cap B : Nat} : OwnFrom B (fun (_ : β) W => Mem W base b d cap m) := fun i X Y row hs hg hr => by
  have hx : ∀ (t : Nat) (o : Obj), X.heap[t]? = some o → o.isCells = true → Y.heap[t]? = X.heap[t]? := fun t o ho hc => hg.block t (Array.getElem?_eq_some_iff.1 ho).1 fun e => by
    obtain ⟨o', ho', hc'⟩ := (hr t e.symm).2
    rw [ho] at ho'; cases ho'; rw [hc] at hc'; cases hc'
  obtain ⟨c, h1, _⟩ := hs.blk
  obtain ⟨_, _, cur, h2, _⟩ := hs.row
  exact hs.keep fun t ht => by
    rcases ht with rfl | rfl
    · exact hx _ _ h1 rfl
    · exact hx _ _ h2 rfl
theorem own_ht {B : Nat} (hB : w.heap.size ≤ B) (f : Nat → Bool) : OwnFrom B (fun (i : Nat) W => Ht w b d q qt x m (f i) W) := fun i X Y row hs hg hr =>
  ⟨⟨⟨own_mem () X Y row hs.k.k.1 hg hr, ownFrom_below (Nat.le_refl _) hB () X Y row hs.k.k.2 hg hr⟩, own_bx B () X Y row hs.k.bx hg hr, hs.k.h⟩, own_bx B () X Y row hs.bt hg hr, hs.h⟩
end
theorem kp_byte {w W : World} {b d cap : Nat} {m : Mm} (h : Kp w b d cap m W) (hG : Gm m) (x : Nat) (y : UInt8) (hx : x < m.B.length) (hy : m.B[x]? = some y) :
    Calls Try.prog 26 #[.pointer (some ⟨b, 0, none⟩), .int .u64 (x : Int), .int .i64 1] W fun e w' => ∃ g c, e = .returned (.tuple #[.slice (some ⟨g, 0, none⟩) 1 c, .int .i64 0]) ∧ w'.cell? ⟨g, 0, none⟩ = some (.int .u8 (y.toNat : Int)) ∧ Below W.heap.size W w' := by
  have hc := Mm.chk_of (m := m) (a := x) (n := 1) (by omega)
  refine (kp_read h hG x 1 [y] 0 (by have := hG.max; omega) (by decide) hc (Mm.rd_one hc hy)).mono ?_
  rintro e w' ⟨⟨A, c, rfl, ho⟩, hb⟩
  obtain ⟨g, c4, hgf, -, -⟩ := ho.form (by simp)
  simp only [Value.slice.injEq, true_and] at hgf
  obtain ⟨rfl, rfl⟩ := hgf
  exact ⟨g, c, rfl, ho.cellAt 0 (by simp), hb⟩
theorem holds_in (vat vl : Value) (ws : List Nat) (ls : List (List UInt8)) (x0 : Nat) (w : World) (hws : U16s w vat ws) (hls : Rws w vl ls) (h1 : ls.length ≤ 30) (h2 : ls.length ≤ ws.length) (hx0 : x0 < 65536) :
    Calls Try.prog 8 #[vat, vl, .int .u16 (x0 : Int)] w (OkB w) := by
  have N0 := Lib.hid kp_new
  have HW := Lib.hid works_any
  have HWS := Lib.hid hws
  have HLS := Lib.hid hls
  obtain ⟨A, c, rfl, hlt, hr⟩ := hws
  obtain ⟨A2, c2, rfl, hr2⟩ := hls
  have HR := Lib.hid (And.intro hlt hr)
  have HR2 := Lib.hid hr2
  obtain ⟨x, hx⟩ : ∃ x, x = x0 % 4096 := ⟨_, rfl⟩
  have hxl : x < 4096 := by omega
  have HXL := Lib.hid hxl
  have hw1 : IntKind.u64.wrap (x0 : Int) = (x0 : Int) := by rw [IntKind.wrap_u64]; omega
  have hmod : ((x0 : Nat) : Int).tmod 4096 = (x : Int) := by rw [hx, Int.tmod_eq_emod_of_nonneg (by omega)]; omega
  have HLEN := Lib.hid (And.intro h1 h2)
  have g1 : decide ((ls.length : Int) > 30) = false := decide_eq_false (by omega)
  have g2 : decide ((30 : Int) < (ls.length : Int)) = false := decide_eq_false (by omega)
  have g3 : decide ((ws.length : Int) < (ls.length : Int)) = false := decide_eq_false (by omega)
  have g4 : decide (ws.length < ls.length) = false := decide_eq_false (by omega)
  have hqn := fun (W : World) (f : Fn) (x y : Array Value) => run_eql_func_nil (P := Try.prog) W 49 f x y Try.underlying49
  clear hlt hr hr2 hx hxl h1 h2 hx0
  refine (callsIn_wide (n := 9)).1 ?_
  refine callsIn_of_wp_marks Try.func8 rfl trivial ?_ rfl
  simp only [Try.ntmps8, List.size_toArray, List.length_cons, List.length_nil, Nat.reduceAdd, Nat.reduceSub, Array.replicate_succ, Array.replicate_zero, List.push_toArray, List.append_toArray, List.nil_append, List.cons_append]
  refine wpIn_wide.2 ?_
  go_upto_region 7 with (first
    | ((go_at_call 11; with_reducible refine (N0.out _).mono ?_); rintro e w1 ⟨b, d, rfl, hk⟩; have K0 := Lib.hid hk; clear hk N0)
    | ((go_at_call 13; with_reducible refine (num_any _ _).mono ?_); rintro e w' ⟨rfl, rfl⟩))
  have hbx := Bx1.new w1 38 (.int .u64 (x : Int))
  have hHd : Hd w b d w1.heap.size x (Mm.new 4096) (w1.alloc (.cells #[.int .u64 (x : Int)] 38)) := ⟨K0.out.later (below_alloc w1 _), hbx, K0.out.2.size, by have := K0.out.1.lt; omega, by have := K0.out.1.dlt; omega⟩
  have HHD := Lib.hid hHd
  have HHM := Lib.hid (Hm.new x HXL.out)
  clear hbx hHd hw1 hmod
  generalize w1.alloc (.cells #[.int .u64 (x : Int)] 38) = W0 at *
  generalize w1.heap.size = q at *
  have hlm : (ls.length : Int) ≤ 30 := by have := HLEN.out; omega
  have hlw : (ls.length : Int) ≤ (ws.length : Int) := by have := HLEN.out; omega
  go_loopw [10, 11] (fun v i wr => ∃ (k : Nat) (m : Mm) (y : UInt8), k ≤ ls.length ∧ i = .int .i64 k ∧ v = .int .u8 (y.toNat : Int) ∧ Hid (Hd w b d q x m wr) ∧ Hid (Hm x m y k)) (fun _ i _ => ls.length - (RowKit.intOf i).toNat)
  case atStart => exact ⟨0, _, 0, Nat.zero_le _, rfl, rfl, HHD, HHM⟩
  case round =>
    obtain ⟨k, m, y, hk, rfl, rfl, HD, HM⟩ := hrel
    by_cases hlt : k < ls.length
    · obtain ⟨g, o, rfl, hg, hcell⟩ := HR.out.2 (by have := HLEN.out; omega)
      obtain ⟨g2, o2, rfl, hg2', hcell2⟩ := HR2.out (by omega)
      have hkw : k < ws.length := by have := HLEN.out; omega
      have hu16 := HR.out.1 ws[k] (List.getElem_mem hkw)
      have cw := (HD.out.k.bel.cell (p := ⟨g, o + k, none⟩) hg).trans (hcell k hkw)
      obtain ⟨u, hu, hub⟩ := hcell2 k hlt
      have cu := (HD.out.k.bel.cell (p := ⟨g2, o2 + k, none⟩) hg2').trans hu
      have hkwi : (k : Int) < (ws.length : Int) := by omega
      have hkli : (k : Int) < (ls.length : Int) := by omega
      obtain ⟨z, hz⟩ : ∃ z, z = ws[k] := ⟨_, rfl⟩
      obtain ⟨l, hl⟩ : ∃ l, l = ls[k] := ⟨_, rfl⟩
      rw [← hz] at cw hu16
      rw [← hl] at hub
      obtain ⟨a, ha⟩ : ∃ a, a = z % 4096 := ⟨_, rfl⟩
      have hal : a < 4096 := by omega
      have hw1 : IntKind.u64.wrap (z : Int) = (z : Int) := by rw [IntKind.wrap_u64]; omega
      have hmod : ((z : Nat) : Int).tmod 4096 = (a : Int) := by rw [ha, Int.tmod_eq_emod_of_nonneg (by omega)]; omega
      obtain ⟨n, hn⟩ : ∃ n, n = l.length := ⟨_, rfl⟩
      obtain ⟨Au, cu2, rfl, hcu, hru⟩ := id hub
      rw [← hn] at cu hu
      have HCU := Lib.hid (And.intro hg2' hu)
      have HL0 := Lib.hid (show n = l.length ∧ a < 4096 ∧ k < ls.length ∧ ls.length ≤ 30 from ⟨hn, hal, hlt, HLEN.out.1⟩)
      have hkm : k < 1000 := by have := HLEN.out; omega
      clear hz hl ha hal hu hcell hcell2 hu16 hkw
      by_cases hbig : n ≤ 200
      · have hbg : decide ((n : Int) > 200) = false := decide_eq_false (by omega)
        have hbg2 : decide ((200 : Int) < (n : Int)) = false := decide_eq_false (by omega)
        have hbg3 : decide (200 < n) = false := decide_eq_false (by omega)
        have hw2 : IntKind.u64.wrap (n : Int) = (n : Int) := by rw [IntKind.wrap_u64]; omega
        have hw3 : IntKind.u64.wrap ((a : Int) + (n : Int)) = (a : Int) + (n : Int) := by rw [IntKind.wrap_u64]; have := HL0.out; omega
        have HWr := Lib.hid (show Calls Try.prog 16 #[.pointer (some ⟨b, 0, none⟩), .int .u64 (a : Int), .slice Au n cu2] wr fun e w' => e = .returned (.int .i64 (m.chk a (n : Int))) ∧ Hd w b d q x (m.ch a (n : Int) l) w' from by
          have := hd_write HD.out HM.out.gm a (.slice Au l.length cu2) l (by have := HL0.out; omega) hub (by omega)
          rw [← hn] at this
          exact this)
        have HUB := Lib.hid hub
        have HRU := Lib.hid hru
        clear hub hru hcu
        by_cases hf : a + n ≤ 4096
        · have hck : m.chk a (n : Int) = 0 := by rw [hn]; exact HM.out.fits (by omega)
          have hfi : decide ((a : Int) + (n : Int) ≤ 4096) = true := decide_eq_true (by omega)
          have hfi2 : (a : Int) + (n : Int) ≤ 4096 := by omega
          rw [hck] at HWr
          clear hck
          by_cases hxa : a ≤ x
          · have hxi : decide ((x : Int) ≥ (a : Int)) = true := decide_eq_true (by omega)
            have hxi2 : decide ((a : Int) ≤ (x : Int)) = true := decide_eq_true (by omega)
            have hxi3 : decide (a ≤ x) = true := decide_eq_true (by omega)
            obtain ⟨t, ht⟩ : ∃ t, t = x - a := ⟨_, rfl⟩
            have hw4 : IntKind.u64.wrap ((x : Int) - (a : Int)) = (t : Int) := by rw [IntKind.wrap_u64]; have := HXL.out; omega
            by_cases hxn : t < n
            · have hxn2 : decide ((t : Int) < (n : Int)) = true := decide_eq_true (by omega)
              have hni : (t : Int) < (n : Int) := by omega
              have hw5 : IntKind.i64.wrap (t : Int) = (t : Int) := by rw [IntKind.wrap_i64]; omega
              have HM4 := Lib.hid (show Hm x (m.ch a (n : Int) l) (l[t]'(by omega)) (k + 1) from by subst hn ht; exact HM.out.in' hkm (by omega) hxa hxn)
              obtain ⟨gu, ou, rfl, hgu, hcu⟩ := HRU.out (by omega)
              have cb0 := hcu t (by omega)
              have HCB := Lib.hid (And.intro hgu cb0)
              obtain ⟨y2, hy2⟩ : ∃ y2, y2 = l[t]'(by omega) := ⟨_, rfl⟩
              rw [← hy2] at HM4 HCB
              clear hy2 cb0 hcu hgu hn ht hf hxa hbig hkm
              go_upto_region 16 with (first
                | ((go_at_call 16; with_reducible refine HWr.out.mono ?_); rintro e w4 ⟨rfl, hd⟩; have HD4 := Lib.hid hd; have cu4 := (hd.k.bel.cell (p := ⟨g2, o2 + k, none⟩) HCU.out.1).trans HCU.out.2; clear hd)
                | ((go_at_call 13; with_reducible refine (num_any _ _).mono ?_); rintro e w' ⟨rfl, rfl⟩))
              have hne := gw_ne w4
              have cx := fun z : Gw w4 => z.cell HD4.out.bx.cell
              have cuu := fun z : Gw w4 => z.cell ((HD4.out.k.bel.cell (p := ⟨g2, o2 + k, none⟩) HCU.out.1).trans HCU.out.2)
              refine wp_region_gw (by kernel_rfl) (by kernel_rfl) ?_
              repeat (go_big_quiet_step ((fail)))
              refine wpQuiet_nil ?_
              rintro w5 ⟨⟨_, hg5⟩, rfl⟩
              have HD5 := Lib.hid (HD4.out.later hg5.below)
              clear cx cuu hne hg5
              go_upto_region 17 with fail
              have hne := gw_ne w5
              have cx := fun z : Gw w5 => z.cell HD5.out.bx.cell
              have cuu := fun z : Gw w5 => z.cell ((HD5.out.k.bel.cell (p := ⟨g2, o2 + k, none⟩) HCU.out.1).trans HCU.out.2)
              have cbb := fun z : Gw w5 => z.cell ((HD5.out.k.bel.cell (p := ⟨gu, ou + t, none⟩) HCB.out.1).trans HCB.out.2)
              refine wp_region_gw (by kernel_rfl) (by kernel_rfl) ?_
              repeat (go_big_quiet_step ((fail)))
              refine wpQuiet_nil ?_
              rintro w6 ⟨⟨_, hg6⟩, rfl⟩
              have HD6 := Lib.hid (HD5.out.later hg6.below)
              clear cx cuu cbb hne hg6
              go_wp2
              go_roundw
              case rel => exact ⟨k + 1, _, y2, by have := HL0.out; omega, by go_num, rfl, HD6, HM4⟩
              case measure => simp [RowKit.intOf]; have := HL0.out; omega
            · have hxn2 : decide ((t : Int) < (n : Int)) = false := decide_eq_false (by omega)
              have hxn3 : decide (t < n) = false := decide_eq_false (by omega)
              have HM4 := Lib.hid (show Hm x (m.ch a (n : Int) l) y (k + 1) from by subst hn ht; exact HM.out.out hkm (by omega) (by omega))
              clear hn ht hf hxa hbig hkm hxn
              go_upto_region 16 with (first
                | ((go_at_call 16; with_reducible refine HWr.out.mono ?_); rintro e w4 ⟨rfl, hd⟩; have HD4 := Lib.hid hd; have cu4 := (hd.k.bel.cell (p := ⟨g2, o2 + k, none⟩) HCU.out.1).trans HCU.out.2; clear hd)
                | ((go_at_call 13; with_reducible refine (num_any _ _).mono ?_); rintro e w' ⟨rfl, rfl⟩))
              have hne := gw_ne w4
              have cx := fun z : Gw w4 => z.cell HD4.out.bx.cell
              have cuu := fun z : Gw w4 => z.cell ((HD4.out.k.bel.cell (p := ⟨g2, o2 + k, none⟩) HCU.out.1).trans HCU.out.2)
              refine wp_region_gw (by kernel_rfl) (by kernel_rfl) ?_
              repeat (go_big_quiet_step ((fail)))
              refine wpQuiet_nil ?_
              rintro w5 ⟨⟨_, hg5⟩, rfl⟩
              have HD5 := Lib.hid (HD4.out.later hg5.below)
              clear cx cuu hne hg5
              go_wp2
              go_roundw
              case rel => exact ⟨k + 1, _, y, by have := HL0.out; omega, by go_num, rfl, HD5, HM4⟩
              case measure => simp [RowKit.intOf]; have := HL0.out; omega
          · have hxi : decide ((x : Int) ≥ (a : Int)) = false := decide_eq_false (by omega)
            have hxi2 : decide ((a : Int) ≤ (x : Int)) = false := decide_eq_false (by omega)
            have hxi3 : decide (a ≤ x) = false := decide_eq_false (by omega)
            have HM4 := Lib.hid (show Hm x (m.ch a (n : Int) l) y (k + 1) from by subst hn; exact HM.out.out hkm (by omega) (by omega))
            clear hn hf hxa hbig hkm
            go_upto_region 16 with (first
              | ((go_at_call 16; with_reducible refine HWr.out.mono ?_); rintro e w4 ⟨rfl, hd⟩; have HD4 := Lib.hid hd; have cu4 := (hd.k.bel.cell (p := ⟨g2, o2 + k, none⟩) HCU.out.1).trans HCU.out.2; clear hd)
              | ((go_at_call 13; with_reducible refine (num_any _ _).mono ?_); rintro e w' ⟨rfl, rfl⟩))
            have hne := gw_ne w4
            have cx := fun z : Gw w4 => z.cell HD4.out.bx.cell
            have cuu := fun z : Gw w4 => z.cell ((HD4.out.k.bel.cell (p := ⟨g2, o2 + k, none⟩) HCU.out.1).trans HCU.out.2)
            refine wp_region_gw (by kernel_rfl) (by kernel_rfl) ?_
            repeat (go_big_quiet_step ((fail)))
            refine wpQuiet_nil ?_
            rintro w5 ⟨⟨_, hg5⟩, rfl⟩
            have HD5 := Lib.hid (HD4.out.later hg5.below)
            clear cx cuu hne hg5
            go_wp2
            go_roundw
            case rel => exact ⟨k + 1, _, y, by have := HL0.out; omega, by go_num, rfl, HD5, HM4⟩
            case measure => simp [RowKit.intOf]; have := HL0.out; omega
        · have hck : m.chk a (n : Int) = 3 := by rw [hn]; exact HM.out.nofit (by omega)
          have hfi : decide ((a : Int) + (n : Int) ≤ 4096) = false := decide_eq_false (by omega)
          have hfi2 : ¬ (a : Int) + (n : Int) ≤ 4096 := by omega
          rw [hck] at HWr
          have HM4 := Lib.hid (show Hm x (m.ch a (n : Int) l) y (k + 1) from by subst hn; exact HM.out.no (by omega))
          clear hck hn hf hbig hkm
          go_upto_region 16 with (first
            | ((go_at_call 16; with_reducible refine HWr.out.mono ?_); rintro e w4 ⟨rfl, hd⟩; have HD4 := Lib.hid hd; have cu4 := (hd.k.bel.cell (p := ⟨g2, o2 + k, none⟩) HCU.out.1).trans HCU.out.2; clear hd)
            | ((go_at_call 13; with_reducible refine (num_any _ _).mono ?_); rintro e w' ⟨rfl, rfl⟩))
          have hne := gw_ne w4
          have cx := fun z : Gw w4 => z.cell HD4.out.bx.cell
          have cuu := fun z : Gw w4 => z.cell ((HD4.out.k.bel.cell (p := ⟨g2, o2 + k, none⟩) HCU.out.1).trans HCU.out.2)
          refine wp_region_gw (by kernel_rfl) (by kernel_rfl) ?_
          repeat (go_big_quiet_step ((fail)))
          refine wpQuiet_nil ?_
          rintro w5 ⟨⟨_, hg5⟩, rfl⟩
          have HD5 := Lib.hid (HD4.out.later hg5.below)
          clear cx cuu hne hg5
          go_wp2
          go_roundw
          case rel => exact ⟨k + 1, _, y, by have := HL0.out; omega, by go_num, rfl, HD5, HM4⟩
          case measure => simp [RowKit.intOf]; have := HL0.out; omega
      · have hbg : decide ((n : Int) > 200) = true := decide_eq_true (by omega)
        have hbg2 : decide ((200 : Int) < (n : Int)) = true := decide_eq_true (by omega)
        have hbg3 : decide (200 < n) = true := decide_eq_true (by omega)
        clear hub hru hcu hn hbig hkm
        have HBD := Lib.hid HD.out.k.bel
        go_wp2_with ((go_at_call 10; with_reducible refine (HW.out _).mono ?_); rintro e w9 ⟨rfl, hb⟩; have HB9 := Lib.hid hb; clear hb)
        exact end8 (Ds := []) (Marks.nil _ _) (HBD.out.trans (HB9.out.mono HBD.out.size)) rfl
    · have hkl : k = ls.length := by omega
      have HMk := Lib.hid HM.out.cnt
      have HK30 := Lib.hid (show k ≤ 30 from by have := HLEN.out; omega)
      have hdk : decide ((k : Int) < (ls.length : Int)) = false := decide_eq_false (by omega)
      have hdk2 : decide (k < ls.length) = false := decide_eq_false (by omega)
      clear hkl hk hlt
      have HWs := Lib.hid (Writes_any (w := wr.alloc (.cells #[.bool false] 4)) ((HD.out.later (below_alloc wr _)).k.1) HM.out.gm.pos)
      have HH0 : Hid (Ht w b d q wr.heap.size x m false (wr.alloc (.cells #[.bool false] 4))) := Lib.hid ⟨HD.out.later (below_alloc wr _), Bx1.new wr 4 _, HD.out.k.2.size, by have := HD.out.k.1.lt; omega, by have := HD.out.k.1.dlt; omega, by have := HD.out.bx.lt; omega⟩
      go_wp2_with ((go_at_call 17; with_reducible refine HWs.out.mono ?_); rintro e w2 ⟨ql, rfl, hql, hlb, hb⟩; have HQ := Lib.hid (And.intro hql hlb); have HH2 := Lib.hid (HH0.out.later hb); clear hql hlb hb)
      obtain ⟨qt, hqt⟩ : ∃ qt, qt = wr.heap.size := ⟨_, rfl⟩
      have HQT := Lib.hid (show ql ≠ qt from by have := HQ.out.1; rw [World.size_alloc] at this; omega)
      rw [← hqt] at HH2
      rw [← hqt]
      have hfr : fr m.L = 0 := by have := HMk.out; have := HK30.out; unfold fr; omega
      have HFR := Lib.hid hfr
      have HLL := Lib.hid (show m.L.length ≤ 1000000 from by have := HMk.out; have := HK30.out; omega)
      clear HH0 hqt HWs hfr hdk hdk2
      refine (wpIn_wide (n := 9)).1 ?_
      refine range_box (gf := 46) (w0 := w2) (L := m.L) (S := (· = qt)) (fun B x y t => ((t.setIfInBounds 112 x).setIfInBounds 113 y).setIfInBounds 18 (.pointer (some ⟨B, 0, none⟩))) rfl (enters_of Try.func46 (by kernel_rfl) rfl) (writes1_yields _ _ ql m.L w2 HLL.out HQT.out HQ.out.2) (Below.refl _ _)
        (fun j W' => Ht w b d q qt x m (tch x m.L j) W') (fun cd j W' => False) (own_ht HH2.out.k.k.2.size _) (fun cd j X Y row hs hg hr => hs.elim) (by rw [tch_zero]; exact HH2.out) ?assign ?body ?done ?stop
      case assign =>
        intro l'' i p W' K' hK'
        gi_wp2
        exact hK'
      case body =>
        rintro l'' j hj B W' hht hB
        have hp := HM.out.gm.fits _ (List.getElem_mem hj)
        rw [HM.out.len] at hp
        have hj2 : j < m.L.length := by rw [HFR.out] at hj; omega
        have hsucc := tch_succ (x := x) hj2
        have hpe : m.L[fr m.L + j] = m.L[j] := by simp [HFR.out]
        rw [hpe] at hp hB
        obtain ⟨p, hpq⟩ : ∃ p, p = m.L[j] := ⟨_, rfl⟩
        rw [← hpq] at hp hB hsucc
        simp only [hpe, ← hpq]
        obtain ⟨p1, p2⟩ := p
        have e := fun i => cell_of_row W' B i _ 47 (0, 0) hB
        have e0 := e 0
        have e1 := e 1
        simp only [sc] at e0 e1 hp ⊢
        have cx := hht.k.bx.cell
        have ct := hht.bt.cell
        have ft := hht.bt.free
        have HKF := Lib.hid (fun v => ri_kf (B := w2.heap.size) (Below.refl W'.heap.size W') (N := qt) HH2.out.bt.lt v)
        have HHT := Lib.hid (fun u => hht.put u)
        have HSU := Lib.hid hsucc
        have HP := Lib.hid hp
        have hw2 : IntKind.u64.wrap (p2 : Int) = (p2 : Int) := by rw [IntKind.wrap_u64]; omega
        have hw2' : (p2 : Int) ≤ 4096 := by omega
        clear hht hsucc hpe hpq e hB hj hj2 hp
        generalize tch x m.L j = tv at *
        cases tv
        · by_cases q1 : p1 ≤ x
          · have q1b : decide (p1 ≤ x) = true := decide_eq_true q1
            have q1c : decide ((p1 : Int) ≤ (x : Int)) = true := decide_eq_true (by omega)
            have q1d : decide ((x : Int) ≥ (p1 : Int)) = true := decide_eq_true (by omega)
            obtain ⟨t, ht⟩ : ∃ t, t = x - p1 := ⟨_, rfl⟩
            have hw4 : IntKind.u64.wrap ((x : Int) - (p1 : Int)) = (t : Int) := by rw [IntKind.wrap_u64]; have := HXL.out; omega
            by_cases q2 : t < p2
            · have q2b : decide (t < p2) = true := decide_eq_true q2
              have q2c : decide ((t : Int) < (p2 : Int)) = true := decide_eq_true (by omega)
              have HN := Lib.hid (show tch x m.L (j + 1) = true from by rw [HSU.out]; unfold cov; rw [decide_eq_true (show (p1, p2).1 ≤ x from q1), decide_eq_true (show x - (p1, p2).1 < (p1, p2).2 from by subst ht; exact q2)]; rfl)
              clear ht q1 q2
              gi_wp2
              exact ⟨(HKF.out _).1, (HKF.out _).2, by rw [HN.out]; exact HHT.out true⟩
            · have q2b : decide (t < p2) = false := decide_eq_false q2
              have q2c : decide ((t : Int) < (p2 : Int)) = false := decide_eq_false (by omega)
              have HN := Lib.hid (show tch x m.L (j + 1) = false from by rw [HSU.out]; unfold cov; rw [decide_eq_true (show (p1, p2).1 ≤ x from q1), decide_eq_false (show ¬ x - (p1, p2).1 < (p1, p2).2 from by subst ht; exact q2)]; rfl)
              clear ht q1 q2
              gi_wp2
              exact ⟨(HKF.out _).1, (HKF.out _).2, by rw [HN.out]; exact HHT.out false⟩
          · have q1b : decide (p1 ≤ x) = false := decide_eq_false q1
            have q1c : decide ((p1 : Int) ≤ (x : Int)) = false := decide_eq_false (by omega)
            have q1d : decide ((x : Int) ≥ (p1 : Int)) = false := decide_eq_false (by omega)
            have HN := Lib.hid (show tch x m.L (j + 1) = false from by rw [HSU.out]; unfold cov; rw [decide_eq_false (show ¬ (p1, p2).1 ≤ x from q1)]; rfl)
            clear q1
            gi_wp2
            exact ⟨(HKF.out _).1, (HKF.out _).2, by rw [HN.out]; exact HHT.out false⟩
        · have HN := Lib.hid (show tch x m.L (j + 1) = true from by rw [HSU.out]; rfl)
          gi_wp2
          exact ⟨(HKF.out _).1, (HKF.out _).2, by rw [HN.out]; exact HHT.out true⟩
      case done =>
        rintro D W10 hD hht hd
        rw [HFR.out, Nat.sub_zero] at hht
        have HMK : Hid (Marks w.heap.size [D] W10) := Lib.hid (mark1 (Nat.le_refl _) hht.k.k.2 (by have := HH2.out.k.k.2.size; omega) hd)
        have HRD := Lib.hid (kp_byte hht.k.k HM.out.gm x y (by have := HXL.out; have := HM.out.len; omega) HM.out.at')
        have cx := hht.k.bx.cell
        have HHT := Lib.hid hht
        have hy0 : tch x m.L m.L.length = false → y = 0 := fun h => by
          rcases Decidable.em (y = 0) with h1 | h1
          · exact h1
          · rw [tch_all (HM.out.log h1)] at h; cases h
        have HY0 := Lib.hid hy0
        clear hht hd hy0
        generalize tch x m.L m.L.length = tv at *
        cases tv
        · obtain rfl := HY0.out rfl
          go_wp2_with (first
            | ((go_at_call 26; with_reducible refine HRD.out.mono ?_); rintro e w11 ⟨g3, c3, rfl, c11, hb⟩; have ct := (HHT.out.later hb).bt.cell; have HB11 := Lib.hid ((HHT.out.later hb).k.k.2); have HMK1 := Lib.hid (HMK.out.below hb); clear hb)
            | ((go_at_call 13; with_reducible refine (num_any _ _).mono ?_); rintro e w' ⟨rfl, rfl⟩)
            | ((go_at_call 10; with_reducible refine (HW.out _).mono ?_); rintro e w12 ⟨rfl, hb⟩; have HB12 := Lib.hid (HB11.out.trans (hb.mono HB11.out.size)); have HMK2 := Lib.hid (HMK1.out.below hb); clear hb))
          exact end8 HMK2.out HB12.out rfl
        · go_wp2_with (first
            | ((go_at_call 26; with_reducible refine HRD.out.mono ?_); rintro e w11 ⟨g3, c3, rfl, c11, hb⟩; have ct := (HHT.out.later hb).bt.cell; have HB11 := Lib.hid ((HHT.out.later hb).k.k.2); have HMK1 := Lib.hid (HMK.out.below hb); clear hb)
            | ((go_at_call 13; with_reducible refine (num_any _ _).mono ?_); rintro e w' ⟨rfl, rfl⟩)
            | ((go_at_call 10; with_reducible refine (HW.out _).mono ?_); rintro e w12 ⟨rfl, hb⟩; have HB12 := Lib.hid (HB11.out.trans (hb.mono HB11.out.size)); have HMK2 := Lib.hid (HMK1.out.below hb); clear hb))
          exact end8 HMK2.out HB12.out rfl
      case stop =>
        rintro D cd j W10 hD hj hf hd
        exact hf.elim
end Go.Proofs.Ytmnlkejhhdbhlaa
