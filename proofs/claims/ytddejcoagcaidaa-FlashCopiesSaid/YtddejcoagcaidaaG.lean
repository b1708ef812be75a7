/- The contract of written. Conditions stand in each theorem. -/
import Derived.Test.YtddejcoagcaidaaF
namespace Go.Proofs.Ytddejcoagcaidaa
open Go.RowKit
set_option linter.unusedVariables false
set_option maxHeartbeats 1000000
set_option maxRecDepth 100000
/-- The bytes l, from n up to k all FF. -/
def ffl (l : List UInt8) (n k : Nat) : List UInt8 := l.take n ++ (List.replicate (k - n) 255 ++ l.drop k)
theorem ffl_length {l : List UInt8} {n k : Nat} (h : n ≤ k) (h2 : k ≤ l.length) : (ffl l n k).length = l.length := by
  unfold ffl
  simp
  omega
theorem ffl_start (l : List UInt8) (n : Nat) : ffl l n n = l := by
  unfold ffl
  simp
theorem ffl_step {l : List UInt8} {n k : Nat} (h : n ≤ k) (h2 : k < l.length) : (ffl l n k).set k 255 = ffl l n (k + 1) := by
  unfold ffl
  have hl : (l.take n).length = n := by simp; omega
  rw [List.set_append_right _ _ (by omega), hl, List.set_append_right _ _ (by simp)]
  simp only [List.length_replicate, Nat.sub_self]
  rw [List.drop_eq_getElem_cons h2, List.set_cons_zero, show k + 1 - n = k - n + 1 by omega, List.replicate_succ', List.append_assoc]
  rfl
/-- The bytes l of which the first n were programmed. -/
def ffAll (l : List UInt8) (n : Nat) : List UInt8 := if n < l.length then l.take n ++ List.replicate (l.length - n) 255 else l
theorem ffl_end {l : List UInt8} {n : Nat} (h : n < l.length) : ffl l n l.length = ffAll l n := by
  unfold ffl ffAll
  rw [if_pos h]
  simp
theorem ffAll_length (l : List UInt8) (n : Nat) : (ffAll l n).length = l.length := by
  unfold ffAll
  split
  · simp; omega
  · rfl
theorem bv_set (l : List UInt8) (k : Nat) (b : UInt8) : (bv l).set k (.int .u8 (b.toNat : Int)) = bv (l.set k b) := by
  unfold bv
  rw [List.map_set]
def wr (x y : List UInt8) (n : Nat) : Pg := ⟨if n < (x ++ y).length then 3 else 2, (ffAll (x ++ y) n).take x.length, (ffAll (x ++ y) n).drop x.length⟩
def PagePost (lb : Nat) (w : World) (p : Pg) (e : Ending) (w' : World) : Prop := ∃ A1 n1 c1 A2 n2 c2, e = .returned (.agg #[.slice A1 n1 c1, .slice A2 n2 c2, .int .i64 p.st]) ∧ BytT lb w' (.slice A1 n1 c1) p.d ∧ BytT lb w' (.slice A2 n2 c2) p.s ∧ Below w.heap.size w w'
theorem info91 : (Try.prog.info? 91).map (·.size) = some 3 := by kernel_rfl
theorem three_cells {w : World} {b : Nat} {x y z : Value} {t : TypeId} (h : w.heap[b]? = some (.cells #[x, y, z] t (0, 0))) :
    w.cell? ⟨b, 0, none⟩ = some x ∧ w.cell? ⟨b, 1, none⟩ = some y ∧ w.cell? ⟨b, 2, none⟩ = some z ∧ w.frozen? ⟨b, 0, none⟩ = false ∧ w.frozen? ⟨b, 1, none⟩ = false ∧ w.frozen? ⟨b, 2, none⟩ = false := by
  have e := fun k => cell_of_row w b k _ t (0, 0) h
  have f := fun k => frozen_of_row w b k _ t h
  exact ⟨e 0, e 1, e 2, f 0, f 1, f 2⟩
theorem own_some {w : World} {base : Nat} {A : Option Addr} {n c : Nat} {xs : List Value} (h : w.ownsRow base 5 1 (.slice A n c) n xs) (h0 : 0 < n) : ∃ p, A = some ⟨p, 0, none⟩ ∧ n ≤ c ∧ base ≤ p := by
  rcases h.2 with ⟨e, h1⟩ | ⟨g, cap, cur, e, hb, _, hnc, _⟩
  · omega
  · simp only [Value.slice.injEq] at e
    exact ⟨g, e.1, by omega, hb⟩
theorem written_torn {lb : Nat} (v0 v1 : Value) (x y : List UInt8) (n : Nat) (w : World) (hlb : lb ≤ w.heap.size) (h0 : Byt w v0 x) (h1 : Byt w v1 y) (hx : x.length ≤ 100000) (hy : y.length ≤ 100000) (hn : n < (x ++ y).length) :
    Calls Try.prog 73 #[v0, v1, .int .i64 (n : Int)] w (PagePost lb w (wr x y n)) := by
  have HLO := Lib.hid hlb
  have hst : (wr x y n).st = 3 := if_pos hn
  have b1 : Below w.heap.size w ((w.alloc (.cells #[.slice none 0 0, .slice none 0 0, .int .i64 0] 91)).alloc (.cells #[v0, v1] 41)) := (below_alloc w _).alloc (by simp) _
  have hl : (x ++ y).length = x.length + y.length := List.length_append
  have HC : Hid (Calls Try.prog 63 #[.slice (some ⟨w.heap.size + 1, 0, none⟩) 2 2] ((w.alloc (.cells #[.slice none 0 0, .slice none 0 0, .int .i64 0] 91)).alloc (.cells #[v0, v1] 41)) (NewBytes _ (x ++ y))) :=
    Lib.hid (Concat_any (w.heap.size + 1) v0 v1 x y _ (by simp) (by simp) (h0.below b1) (h1.below b1) hx hy)
  obtain ⟨A0, k0, rfl, _, _⟩ := h0
  obtain ⟨A1, k1, rfl, _, _⟩ := h1
  have HSP := Lib.hid (fun A c W (h : BytT lb W (.slice A (x ++ y).length c) (ffAll (x ++ y) n)) (hc : (x ++ y).length ≤ c) => split_any A (x ++ y).length c x.length ((ffAll (x ++ y) n).take x.length) ((ffAll (x ++ y) n).drop x.length) W (by rw [List.take_append_drop]; exact h) (by rw [List.length_take, ffAll_length]; omega) hc)
  have HB1 := Lib.hid b1
  have HST := Lib.hid hst
  have HFE := Lib.hid (ffl_end hn)
  have HFS := Lib.hid (ffl_start (x ++ y) n)
  have HST2 := Lib.hid (fun k (h : n ≤ k) (h2 : k < (x ++ y).length) => ffl_step h h2)
  clear hst b1
  have HL := Lib.hid hl
  obtain ⟨L, hL⟩ : ∃ L, L = (x ++ y).length := ⟨_, rfl⟩
  have hm : L ≤ 200000 := by omega
  have hnL : n < L := by omega
  have HLE := Lib.hid hL
  clear hL hl hn
  go_enter Try.func73, Try.ntmps73
  go_wp2_with fail
  refine HC.out.mono ?_
  rintro e w1 ⟨⟨A, c, rfl, ho⟩, hb⟩
  rw [← HLE.out] at ho ⊢
  have HB := Lib.hid (HB1.out.trans (hb.mono HB1.out.size))
  obtain ⟨g, rfl, hc, hg⟩ := own_some ho (by omega)
  have HO := Lib.hid ho
  have HW : Hid (w1.heap[w.heap.size]? = some (.cells #[.slice none 0 0, .slice none 0 0, .int .i64 0] 91 (0, 0))) := Lib.hid ((hb.block _ (by simp; omega)).trans (((below_alloc (w.alloc _) _).block _ (by simp)).trans (heap_alloc_new w _)))
  have HG : Hid (w.heap.size + 2 ≤ g) := Lib.hid (by simpa using hg)
  clear hb ho hg
  go_wp2
  go_loopw [9] (fun i wr => ∃ k : Nat, n ≤ k ∧ k ≤ L ∧ i = .int .i64 k ∧ Hid (wr.ownsRow (w.heap.size + 2) 5 1 (.slice (some ⟨g, 0, none⟩) L c) L (bv (ffl (x ++ y) n k))) ∧ Hid (Chg (· = g) w1 wr)) (fun i _ => L - (RowKit.intOf i).toNat)
  case atStart => exact ⟨n, Nat.le_refl _, by omega, rfl, Lib.hid (by rw [HFS.out]; simpa using HO.out), Lib.hid (Chg.refl _ _)⟩
  case round =>
    obtain ⟨k, hk1, hk2, rfl, HR, HCh⟩ := hrel
    by_cases hlt : k < L
    · have f1 := HR.out.frozenAt k
      have c1 : ∃ u, wr.cell? ⟨g, k, none⟩ = some u := by
        rw [HR.out.cellAt k (by omega)]
        exact ⟨_, List.getElem?_eq_getElem (by rw [bv_length, ffl_length hk1 (by rw [← HLE.out]; exact hk2), ← HLE.out]; exact hlt)⟩
      obtain ⟨u, c1⟩ := c1
      have h255 : Hid (IntKind.u8.wrap 255 = 255) := Lib.hid rfl
      go_wp2
      go_roundw
      case rel =>
        refine ⟨k + 1, by omega, by omega, by go_num, Lib.hid ?_, Lib.hid (HCh.out.setCell rfl _)⟩
        have h2 := HR.out.stored k (.int .u8 255)
        have h3 : (bv (ffl (x ++ y) n k)).set k (.int .u8 255) = bv (ffl (x ++ y) n (k + 1)) := by
          rw [← HST2.out k hk1 (by rw [← HLE.out]; exact hlt)]
          exact bv_set _ k 255
        rw [h3] at h2
        exact h2.1
      case measure => simp [RowKit.intOf]; omega
    · have hkl : k = L := by omega
      subst hkl
      have hrow : BytT lb wr (.slice (some ⟨g, 0, none⟩) k c) (ffAll (x ++ y) n) := by
        have h2 := HR.out
        rw [show ffl (x ++ y) n k = ffAll (x ++ y) n by rw [← HFE.out, ← HLE.out]] at h2
        exact BytT.of_own h2 (by have := HLO.out; omega)
      have hs := HSP.out (some ⟨g, 0, none⟩) c wr (by rw [← HLE.out]; exact hrow) (by rw [← HLE.out]; exact hc)
      rw [← HLE.out] at hs
      have HS2 := Lib.hid hs
      have HW2 : Hid (wr.heap[w.heap.size]? = some (.cells #[.slice none 0 0, .slice none 0 0, .int .i64 0] 91 (0, 0))) := Lib.hid ((HCh.out.block _ (by have := HB.out.size; have h2 := (Array.getElem?_eq_some_iff.1 HW.out).1; exact h2) (by have := HG.out; omega)).trans HW.out)
      have HB2 : Hid (Below w.heap.size w wr) := Lib.hid (HB.out.trans (HCh.out.below HB.out.size (fun i hi => by have := HG.out; omega)))
      clear hrow hs
      go_wp2_with (first
        | ((go_at_call 62; with_reducible refine HS2.out.mono ?_); rintro e w5 ⟨P1, n1, c1, P2, n2, c2, rfl, hp1, hp2, hb⟩; have HP1 := Lib.hid hp1; have HP2 := Lib.hid hp2; have HB5 := Lib.hid (HB2.out.trans (hb.mono HB2.out.size)); have HW5 : Hid (w5.heap[w.heap.size]? = some (.cells #[.slice none 0 0, .slice none 0 0, .int .i64 0] 91 (0, 0))) := Lib.hid ((hb.block _ (Array.getElem?_eq_some_iff.1 HW2.out).1).trans HW2.out); obtain ⟨y0, y1, y2, z0, z1, z2⟩ := three_cells HW5.out; clear hb hp1 hp2))
      (try simp only [Exit.inBlock, Exit.then])
      refine bodyPost_ret (v := .agg #[.slice P1 n1 c1, .slice P2 n2 c2, .int .i64 3]) ?_ rfl ?_
      · exact results_cell_row (P := Try.prog) (p := 6) (ty := 91) rfl _ _ w.heap.size 91 #[.slice P1 n1 c1, .slice P2 n2 c2, .int .i64 3] (0, 0) _ rfl (heap_setCell_same _ _ 2 _ 91 _ (heap_setCell_same _ _ 1 _ 91 _ (heap_setCell_same _ _ 0 _ 91 _ HW5.out))) Try.underlying91 rfl info91
      · have hc6 : Chg (· = w.heap.size) w5 (((w5.setCell ⟨w.heap.size, 0, none⟩ (.slice P1 n1 c1)).setCell ⟨w.heap.size, 1, none⟩ (.slice P2 n2 c2)).setCell ⟨w.heap.size, 2, none⟩ (.int .i64 3)) := (((Chg.refl (· = w.heap.size) w5).setCell rfl _).setCell rfl _).setCell rfl _
        have hb6 := HB5.out.trans (hc6.below HB5.out.size (fun i hi => by omega))
        have hn6 : NoBytes (· = w.heap.size) w5 := fun k hk e cs fr e2 => by
          subst e
          rw [HW5.out] at e2
          injection e2 with e2
          injection e2 with _ e2
          exact absurd e2 (by decide)
        exact ⟨_, _, _, _, _, _, by rw [HST.out], HP1.out.chg hc6 hn6, HP2.out.chg hc6 hn6, hb6⟩
theorem written_full {lb : Nat} (v0 v1 : Value) (x y : List UInt8) (n : Nat) (w : World) (hlb : lb ≤ w.heap.size) (h0 : Byt w v0 x) (h1 : Byt w v1 y) (hx : x.length ≤ 100000) (hy : y.length ≤ 100000) (h00 : 0 < (x ++ y).length) (hn : (x ++ y).length ≤ n) :
    Calls Try.prog 73 #[v0, v1, .int .i64 (n : Int)] w (PagePost lb w (wr x y n)) := by
  have HLO := Lib.hid hlb
  have hst : (wr x y n).st = 2 := if_neg (by omega)
  have b1 : Below w.heap.size w ((w.alloc (.cells #[.slice none 0 0, .slice none 0 0, .int .i64 0] 91)).alloc (.cells #[v0, v1] 41)) := (below_alloc w _).alloc (by simp) _
  have hl : (x ++ y).length = x.length + y.length := List.length_append
  have HC : Hid (Calls Try.prog 63 #[.slice (some ⟨w.heap.size + 1, 0, none⟩) 2 2] ((w.alloc (.cells #[.slice none 0 0, .slice none 0 0, .int .i64 0] 91)).alloc (.cells #[v0, v1] 41)) (NewBytes _ (x ++ y))) :=
    Lib.hid (Concat_any (w.heap.size + 1) v0 v1 x y _ (by simp) (by simp) (h0.below b1) (h1.below b1) hx hy)
  obtain ⟨A0, k0, rfl, _, _⟩ := h0
  obtain ⟨A1, k1, rfl, _, _⟩ := h1
  have HSP := Lib.hid (fun A c W (h : BytT lb W (.slice A (x ++ y).length c) (ffAll (x ++ y) n)) (hc : (x ++ y).length ≤ c) => split_any A (x ++ y).length c x.length ((ffAll (x ++ y) n).take x.length) ((ffAll (x ++ y) n).drop x.length) W (by rw [List.take_append_drop]; exact h) (by rw [List.length_take, ffAll_length]; omega) hc)
  have HB1 := Lib.hid b1
  have HST := Lib.hid hst
  have HFE : Hid (ffAll (x ++ y) n = x ++ y) := Lib.hid (if_neg (by omega))
  clear hst b1
  have HL := Lib.hid hl
  obtain ⟨L, hL⟩ : ∃ L, L = (x ++ y).length := ⟨_, rfl⟩
  have hm : L ≤ 200000 := by omega
  have hnL : ¬ n < L := by omega
  have h0L : 0 < L := by omega
  have HLE := Lib.hid hL
  clear hL hl hn h00
  go_enter Try.func73, Try.ntmps73
  go_wp2_with fail
  refine HC.out.mono ?_
  rintro e w1 ⟨⟨A, c, rfl, ho⟩, hb⟩
  rw [← HLE.out] at ho ⊢
  have HB := Lib.hid (HB1.out.trans (hb.mono HB1.out.size))
  obtain ⟨g, rfl, hc, hg⟩ := own_some ho (by omega)
  have HW : Hid (w1.heap[w.heap.size]? = some (.cells #[.slice none 0 0, .slice none 0 0, .int .i64 0] 91 (0, 0))) := Lib.hid ((hb.block _ (by simp; omega)).trans (((below_alloc (w.alloc _) _).block _ (by simp)).trans (heap_alloc_new w _)))
  have hrow : BytT lb w1 (.slice (some ⟨g, 0, none⟩) L c) (ffAll (x ++ y) n) := by rw [HFE.out]; exact BytT.of_own ho (Nat.le_trans HLO.out (by simp <;> omega))
  have hs := HSP.out (some ⟨g, 0, none⟩) c w1 (by rw [← HLE.out]; exact hrow) (by rw [← HLE.out]; exact hc)
  rw [← HLE.out] at hs
  have HS2 := Lib.hid hs
  clear hb ho hg hrow hs
  go_wp2
  refine wp_loop_rounds 1 ?_
  rw [rounds_succ]
  go_wp2_with (first
    | ((go_at_call 62; with_reducible refine HS2.out.mono ?_); rintro e w5 ⟨P1, n1, c1, P2, n2, c2, rfl, hp1, hp2, hb⟩; have HP1 := Lib.hid hp1; have HP2 := Lib.hid hp2; have HB5 := Lib.hid (HB.out.trans (hb.mono HB.out.size)); have HW5 : Hid (w5.heap[w.heap.size]? = some (.cells #[.slice none 0 0, .slice none 0 0, .int .i64 0] 91 (0, 0))) := Lib.hid ((hb.block _ (Array.getElem?_eq_some_iff.1 HW.out).1).trans HW.out); obtain ⟨y0, y1, y2, z0, z1, z2⟩ := three_cells HW5.out; clear hb hp1 hp2))
  (try simp only [Exit.inBlock, Exit.then])
  refine bodyPost_ret (v := .agg #[.slice P1 n1 c1, .slice P2 n2 c2, .int .i64 2]) ?_ rfl ?_
  · exact results_cell_row (P := Try.prog) (p := 6) (ty := 91) rfl _ _ w.heap.size 91 #[.slice P1 n1 c1, .slice P2 n2 c2, .int .i64 2] (0, 0) _ rfl (heap_setCell_same _ _ 2 _ 91 _ (heap_setCell_same _ _ 1 _ 91 _ (heap_setCell_same _ _ 0 _ 91 _ HW5.out))) Try.underlying91 rfl info91
  · have hc6 : Chg (· = w.heap.size) w5 (((w5.setCell ⟨w.heap.size, 0, none⟩ (.slice P1 n1 c1)).setCell ⟨w.heap.size, 1, none⟩ (.slice P2 n2 c2)).setCell ⟨w.heap.size, 2, none⟩ (.int .i64 2)) := (((Chg.refl (· = w.heap.size) w5).setCell rfl _).setCell rfl _).setCell rfl _
    have hb6 := HB5.out.trans (hc6.below HB5.out.size (fun i hi => by omega))
    have hn6 : NoBytes (· = w.heap.size) w5 := fun k hk e cs fr e2 => by
      subst e
      rw [HW5.out] at e2
      injection e2 with e2
      injection e2 with _ e2
      exact absurd e2 (by decide)
    exact ⟨_, _, _, _, _, _, by rw [HST.out], HP1.out.chg hc6 hn6, HP2.out.chg hc6 hn6, hb6⟩
end Go.Proofs.Ytddejcoagcaidaa
