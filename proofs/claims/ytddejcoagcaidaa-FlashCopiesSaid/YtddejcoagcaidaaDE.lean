/- The reference's with. Conditions stand in each theorem. -/
import Derived.Test.YtddejcoagcaidaaDD
namespace Go.Proofs.Ytddejcoagcaidaa
open Go.RowKit
set_option linter.unusedVariables false
set_option maxHeartbeats 8000000
set_option maxRecDepth 100000
attribute [local go_sem ↓ 100000] builtin_appX2
theorem app_src {W : World} {t e : TypeId} {i : TypeInfo} {z : Value} {sz bytes base n m c : Nat} {v : Value} {xs news : List Value} {A : Option Addr} (ht : Try.prog.underlying t = some (.slice e)) (hi : Try.prog.info? e = some i) (hz : i.zero = some z) (h1 : i.size = sz) (h2 : i.bytes = bytes) (h3 : z.cells.size = sz) (h4 : 0 < sz)
    (hown : W.ownsRow base e sz v n xs) (hm : m = 0 → news = []) (hA : m ≠ 0 → ∃ a, A = some a ∧ ∀ j u, news[j]? = some u → W.cell? (a.add j) = some u) (hl : news.length = m * sz) (hone : ∀ u ∈ news, u.oneCell' = true) (hn : n + m ≤ maxLen) (hb : (n + m) * bytes ≤ 140737488355328) (hbase : base ≤ W.heap.size) :
    ∃ B d W', (appX2 #[t, t] t #[v, .slice A m c]).run Try.prog W = .ok (.value (.slice B (n + m) d)) W' ∧ W'.ownsRow base e sz (.slice B (n + m) d) (n + m) (xs ++ news) ∧ W.grownBy W' v.ownBlock ∧ ((Value.slice B (n + m) d).ownBlock = v.ownBlock ∨ (Value.slice B (n + m) d).ownBlock = some W.heap.size) := by
  rcases A with _ | a
  · have hm0 : m = 0 := by
      rcases Nat.eq_zero_or_pos m with h | h
      · exact h
      · obtain ⟨a, h, _⟩ := hA (by omega); cases h
    subst hm0
    have hnl := hm rfl
    subst hnl
    obtain ⟨B, d, rfl⟩ := own_form hown
    refine ⟨B, d, W, ?_, by simpa using hown, World.grownBy.refl _ _, .inl rfl⟩
    apply appX2_run
    rcases hown.2 with ⟨he, h0⟩ | ⟨g, cap, cur, he, _, _, hnc, _⟩
    · injection he with e1 e2 e3
      subst e1 e3 h0
      simp [Builtin.append_, run_underlying ht, sizeOf, typeInfo, hi, Builtin.lenOf, Builtin.firstCells]
    · injection he with e1 _ e3
      subst e1 e3
      simp [Builtin.append_, run_underlying ht, sizeOf, typeInfo, hi, Builtin.lenOf, Builtin.firstCells, hnc, storeCells]
  · by_cases hm0 : m = 0
    · subst hm0
      have hnl := hm rfl
      subst hnl
      obtain ⟨v', w', hrun, h5, h6, _, h7⟩ := run_append_own_at (P := Try.prog) W base t t e i z sz bytes ht hi hz h1 h2 h3 h4 v n xs hown a 0 c [] (by simp) (fun j u h => by simp at h) (fun _ h => by cases h) hn hb hbase
      obtain ⟨B, d, rfl⟩ := own_form h5
      exact ⟨B, d, w', appX2_run hrun, h5, h6, h7⟩
    · obtain ⟨a', ha, hc⟩ := hA hm0
      cases ha
      obtain ⟨v', w', hrun, h5, h6, _, h7⟩ := run_append_own_at (P := Try.prog) W base t t e i z sz bytes ht hi hz h1 h2 h3 h4 v n xs hown a m c news hl hc hone hn hb hbase
      obtain ⟨B, d, rfl⟩ := own_form h5
      exact ⟨B, d, w', appX2_run hrun, h5, h6, h7⟩

theorem setRow_at {W : World} {g : Nat} {cs old : Array Value} {t : TypeId} (hg : W.heap[g]? = some (.cells old t (0, 0))) : (W.setRow g cs).heap[g]? = some (.cells cs t (0, 0)) := setRow_heap W g old cs t (0, 0) hg
theorem setRow_below {B : Nat} {W w : World} {g : Nat} {cs : Array Value} (hb : Below B W w) (h : B ≤ g) : Below B W (w.setRow g cs) :=
  ⟨hb.os, hb.tape, hb.output, by rw [size_setRow]; exact hb.size, fun k hk => (setRow_other w g k cs (by omega)).trans (hb.block k hk)⟩
/-- A row is copied behind an empty one. -/
theorem app_copy {W : World} {t e : TypeId} {i : TypeInfo} {z : Value} {sz bytes m c g : Nat} {cur : Array Value} (ht : Try.prog.underlying t = some (.slice e)) (hi : Try.prog.info? e = some i) (hz : i.zero = some z) (h1 : i.size = sz) (h2 : i.bytes = bytes) (h3 : z.cells.size = sz) (h4 : 0 < sz)
    (hg : W.heap[g]? = some (.cells cur e (0, 0))) (news : List Value) (hl : news.length = m * sz) (hnews : ∀ (j : Nat) (u : Value), news[j]? = some u → cur[j]? = some u) (hone : ∀ u ∈ news, u.oneCell' = true) (hm : 0 < m) (hn : m ≤ maxLen) (hb : m * bytes ≤ 140737488355328) :
    ∃ G d W', (appX2 #[t, t] t #[.slice (some ⟨W.heap.size, 0, none⟩) 0 0, .slice (some ⟨g, 0, none⟩) m c]).run Try.prog (W.alloc (.cells #[] e)) = .ok (.value (.slice (some ⟨G, 0, none⟩) m d)) W' ∧ (∃ cur2 : Array Value, W'.heap[G]? = some (.cells cur2 e (0, 0)) ∧ m ≤ d ∧ ∀ j : Nat, j < m * sz → cur2[j]? = news[j]?) ∧ W.heap.size ≤ G ∧ Below W.heap.size W W' := by
  have hown : (W.alloc (.cells #[] e)).ownsRow W.heap.size e sz (.slice (some ⟨W.heap.size, 0, none⟩) 0 0) 0 [] := ⟨by simp, .inr ⟨W.heap.size, 0, #[], rfl, Nat.le_refl _, heap_alloc_new W _, Nat.le_refl _, Nat.zero_le _, by simp, by simp⟩⟩
  have hgl := (Array.getElem?_eq_some_iff.1 hg).1
  obtain ⟨B, d, W', hr, ho, hgr, _⟩ := app_src (m := m) (n := 0) (c := c) (A := some ⟨g, 0, none⟩) ht hi hz h1 h2 h3 h4 hown (fun h => absurd h (by omega)) (fun _ => ⟨_, rfl, fun j u hu => by
    rw [add_plain, Nat.zero_add, cell_of_row _ _ _ _ _ (0, 0) ((heap_alloc_old W _ hgl).trans hg)]
    exact hnews j u hu⟩) hl hone (by rw [Nat.zero_add]; exact hn) (by rw [Nat.zero_add]; exact hb) (by simp)
  rw [Nat.zero_add, List.nil_append] at ho
  rw [Nat.zero_add] at hr
  rcases ho.2 with ⟨e0, h0⟩ | ⟨G, cap, cur2, e0, hG, hG2, k1, k2, k3, k4⟩
  · omega
  · injection e0 with e1 _ e2
    subst e1 e2
    refine ⟨G, d, W', hr, ⟨cur2, hG2, k1, fun j hj => ?_⟩, hG, ⟨hgr.os, hgr.tape, hgr.output, by have := hgr.size; simp at this; omega, fun k hk => ?_⟩⟩
    · rw [← k4, List.getElem?_take, if_pos hj]
      simp
    · rw [hgr.block k (by simp; omega) (fun e' => by simp [Value.ownBlock] at e'; omega)]
      exact heap_alloc_old W _ hk
theorem rwith_any {lb : Nat} {w : World} {s : Dev} {vf vp ve lv : Value} {pb : Int} {F : Nat → Nat → Pg} {f : Nat → Pg} (h : GrR lb w vp s.nb s.np F) (hnb : s.nb ≤ 4096) (hn0 : 2 ≤ s.nb) (hl : PrR lb w lv s.np f) (i : Nat) (hi : i < s.nb) (hf : ∃ A n c, vf = .slice A n c) (he : ∃ A n c, ve = .slice A n c) :
    Calls Try.prog 59 #[.agg (rdv s vf vp ve pb), .int .i64 (i : Int), lv] w (fun e w' => ∃ vp', e = .returned (.agg (rdv s vf vp' ve pb)) ∧ GrR lb w' vp' s.nb s.np (fun j => if j = i then f else F j) ∧ Below w.heap.size w w') := by
  have H := Lib.hid h
  have HL := Lib.hid hl
  obtain ⟨g, c, cur, rfl, hc, hh, hrow⟩ := h
  obtain ⟨A1, n1, c1, rfl⟩ := hf
  obtain ⟨A3, n3, c3, rfl⟩ := he
  obtain ⟨lg, lc, lcur, rfl, hlc, hlh, hlr⟩ := hl
  obtain ⟨nb, np, sz, en, bk, FF, po, pb', n, off, lo⟩ := s
  simp only [rdv] at *
  obtain ⟨W0, hW0⟩ : ∃ W0, W0 = (w.alloc (.cells #[.int .i64 (nb : Int), .int .i64 (np : Int), .int .i64 (sz : Int), .int .i64 en, .slice A1 n1 c1, .slice (some ⟨g, 0, none⟩) nb c, .slice A3 n3 c3, .int .i64 n, .int .i64 po, .int .i64 pb, .bool off] 35)).alloc (.cells #[.int .i64 0, .int .i64 0, .int .i64 0, .int .i64 0, .slice none 0 0, .slice none 0 0, .slice none 0 0, .int .i64 0, .int .i64 0, .int .i64 0, .bool false] 35) := ⟨_, rfl⟩
  have hs0 : W0.heap.size = w.heap.size + 1 + 1 := by rw [hW0]; simp
  have hb0 : Below w.heap.size w W0 := by rw [hW0]; exact (balloc w _).alloc (by simp) _
  have hbx : W0.heap[w.heap.size]? = some (.cells #[.int .i64 (nb : Int), .int .i64 (np : Int), .int .i64 (sz : Int), .int .i64 en, .slice A1 n1 c1, .slice (some ⟨g, 0, none⟩) nb c, .slice A3 n3 c3, .int .i64 n, .int .i64 po, .int .i64 pb, .bool off] 35 (0, 0)) := by rw [hW0]; exact heap_alloc2_old w _ _
  have hrx : W0.heap[w.heap.size + 1]? = some (.cells #[.int .i64 0, .int .i64 0, .int .i64 0, .int .i64 0, .slice none 0 0, .slice none 0 0, .slice none 0 0, .int .i64 0, .int .i64 0, .int .i64 0, .bool false] 35 (0, 0)) := by rw [hW0]; exact heap_alloc2_new w _ _
  obtain ⟨i0, hi0, hz0, hz1, hz2⟩ := info_parts info76
  have hcell : ∀ j, j < nb → ∃ pv, cur[j]? = some pv ∧ pv.oneCell' = true := fun j hj => by
    obtain ⟨pv, h1, g', c', cur', e, _⟩ := hrow j hj
    exact ⟨pv, h1, by rw [e]; rfl⟩
  have hlen : nb ≤ cur.size := by
    rcases Nat.lt_or_ge cur.size nb with h' | h'
    · obtain ⟨pv, h1, _⟩ := hcell cur.size h'
      simp at h1
    · exact h'
  obtain ⟨G, d, W2, hrun, ⟨cur2, hG, hGd, hG2⟩, hGs, hb2⟩ := app_copy (W := W0) (m := nb) (c := c) (cur := cur) (g := g) Try.underlying33 hi0 hz0 hz1 hz2 rfl (by decide) ((hb0.block g (Array.getElem?_eq_some_iff.1 hh).1).trans hh) (cur.toList.take nb) (by rw [List.length_take]; simp; omega) (fun j u hu => by
      rw [List.getElem?_take] at hu
      split at hu
      · simpa using hu
      · cases hu) (fun u hu => by
      obtain ⟨j, hj, e⟩ := List.mem_iff_getElem.1 hu
      rw [List.length_take] at hj
      obtain ⟨pv, h1, h2⟩ := hcell j (by omega)
      rw [List.getElem_take] at e
      have : cur[j]? = some u := by rw [← e]; simp
      rw [h1] at this
      cases this
      exact h2) (by omega) (by unfold maxLen; omega) (by omega)
  have hbx2 := (hb2.block _ (by omega)).trans hbx
  have hrx2 := (hb2.block _ (by omega)).trans hrx
  have hne1 : G ≠ w.heap.size := by omega
  have hne2 : G ≠ w.heap.size + 1 := by omega
  have HB0 := Lib.hid hb0
  have HB2 := Lib.hid (hb0.trans (hb2.mono (by omega)))
  have HW0 := Lib.hid hW0
  have b5 : (W0.alloc (.cells #[] 76)).cell? ⟨w.heap.size, 5, none⟩ = some (.slice (some ⟨g, 0, none⟩) nb c) := (cell_of_row _ _ 5 _ _ _ ((heap_alloc_old W0 _ (by omega)).trans hbx)).trans rfl
  have HROW := Lib.hid hrow
  have k5 : W2.cell? ⟨w.heap.size, 5, none⟩ = some (.slice (some ⟨g, 0, none⟩) nb c) := (cell_of_row _ _ 5 _ _ _ hbx2).trans rfl
  have f5 : W2.frozen? ⟨w.heap.size, 5, none⟩ = false := frozen_of_row _ _ 5 _ _ hbx2
  have HBX := Lib.hid hbx2
  have HRX := Lib.hid hrx2
  have HG := Lib.hid hG
  have HG2 : Hid (∀ j, j < nb → cur2[j]? = cur[j]?) := Lib.hid (fun j hj => by
    rw [hG2 j (by omega), List.getElem?_take, if_pos hj]
    simp)
  have HN := Lib.hid (And.intro hne1 hne2)
  have HGS : Hid (w.heap.size + 1 < G) := Lib.hid (by omega)
  have HGD := Lib.hid hGd
  have hii : (i : Int) < (nb : Int) := by omega
  have hi0 : (0 : Int) ≤ (i : Int) := by omega
  have hnbi : (nb : Int) ≤ 4096 := by omega
  clear hbx2 hrx2 hG hG2 hne1 hne2 hGs hb0 hb2 hbx hrx hW0 hcell hlen hlr hlh hrow hh hs0 hGd hi0 hz0 hz1 hz2
  have hi0 : (0 : Int) ≤ (i : Int) := by omega
  go_enter Try.func59, Try.ntmps59
  go_upto_region 1 with fail
  rw [← HW0.out]
  go_upto_region 2 with fail
  obtain ⟨W3, hW3⟩ : ∃ W3, W3 = W2.setCell ⟨w.heap.size, 5, none⟩ (.slice (some ⟨G, 0, none⟩) nb d) := ⟨_, rfl⟩
  rw [← hW3]
  have hbx3 : W3.heap[w.heap.size]? = some (.cells #[.int .i64 (nb : Int), .int .i64 (np : Int), .int .i64 (sz : Int), .int .i64 en, .slice A1 n1 c1, .slice (some ⟨G, 0, none⟩) nb d, .slice A3 n3 c3, .int .i64 n, .int .i64 po, .int .i64 pb, .bool off] 35 (0, 0)) := by rw [hW3]; exact heap_setCell_same W2 w.heap.size 5 _ 35 _ HBX.out
  have hrx3 : W3.heap[w.heap.size + 1]? = some (.cells #[.int .i64 0, .int .i64 0, .int .i64 0, .int .i64 0, .slice none 0 0, .slice none 0 0, .slice none 0 0, .int .i64 0, .int .i64 0, .int .i64 0, .bool false] 35 (0, 0)) := by rw [hW3]; exact (heap_setCell_other W2 ⟨w.heap.size, 5, none⟩ _ _ (by show w.heap.size + 1 ≠ w.heap.size; omega)).trans HRX.out
  have hG3 : W3.heap[G]? = some (.cells cur2 76 (0, 0)) := by rw [hW3]; exact (heap_setCell_other W2 ⟨w.heap.size, 5, none⟩ _ _ HN.out.1).trans HG.out
  have HB3 : Hid (Below w.heap.size w W3) := Lib.hid (by rw [hW3]; exact HB2.out.setCell (p := ⟨w.heap.size, 5, none⟩) (Nat.le_refl _) _)
  obtain ⟨pv, hpv, hp3⟩ : ∃ pv, cur2[i]? = some pv ∧ True := by
    obtain ⟨pv, h1, _⟩ := HROW.out i hi
    exact ⟨pv, (HG2.out i hi).trans h1, trivial⟩
  have b5 : W3.cell? ⟨w.heap.size, 5, none⟩ = some (.slice (some ⟨G, 0, none⟩) nb d) := (cell_of_row _ _ 5 _ _ _ hbx3).trans rfl
  have z1 : W3.cell? ⟨G, i, none⟩ = some pv := (cell_of_row _ _ i _ _ _ hG3).trans hpv
  have z2 : W3.frozen? ⟨G, i, none⟩ = false := frozen_of_row _ _ i _ _ hG3
  clear hW3 hrun
  go_upto_region 3 with fail
  obtain ⟨W4, hW4⟩ : ∃ W4, W4 = W3.setCell ⟨G, i, none⟩ (.slice (some ⟨lg, 0, none⟩) np lc) := ⟨_, rfl⟩
  rw [← hW4]
  have hbx4 : W4.heap[w.heap.size]? = some (.cells #[.int .i64 (nb : Int), .int .i64 (np : Int), .int .i64 (sz : Int), .int .i64 en, .slice A1 n1 c1, .slice (some ⟨G, 0, none⟩) nb d, .slice A3 n3 c3, .int .i64 n, .int .i64 po, .int .i64 pb, .bool off] 35 (0, 0)) := by rw [hW4]; exact (heap_setCell_other W3 ⟨G, i, none⟩ _ _ HN.out.1.symm).trans hbx3
  have hrx4 : W4.heap[w.heap.size + 1]? = some (.cells #[.int .i64 0, .int .i64 0, .int .i64 0, .int .i64 0, .slice none 0 0, .slice none 0 0, .slice none 0 0, .int .i64 0, .int .i64 0, .int .i64 0, .bool false] 35 (0, 0)) := by rw [hW4]; exact (heap_setCell_other W3 ⟨G, i, none⟩ _ _ HN.out.2.symm).trans hrx3
  have hG4 : W4.heap[G]? = some (.cells (cur2.setIfInBounds i (.slice (some ⟨lg, 0, none⟩) np lc)) 76 (0, 0)) := by rw [hW4]; exact heap_setCell_same W3 G i cur2 76 _ hG3
  have hb4 : Below w.heap.size w W4 := by rw [hW4]; exact HB3.out.setCell (p := ⟨G, i, none⟩) (by have := HGS.out; show w.heap.size ≤ G; omega) _
  obtain ⟨x0, x1, x2, x3, x4, x5, x6, x7, x8, x9, x10⟩ := box11 hbx4 (Below.refl _ _)
  have HRX4 := Lib.hid hrx4
  have hb5 : Below w.heap.size w (W4.setRow (w.heap.size + 1) #[.int .i64 (nb : Int), .int .i64 (np : Int), .int .i64 (sz : Int), .int .i64 en, .slice A1 n1 c1, .slice (some ⟨G, 0, none⟩) nb d, .slice A3 n3 c3, .int .i64 n, .int .i64 po, .int .i64 pb, .bool off]) := setRow_below hb4 (by omega)
  have hG5 : (W4.setRow (w.heap.size + 1) #[.int .i64 (nb : Int), .int .i64 (np : Int), .int .i64 (sz : Int), .int .i64 en, .slice A1 n1 c1, .slice (some ⟨G, 0, none⟩) nb d, .slice A3 n3 c3, .int .i64 n, .int .i64 po, .int .i64 pb, .bool off]).heap[G]? = some (.cells (cur2.setIfInBounds i (.slice (some ⟨lg, 0, none⟩) np lc)) 76 (0, 0)) := (setRow_other W4 _ G _ HN.out.2).trans hG4
  have HFIN : Hid (∃ vp', Ending.returned (.agg #[.int .i64 (nb : Int), .int .i64 (np : Int), .int .i64 (sz : Int), .int .i64 en, .slice A1 n1 c1, .slice (some ⟨G, 0, none⟩) nb d, .slice A3 n3 c3, .int .i64 n, .int .i64 po, .int .i64 pb, .bool off]) = .returned (.agg (rdv ⟨nb, np, sz, en, bk, FF, po, pb', n, off, lo⟩ (.slice A1 n1 c1) vp' (.slice A3 n3 c3) pb)) ∧ GrR lb (W4.setRow (w.heap.size + 1) #[.int .i64 (nb : Int), .int .i64 (np : Int), .int .i64 (sz : Int), .int .i64 en, .slice A1 n1 c1, .slice (some ⟨G, 0, none⟩) nb d, .slice A3 n3 c3, .int .i64 n, .int .i64 po, .int .i64 pb, .bool off]) vp' nb np (fun j => if j = i then f else F j) ∧ Below w.heap.size w (W4.setRow (w.heap.size + 1) #[.int .i64 (nb : Int), .int .i64 (np : Int), .int .i64 (sz : Int), .int .i64 en, .slice A1 n1 c1, .slice (some ⟨G, 0, none⟩) nb d, .slice A3 n3 c3, .int .i64 n, .int .i64 po, .int .i64 pb, .bool off])) := Lib.hid (by
    refine ⟨_, rfl, ⟨G, d, _, rfl, HGD.out, hG5, fun j hj => ?_⟩, hb5⟩
    by_cases e : j = i
    · subst e
      refine ⟨_, by rw [Array.getElem?_setIfInBounds_self_of_lt (Array.getElem?_eq_some_iff.1 hpv).1], ?_⟩
      simp only [if_true]
      exact HL.out.kt (KT.below hb5)
    · obtain ⟨pv', h1, h2⟩ := HROW.out j hj
      refine ⟨pv', ?_, ?_⟩
      · rw [Array.getElem?_setIfInBounds_ne (fun e' => e e'.symm)]
        exact (HG2.out j hj).trans h1
      · simp only [if_neg e]
        exact h2.kt (KT.below hb5))
  clear hW4 hbx3 hrx3 hG3 hpv b5 z1 z2 hbx4 hrx4 hG4 hb4 hb5 hG5
  go_wp2_with (refine wpList_store_row rfl 35 _ _ rfl (w.heap.size + 1) #[.int .i64 (nb : Int), .int .i64 (np : Int), .int .i64 (sz : Int), .int .i64 en, .slice A1 n1 c1, .slice (some ⟨G, 0, none⟩) nb d, .slice A3 n3 c3, .int .i64 n, .int .i64 po, .int .i64 pb, .bool off] rfl rfl 35 _ HRX4.out info35 rfl (by simp [Value.oneCell']) ?_)
  refine bodyPost_ret (results_cell_row rfl _ _ (w.heap.size + 1) 35 #[.int .i64 (nb : Int), .int .i64 (np : Int), .int .i64 (sz : Int), .int .i64 en, .slice A1 n1 c1, .slice (some ⟨G, 0, none⟩) nb d, .slice A3 n3 c3, .int .i64 n, .int .i64 po, .int .i64 pb, .bool off] (0, 0) _ rfl (setRow_at HRX4.out) Try.underlying35 rfl info35) rfl HFIN.out
end Go.Proofs.Ytddejcoagcaidaa
