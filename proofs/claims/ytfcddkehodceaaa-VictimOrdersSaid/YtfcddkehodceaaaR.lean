/- Rows of integers that the reference makes: append; three appends in the orders that a drawn region allows. Conditions stand in each theorem. -/
import Derived.Test.YtfcddkehodceaaaL
namespace Go.Proofs.Ytfcddkehodceaaa
open Go.RowKit
set_option linter.unusedVariables false
set_option maxHeartbeats 2000000
set_option maxRecDepth 100000
def iv (l : List Int) : List Value := l.map (Value.int .i64)
theorem iv_length (l : List Int) : (iv l).length = l.length := by simp [iv]
theorem iv_append (a b : List Int) : iv (a ++ b) = iv a ++ iv b := by simp [iv]
theorem iv_one (l : List Int) : ∀ u ∈ iv l, u.oneCell' = true := by
  intro u hu
  obtain ⟨e, he, rfl⟩ := List.mem_map.1 hu
  rfl
theorem info3 : (Try.prog.info? 3).map (fun i => (i.zero, i.size, i.bytes)) = some (some (.int .i64 0), 1, 8) := by kernel_rfl
theorem own3_form {w : World} {base n : Nat} {v : Value} {xs : List Value} (h : w.ownsRow base 3 1 v n xs) : ∃ A c, v = .slice A n c := by
  rcases h.2 with ⟨h1, h2⟩ | ⟨g, cap, cur, h1, _⟩
  · exact ⟨none, 0, by rw [h1, h2]⟩
  · exact ⟨_, cap, h1⟩
theorem ints_of_own {W : World} {base n : Nat} {v : Value} {L : List Int} (h : W.ownsRow base 3 1 v n (iv L)) : n = L.length ∧ Ints W v L ∧ ∃ A c, v = .slice A L.length c ∧ L.length ≤ c := by
  have hn : n = L.length := by have := h.1; rw [iv_length] at this; omega
  refine ⟨hn, ?_⟩
  rcases h.2 with ⟨h1, h2⟩ | ⟨g, cap, cur, h1, hb, hg, hnc, hcm, hcs, ht⟩
  · have hL : L = [] := List.length_eq_zero_iff.1 (by omega)
    subst hL
    exact ⟨⟨none, 0, h1, fun h => absurd h (by decide)⟩, none, 0, h1, Nat.le_refl _⟩
  · refine ⟨⟨some ⟨g, 0, none⟩, cap, by rw [h1, hn], fun h0 => ⟨g, 0, rfl, (Array.getElem?_eq_some_iff.1 hg).1, fun j hj => ?_⟩⟩, _, cap, by rw [h1, hn], by omega⟩
    rw [cell_of_row W g _ cur 3 (0, 0) hg, Nat.zero_add]
    have e : (iv L)[j]? = some (.int .i64 L[j]) := by simp [iv, hj]
    rw [← ht, List.getElem?_take_of_lt (by omega)] at e
    simpa using e
theorem app_is (w : World) (base n : Nat) (v xv : Value) (l m : List Int) (hown : w.ownsRow base 3 1 v n (iv l)) (hx : Ints w xv m) (hsz : n + m.length ≤ 100000) (hbase : base ≤ w.heap.size) :
    ∃ A c w', (Builtin.append_ #[36, 36] 36 #[v, xv]).run Try.prog w = .ok (.slice A (n + m.length) c) w' ∧ w'.ownsRow base 3 1 (.slice A (n + m.length) c) (n + m.length) (iv (l ++ m)) ∧ w.grownBy w' v.ownBlock := by
  obtain ⟨i0, hi0, hz0, hz1, hz2⟩ := info_parts info3
  obtain ⟨A, c, rfl, hr⟩ := hx
  rcases A with _ | a
  · have h0 : m.length = 0 := by
      rcases Nat.eq_zero_or_pos m.length with h | h
      · exact h
      · obtain ⟨_, _, h, _⟩ := hr h; cases h
    have hm : m = [] := List.eq_nil_of_length_eq_zero h0
    subst hm
    obtain ⟨B, k, hv⟩ := own3_form hown
    refine ⟨B, k, w, ?_, by have h9 := hown; rw [hv] at h9; simpa using h9, World.grownBy.refl _ _⟩
    rcases hown.2 with ⟨rfl, rfl⟩ | ⟨g, cap, cur, rfl, _, _, hnc, _⟩
    · simp only [Value.slice.injEq] at hv
      obtain ⟨rfl, _, rfl⟩ := hv
      simp [Builtin.append_, run_underlying Try.underlying36, sizeOf, typeInfo, hi0, Builtin.lenOf, Builtin.firstCells]
    · simp only [Value.slice.injEq] at hv
      obtain ⟨rfl, _, rfl⟩ := hv
      simp [Builtin.append_, run_underlying Try.underlying36, sizeOf, typeInfo, hi0, Builtin.lenOf, Builtin.firstCells, hnc, storeCells]
  · have hnews : ∀ j u, (iv m)[j]? = some u → w.cell? (a.add j) = some u := by
      intro j u hu
      have hj : j < m.length := by
        have := (List.getElem?_eq_some_iff.1 hu).1
        rwa [iv_length] at this
      obtain ⟨g, o, hv, _, hc⟩ := hr (by omega)
      cases hv
      rw [add_plain, hc j hj]
      simp [iv, hj] at hu
      rw [hu]
    obtain ⟨v', w', hrun, h2, h3, _, h5⟩ := run_append_own_at (P := Try.prog) w base 36 36 3 i0 _ 1 8 Try.underlying36 hi0 hz0 hz1 hz2 rfl (by decide) v n (iv l) hown a m.length c (iv m) (by rw [iv_length]; omega) hnews (iv_one m) (by unfold maxLen; omega) (by omega) hbase
    obtain ⟨B, k, rfl⟩ := own3_form h2
    exact ⟨B, k, w', hrun, by rw [iv_append]; exact h2, h3⟩
theorem own_empty3 {w : World} {base q : Nat} (hq : w.heap[q]? = some (.cells #[] 3 (0, 0))) (hb : base ≤ q) : w.ownsRow base 3 1 (.slice (some ⟨q, 0, none⟩) 0 0) 0 (iv []) :=
  ⟨rfl, .inr ⟨q, 0, #[], rfl, hb, hq, Nat.le_refl _, Nat.zero_le _, rfl, rfl⟩⟩
theorem int_blk {w : World} {x : Nat} {q : Int} (hx : w.heap[x]? = some (.cells #[.int .i64 q] 3 (0, 0))) : Ints w (.slice (some ⟨x, 0, none⟩) 1 1) [q] :=
  ⟨_, 1, rfl, fun _ => ⟨x, 0, rfl, (Array.getElem?_eq_some_iff.1 hx).1, fun j hj => by
    have : j = 0 := by simp at hj; omega
    subst this
    rw [cell_of_row w x _ _ 3 (0, 0) hx]; rfl⟩⟩
theorem Below.grownR {w a b : World} {base : Nat} {row : Option Nat} (h : Below base w a) (hg : a.grownBy b row) (hb : base ≤ a.heap.size) (hr : ∀ k, row = some k → base ≤ k) : Below base w b :=
  h.trans ⟨hg.os, hg.tape, hg.output, hg.size, fun k hk => hg.block k (by omega) (fun e => by have := hr k e.symm; omega)⟩
/-- What the three appends leave. -/
structure App3 (W W1 W2 W3 : World) (v3 : Value) (l : List Int) : Prop where
  b1 : Below W.heap.size W W1
  b2 : Below W.heap.size W W2
  b3 : Below W.heap.size W W3
  own : W3.ownsRow W.heap.size 3 1 v3 l.length (iv l)
theorem ord_last (W W1 : World) {A1 : Option Addr} {n1 c1 x : Nat} {V2 : Value} {l1 l2 : List Int} {q : Int} (hn : n1 = l1.length) (h2 : Ints W V2 l2) (k1 : l1.length ≤ 1000) (k2 : l2.length ≤ 1000) (hb1 : Below W.heap.size W W1)
    (hown : W1.ownsRow W.heap.size 3 1 (.slice A1 n1 c1) n1 (iv l1)) (hx : W1.heap[x]? = some (.cells #[.int .i64 q] 3 (0, 0))) :
    ∃ A2 c2 W2 A3 c3 W3, (Builtin.append_ #[36, 36] 36 #[.slice A1 n1 c1, .slice (some ⟨x, 0, none⟩) 1 1]).run Try.prog W1 = .ok (.slice A2 (n1 + 1) c2) W2 ∧
      (Builtin.append_ #[36, 36] 36 #[.slice A2 (n1 + 1) c2, V2]).run Try.prog W2 = .ok (.slice A3 (n1 + 1 + l2.length) c3) W3 ∧ App3 W W1 W2 W3 (.slice A3 (n1 + 1 + l2.length) c3) (l1 ++ q :: l2) := by
  subst hn
  obtain ⟨A2, c2, W2, r2, o2, g2⟩ := app_is W1 W.heap.size l1.length _ _ l1 [q] hown (int_blk hx) (by simp; omega) hb1.size
  have hb2 : Below W.heap.size W W2 := Below.grownR hb1 g2 hb1.size (fun b hb => (hown.lt b hb).1)
  obtain ⟨A3, c3, W3, r3, o3, g3⟩ := app_is W2 W.heap.size (l1.length + 1) _ V2 (l1 ++ [q]) l2 o2 (h2.below hb2) (by omega) hb2.size
  refine ⟨A2, c2, W2, A3, c3, W3, r2, r3, hb1, hb2, Below.grownR hb2 g3 hb2.size (fun b hb => (o2.lt b hb).1), ?_⟩
  have e : l1 ++ [q] ++ l2 = l1 ++ q :: l2 := by simp
  have e2 : l1.length + 1 + l2.length = (l1 ++ q :: l2).length := by simp; omega
  rw [e, e2] at o3
  rw [e2]
  exact o3
/-- The list first, then the entry's own block. -/
theorem ord_a (W : World) {V1 V2 : Value} {l1 l2 : List Int} (q : Int) (h1 : Ints W V1 l1) (h2 : Ints W V2 l2) (k1 : l1.length ≤ 1000) (k2 : l2.length ≤ 1000) :
    ∃ A1 c1 W1 A2 c2 W2 A3 c3 W3, (Builtin.append_ #[36, 36] 36 #[.slice (some ⟨W.heap.size, 0, none⟩) 0 0, V1]).run Try.prog (W.alloc (.cells #[] 3)).drew = .ok (.slice A1 l1.length c1) W1 ∧
      (Builtin.append_ #[36, 36] 36 #[.slice A1 l1.length c1, .slice (some ⟨W1.heap.size, 0, none⟩) 1 1]).run Try.prog (W1.alloc (.cells #[.int .i64 q] 3)) = .ok (.slice A2 (l1.length + 1) c2) W2 ∧
      (Builtin.append_ #[36, 36] 36 #[.slice A2 (l1.length + 1) c2, V2]).run Try.prog W2 = .ok (.slice A3 (l1.length + 1 + l2.length) c3) W3 ∧ Below W.heap.size W W1 ∧ App3 W (W1.alloc (.cells #[.int .i64 q] 3)) W2 W3 (.slice A3 (l1.length + 1 + l2.length) c3) (l1 ++ q :: l2) := by
  have b0 : Below W.heap.size W (W.alloc (.cells #[] 3)).drew := ((Below.refl _ W).alloc (Nat.le_refl _) _).drew
  have hown : (W.alloc (.cells #[] 3)).drew.ownsRow W.heap.size 3 1 (.slice (some ⟨W.heap.size, 0, none⟩) 0 0) 0 (iv []) := own_empty3 (heap_alloc_new W _) (Nat.le_refl _)
  obtain ⟨A1, c1, W1, r1, o1, g1⟩ := app_is _ W.heap.size 0 _ V1 [] l1 hown (h1.below b0) (by omega) b0.size
  rw [Nat.zero_add] at r1 o1
  rw [List.nil_append] at o1
  have hb1 : Below W.heap.size W W1 := Below.grownR b0 g1 b0.size (fun b hb => (hown.lt b hb).1)
  have hb1' : Below W.heap.size W (W1.alloc (.cells #[.int .i64 q] 3)) := hb1.alloc hb1.size _
  obtain ⟨A2, c2, W2, A3, c3, W3, r2, r3, happ⟩ := ord_last W (W1.alloc (.cells #[.int .i64 q] 3)) rfl h2 k1 k2 hb1' (o1.alloc _) (heap_alloc_new W1 _)
  exact ⟨A1, c1, W1, A2, c2, W2, A3, c3, W3, r1, r2, r3, hb1, happ⟩
/-- Both blocks before the first append: the row's in y, the entry's in x. -/
theorem ord_b (W X : World) {V1 V2 : Value} {l1 l2 : List Int} {x y : Nat} {q : Int} (h1 : Ints W V1 l1) (h2 : Ints W V2 l2) (k1 : l1.length ≤ 1000) (k2 : l2.length ≤ 1000) (hX : Below W.heap.size W X) (hy : W.heap.size ≤ y) (hxy : x ≠ y)
    (hyr : X.heap[y]? = some (.cells #[] 3 (0, 0))) (hxr : X.heap[x]? = some (.cells #[.int .i64 q] 3 (0, 0))) :
    ∃ A1 c1 W1 A2 c2 W2 A3 c3 W3, (Builtin.append_ #[36, 36] 36 #[.slice (some ⟨y, 0, none⟩) 0 0, V1]).run Try.prog X = .ok (.slice A1 l1.length c1) W1 ∧
      (Builtin.append_ #[36, 36] 36 #[.slice A1 l1.length c1, .slice (some ⟨x, 0, none⟩) 1 1]).run Try.prog W1 = .ok (.slice A2 (l1.length + 1) c2) W2 ∧
      (Builtin.append_ #[36, 36] 36 #[.slice A2 (l1.length + 1) c2, V2]).run Try.prog W2 = .ok (.slice A3 (l1.length + 1 + l2.length) c3) W3 ∧ App3 W W1 W2 W3 (.slice A3 (l1.length + 1 + l2.length) c3) (l1 ++ q :: l2) := by
  have hown := own_empty3 (base := W.heap.size) hyr hy
  obtain ⟨A1, c1, W1, r1, o1, g1⟩ := app_is X W.heap.size 0 _ V1 [] l1 hown (h1.below hX) (by omega) hX.size
  rw [Nat.zero_add] at r1 o1
  rw [List.nil_append] at o1
  have hb1 : Below W.heap.size W W1 := Below.grownR hX g1 hX.size (fun b hb => (hown.lt b hb).1)
  have hx1 : W1.heap[x]? = some (.cells #[.int .i64 q] 3 (0, 0)) := (g1.block x (Array.getElem?_eq_some_iff.1 hxr).1 (by simp [Value.ownBlock]; omega)).trans hxr
  obtain ⟨A2, c2, W2, A3, c3, W3, r2, r3, happ⟩ := ord_last W W1 rfl h2 k1 k2 hb1 o1 hx1
  exact ⟨A1, c1, W1, A2, c2, W2, A3, c3, W3, r1, r2, r3, happ⟩
/-- Slices of a slice of integers, their values under a letter. -/
theorem is_cut {w : World} {l : List Int} {A : Option Addr} {c lo hi : Nat} (h : Ints w (.slice A l.length c) l) (h1 : lo ≤ hi) (h2 : hi ≤ l.length) (hc : l.length ≤ c) : Ints w (sliced A lo hi c 1) ((l.take hi).drop lo) := by
  obtain ⟨A', c', e, hr⟩ := h
  simp only [Value.slice.injEq, true_and] at e
  obtain ⟨rfl, rfl⟩ := e
  have hlen : ((l.take hi).drop lo).length = hi - lo := by simp; omega
  refine ⟨_, _, by unfold sliced; rw [hlen], fun h0 => ?_⟩
  rw [hlen] at h0
  obtain ⟨g, o, rfl, hg, hcell⟩ := hr (by omega)
  refine ⟨g, o + lo, ?_, hg, fun j hj => ?_⟩
  · rw [if_neg (by omega)]; simp [add_plain]
  · rw [hlen] at hj
    have := hcell (lo + j) (by omega)
    have e1 : o + lo + j = o + (lo + j) := by omega
    rw [e1]
    simpa only [List.getElem_drop, List.getElem_take] using this
theorem is_slice_h {w : World} {l : List Int} {A : Option Addr} {c hi : Nat} (h : Ints w (.slice A l.length c) l) (h2 : hi ≤ l.length) (hc : l.length ≤ c) :
    ∃ V, (∀ W : World, (Instr.slice 36 (.slice A l.length c) none (some (.int .i64 hi)) none).run Try.prog W = .ok V W) ∧ Ints w V (l.take hi) := by
  have h3 := is_cut h (Nat.zero_le hi) h2 hc
  rw [List.drop_zero] at h3
  refine ⟨_, fun W => ?_, h3⟩
  obtain ⟨i0, hi0, hz0, hz1, hz2⟩ := info_parts info3
  rw [run_slice_h (P := Try.prog) (w := W) (t := 36) (a := A) (len := l.length) (cap := c) (ht := by rw [Try.underlying36]; rfl) .i64 hi (by omega) (by omega)]
  simp [sizeOf, typeInfo, show Try.prog.elem 36 = 3 by kernel_rfl, hi0, hz1]
theorem is_slice_l {w : World} {l : List Int} {A : Option Addr} {c lo : Nat} (h : Ints w (.slice A l.length c) l) (h1 : lo ≤ l.length) (hc : l.length ≤ c) :
    ∃ V, (∀ W : World, (Instr.slice 36 (.slice A l.length c) (some (.int .i64 lo)) none none).run Try.prog W = .ok V W) ∧ Ints w V (l.drop lo) := by
  have h3 := is_cut h h1 (Nat.le_refl _) hc
  rw [List.take_length] at h3
  refine ⟨_, fun W => ?_, h3⟩
  obtain ⟨i0, hi0, hz0, hz1, hz2⟩ := info_parts info3
  rw [run_slice_l (P := Try.prog) (w := W) (t := 36) (a := A) (len := l.length) (cap := c) (ht := by rw [Try.underlying36]; rfl) .i64 lo (by omega) (by omega)]
  simp [sizeOf, typeInfo, show Try.prog.elem 36 = 3 by kernel_rfl, hi0, hz1]
/-- What the reference's order has: the indices of the useful ones among the first k, sorted. -/
structure OutAt (l : List Cd) (k : Nat) (O : List Nat) : Prop where
  lt : ∀ i ∈ O, i < k
  len : O.length ≤ k
  pw : (O.map fun i => (⟨l.getD i ⟨0, 0, 0, 0⟩, (i : Int)⟩ : Rk)).Pairwise Qr
  pm : (O.map fun i => (⟨l.getD i ⟨0, 0, 0, 0⟩, (i : Int)⟩ : Rk)).Perm (useK (rkL l) k)
def gk (l : List Cd) (i : Nat) : Rk := ⟨l.getD i ⟨0, 0, 0, 0⟩, (i : Int)⟩
theorem gk_at {l : List Cd} {i : Nat} (h : i < l.length) : gk l i = ⟨l[i], (i : Int)⟩ := by simp [gk, h]
theorem out_zero (l : List Cd) : OutAt l 0 [] := ⟨fun i h => (by cases h), Nat.le_refl _, List.Pairwise.nil, by simp [useK]⟩
theorem rkL_gk {l : List Cd} {k : Nat} (h : k < l.length) : (rkL l)[k]'(by rw [rkL_length]; exact h) = gk l k := by rw [rkL_at l k h, gk_at h]
theorem out_skip {l : List Cd} {k : Nat} {O : List Nat} (h : OutAt l k O) (hk : k < l.length) (hu : ¬ l[k].va < l[k].pa) : OutAt l (k + 1) O := by
  refine ⟨fun i hi => Nat.lt_succ_of_lt (h.lt i hi), Nat.le_succ_of_le h.len, h.pw, ?_⟩
  have e := useK_succ (rkL l) k (by rw [rkL_length]; exact hk)
  rw [rkL_at l k hk, if_neg hu, List.append_nil] at e
  rw [e]; exact h.pm
theorem tie_gk {l : List Cd} {i k : Nat} (hik : i < k) (hi : (gk l i).c.use) (hk : (gk l k).c.use) (h : ¬ cfP (gk l k).c (gk l i).c < 0) : Qr (gk l i) (gk l k) :=
  (tieU (x := ⟨gk l i, hi⟩) (y := ⟨gk l k, hk⟩) (by show (i : Int) < (k : Int); omega)).2 (decide_eq_false h)
theorem tie_gk2 {l : List Cd} {i k : Nat} (hik : i < k) (hi : (gk l i).c.use) (hk : (gk l k).c.use) (h : cfP (gk l k).c (gk l i).c < 0) : Qr (gk l k) (gk l i) :=
  (tieU (x := ⟨gk l i, hi⟩) (y := ⟨gk l k, hk⟩) (by show (i : Int) < (k : Int); omega)).1 (decide_eq_true h)
theorem out_put {l : List Cd} {k t : Nat} {O : List Nat} (h : OutAt l k O) (hok : ∀ i (h : i < l.length), i ≤ k → l[i].ok) (hk : k < l.length) (hu : l[k].va < l[k].pa) (huse : ∀ i ∈ O, (gk l i).c.use) (ht : t ≤ O.length)
    (hlo : ∀ (h0 : 0 < t), ¬ cfP (gk l k).c (gk l (O[t - 1]'(by omega))).c < 0) (hhi : ∀ s (hs : s < O.length), t ≤ s → cfP (gk l k).c (gk l O[s]).c < 0) : OutAt l (k + 1) (O.take t ++ k :: O.drop t) := by
  have hku : (gk l k).c.use := by rw [gk_at hk]; exact ⟨hok k hk (Nat.le_refl _), hu⟩
  have hpw : O.Pairwise fun i j => Qr (gk l i) (gk l j) := List.pairwise_map.1 h.pw
  rw [← List.take_append_drop t O] at hpw
  obtain ⟨p1, p2, p3⟩ := List.pairwise_append.1 hpw
  refine ⟨fun i hi => ?_, ?_, ?_, ?_⟩
  · rcases List.mem_append.1 hi with h1 | h1
    · exact Nat.lt_succ_of_lt (h.lt i (List.mem_of_mem_take h1))
    · rcases List.mem_cons.1 h1 with rfl | h1
      · omega
      · exact Nat.lt_succ_of_lt (h.lt i (List.mem_of_mem_drop h1))
  · have := h.len
    simp; omega
  · refine List.pairwise_map.2 (List.pairwise_append.2 ⟨p1, List.pairwise_cons.2 ⟨fun j hj => ?_, p2⟩, fun i hi j hj => ?_⟩)
    · obtain ⟨s, hs, rfl⟩ := List.getElem_of_mem hj
      rw [List.getElem_drop]
      have hs2 : t + s < O.length := by simp at hs; omega
      exact tie_gk2 (h.lt _ (List.getElem_mem _)) (huse _ (List.getElem_mem _)) hku (hhi _ hs2 (by omega))
    · rcases List.mem_cons.1 hj with rfl | hj
      · obtain ⟨s, hs, rfl⟩ := List.getElem_of_mem hi
        rw [List.getElem_take]
        have hs2 : s < t := by simp at hs; omega
        have hq := tie_gk (h.lt _ (List.getElem_mem (show t - 1 < O.length by omega))) (huse _ (List.getElem_mem _)) hku (hlo (by omega))
        by_cases he : s = t - 1
        · subst he; exact hq
        · have h2 : Qr (gk l O[s]) (gk l O[t - 1]) := (List.pairwise_iff_getElem.1 (List.pairwise_map.1 h.pw)) s (t - 1) (by omega) (by omega) (by omega)
          exact Qr.trans (huse _ (List.getElem_mem _)) (huse _ (List.getElem_mem _)) hku h2 hq
      · exact p3 i hi j hj
  · have e := useK_succ (rkL l) k (by rw [rkL_length]; exact hk)
    rw [rkL_at l k hk, if_pos hu, ← gk_at hk] at e
    rw [e, List.map_append, List.map_cons]
    have h4 : (O.map (gk l)).Perm (useK (rkL l) k) := h.pm
    rw [← List.take_append_drop t O, List.map_append] at h4
    have h5 : ((O.take t).map (gk l) ++ gk l k :: (O.drop t).map (gk l)).Perm (((O.take t).map (gk l) ++ (O.drop t).map (gk l)) ++ [gk l k]) := by
      rw [List.append_assoc]
      exact List.Perm.append_left _ (List.perm_append_comm (l₁ := [gk l k]))
    exact h5.trans (h4.append_right _)
/-- Two sorted lists of the same are one. -/
theorem sorted_one {A B : List Rk} (h : A.Perm B) (ha : A.Pairwise Qr) (hb : B.Pairwise Qr) : A = B :=
  List.Perm.eq_of_pairwise (fun x y _ _ h1 h2 => (Qr.asymm h1 h2).elim) ha hb h
end Go.Proofs.Ytfcddkehodceaaa
