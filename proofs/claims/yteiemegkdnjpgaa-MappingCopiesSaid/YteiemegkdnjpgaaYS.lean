/- append of pairs onto a row of the call's own; three appends in the orders that a drawn region allows. Conditions stand in each theorem. -/
import Derived.Test.YteiemegkdnjpgaaYR
namespace Go.Proofs.Yteiemegkdnjpgaa
open Go.RowKit Go.Shelf
set_option linter.unusedVariables false
set_option maxHeartbeats 1000000
set_option maxRecDepth 100000
theorem pv_append (a b : List (Int × Int)) : pv (a ++ b) = pv a ++ pv b := by simp [pv]
theorem pv_one (l : List (Int × Int)) : ∀ u ∈ pv l, u.oneCell' = true := by
  intro u hu
  obtain ⟨e, he, hu2⟩ := List.mem_flatMap.1 hu
  simp only [List.mem_cons, List.not_mem_nil, or_false] at hu2
  rcases hu2 with rfl | rfl <;> rfl
theorem app_ents (w : World) (base n ty : Nat) (v xv : Value) (l m : List (Int × Int)) (hown : w.ownsRow base 50 2 v n (pv l)) (hx : Ent w xv m) (hsz : n + m.length ≤ 100000000) (hbase : base ≤ w.heap.size) :
    ∃ A c w', (Builtin.append_ #[27, 27] ty #[v, xv]).run Try.prog w = .ok (.slice A (n + m.length) c) w' ∧ w'.ownsRow base 50 2 (.slice A (n + m.length) c) (n + m.length) (pv (l ++ m)) ∧ w.grownBy w' v.ownBlock := by
  obtain ⟨i0, hi0, hz0, hz1, hz2⟩ := info_parts50
  have hx2 := hx
  obtain ⟨A, c, rfl, _, hr⟩ := hx
  rcases A with _ | a
  · have h0 : m.length = 0 := by
      rcases Nat.eq_zero_or_pos m.length with h | h
      · exact h
      · obtain ⟨_, _, _, _, _, h, _⟩ := hr h; cases h
    have hm : m = [] := List.eq_nil_of_length_eq_zero h0
    subst hm
    obtain ⟨B, k, hv⟩ := own_form hown
    refine ⟨B, k, w, ?_, by have h9 := hown; rw [hv] at h9; simpa using h9, World.grownBy.refl _ _⟩
    rcases hown.2 with ⟨rfl, rfl⟩ | ⟨g, cap, cur, rfl, _, _, hnc, _⟩
    · simp only [Value.slice.injEq] at hv
      obtain ⟨rfl, _, rfl⟩ := hv
      simp [Builtin.append_, run_underlying Try.underlying27, sizeOf, typeInfo, hi0, Builtin.lenOf, Builtin.firstCells]
    · simp only [Value.slice.injEq] at hv
      obtain ⟨rfl, _, rfl⟩ := hv
      simp [Builtin.append_, run_underlying Try.underlying27, sizeOf, typeInfo, hi0, Builtin.lenOf, Builtin.firstCells, hnc, storeCells]
  · have hnews : ∀ j u, (pv m)[j]? = some u → w.cell? (a.add j) = some u := by
      intro j u hu
      have hj : j < m.length * 2 := by
        rcases Nat.lt_or_ge j (m.length * 2) with h | h
        · exact h
        · rw [List.getElem?_eq_none (by rw [pv_length]; exact h)] at hu; cases hu
      have hq : j / 2 < m.length := by omega
      obtain ⟨g, o, c', hv, h1, h2⟩ := hx2.at hq
      cases hv
      obtain ⟨b1, b2⟩ := pv_at m (j / 2) hq
      rw [add_plain]
      have hm : j % 2 = 0 ∨ j % 2 = 1 := by omega
      have hj2 : j = j / 2 * 2 + j % 2 := by omega
      generalize j / 2 = t at *
      rcases hm with h5 | h5 <;> (rw [h5] at hj2; subst hj2)
      · rw [Nat.add_zero] at hu ⊢; rw [b1] at hu; exact h1.trans hu
      · rw [b2] at hu; rw [← Nat.add_assoc]; exact h2.trans hu
    obtain ⟨v', w', hrun, h2, h3, _, h5⟩ := run_append_own_at (P := Try.prog) w base 27 ty 50 i0 _ 2 16 Try.underlying27 hi0 hz0 hz1 hz2 rfl (by decide) v n (pv l) hown a m.length c (pv m) (by rw [pv_length]) hnews (pv_one m) (by unfold maxLen; omega) (by omega) hbase
    obtain ⟨B, k, rfl⟩ := own_form h2
    exact ⟨B, k, w', hrun, by rw [pv_append]; exact h2, h3⟩
/-- An empty row of the call's own, in the block q. -/
theorem own_empty {w : World} {base q : Nat} (hq : w.heap[q]? = some (.cells #[] 50 (0, 0))) (hb : base ≤ q) : w.ownsRow base 50 2 (.slice (some ⟨q, 0, none⟩) 0 0) 0 (pv []) :=
  ⟨rfl, .inr ⟨q, 0, #[], rfl, hb, hq, Nat.le_refl _, Nat.zero_le _, rfl, rfl⟩⟩
theorem ent_blk {w : World} {x : Nat} {q g : Int} (hx : w.heap[x]? = some (.cells #[.int .i64 q, .int .i64 g] 50 (0, 0))) : Ent w (.slice (some ⟨x, 0, none⟩) 1 1) [(q, g)] :=
  ⟨_, 1, rfl, by simp, fun _ => ⟨x, 0, _, 50, (0, 0), rfl, hx, fun j hj => by
    have : j = 0 := by simp at hj; omega
    subst this; exact ⟨rfl, rfl⟩⟩⟩
/-- What the three appends leave. -/
structure App3 (W W1 W2 W3 : World) (v3 : Value) (l : List (Int × Int)) : Prop where
  b1 : Below W.heap.size W W1
  b2 : Below W.heap.size W W2
  b3 : Below W.heap.size W W3
  own : W3.ownsRow W.heap.size 50 2 v3 l.length (pv l)
theorem ord_last (W W1 : World) {A1 : Option Addr} {n1 c1 x : Nat} {V2 : Value} {l1 l2 : List (Int × Int)} {q g : Int} (hn : n1 = l1.length) (h2 : Ent W V2 l2) (k1 : l1.length ≤ 16777216) (k2 : l2.length ≤ 16777216) (hb1 : Below W.heap.size W W1)
    (hown : W1.ownsRow W.heap.size 50 2 (.slice A1 n1 c1) n1 (pv l1)) (hx : W1.heap[x]? = some (.cells #[.int .i64 q, .int .i64 g] 50 (0, 0))) :
    ∃ A2 c2 W2 A3 c3 W3, (Builtin.append_ #[27, 27] 27 #[.slice A1 n1 c1, .slice (some ⟨x, 0, none⟩) 1 1]).run Try.prog W1 = .ok (.slice A2 (n1 + 1) c2) W2 ∧
      (Builtin.append_ #[27, 27] 27 #[.slice A2 (n1 + 1) c2, V2]).run Try.prog W2 = .ok (.slice A3 (n1 + 1 + l2.length) c3) W3 ∧ App3 W W1 W2 W3 (.slice A3 (n1 + 1 + l2.length) c3) (l1 ++ (q, g) :: l2) := by
  subst hn
  obtain ⟨A2, c2, W2, r2, o2, g2⟩ := app_ents W1 W.heap.size l1.length 27 _ _ l1 [(q, g)] hown (ent_blk hx) (by simp; omega) hb1.size
  have hb2 : Below W.heap.size W W2 := hb1.grown g2 hb1.size (fun b hb => (hown.lt b hb).1)
  obtain ⟨A3, c3, W3, r3, o3, g3⟩ := app_ents W2 W.heap.size (l1.length + 1) 27 _ V2 (l1 ++ [(q, g)]) l2 o2 (h2.below hb2) (by omega) hb2.size
  refine ⟨A2, c2, W2, A3, c3, W3, r2, r3, hb1, hb2, hb2.grown g3 hb2.size (fun b hb => (o2.lt b hb).1), ?_⟩
  have e : l1 ++ [(q, g)] ++ l2 = l1 ++ (q, g) :: l2 := by simp
  have e2 : l1.length + 1 + l2.length = (l1 ++ (q, g) :: l2).length := by simp; omega
  rw [e, e2] at o3
  rw [e2]
  exact o3
/-- The list first, then the entry's own block. -/
theorem ord_a (W : World) {V1 V2 : Value} {l1 l2 : List (Int × Int)} (q g : Int) (h1 : Ent W V1 l1) (h2 : Ent W V2 l2) (k1 : l1.length ≤ 16777216) (k2 : l2.length ≤ 16777216) :
    ∃ A1 c1 W1 A2 c2 W2 A3 c3 W3, (Builtin.append_ #[27, 27] 27 #[.slice (some ⟨W.heap.size, 0, none⟩) 0 0, V1]).run Try.prog (W.alloc (.cells #[] 50)).drew = .ok (.slice A1 l1.length c1) W1 ∧
      (Builtin.append_ #[27, 27] 27 #[.slice A1 l1.length c1, .slice (some ⟨W1.heap.size, 0, none⟩) 1 1]).run Try.prog (W1.alloc (.cells #[.int .i64 q, .int .i64 g] 50)) = .ok (.slice A2 (l1.length + 1) c2) W2 ∧
      (Builtin.append_ #[27, 27] 27 #[.slice A2 (l1.length + 1) c2, V2]).run Try.prog W2 = .ok (.slice A3 (l1.length + 1 + l2.length) c3) W3 ∧ Below W.heap.size W W1 ∧ App3 W (W1.alloc (.cells #[.int .i64 q, .int .i64 g] 50)) W2 W3 (.slice A3 (l1.length + 1 + l2.length) c3) (l1 ++ (q, g) :: l2) := by
  have b0 : Below W.heap.size W (W.alloc (.cells #[] 50)).drew := (below_alloc W _).drew
  have hown : (W.alloc (.cells #[] 50)).drew.ownsRow W.heap.size 50 2 (.slice (some ⟨W.heap.size, 0, none⟩) 0 0) 0 (pv []) := own_empty (heap_alloc_new W _) (Nat.le_refl _)
  obtain ⟨A1, c1, W1, r1, o1, g1⟩ := app_ents _ W.heap.size 0 27 _ V1 [] l1 hown (h1.below b0) (by omega) b0.size
  rw [Nat.zero_add] at r1 o1
  rw [List.nil_append] at o1
  have hb1 : Below W.heap.size W W1 := b0.grown g1 b0.size (fun b hb => (hown.lt b hb).1)
  have hb1' : Below W.heap.size W (W1.alloc (.cells #[.int .i64 q, .int .i64 g] 50)) := hb1.alloc hb1.size _
  obtain ⟨A2, c2, W2, A3, c3, W3, r2, r3, happ⟩ := ord_last W (W1.alloc (.cells #[.int .i64 q, .int .i64 g] 50)) rfl h2 k1 k2 hb1' (o1.alloc _) (heap_alloc_new W1 _)
  exact ⟨A1, c1, W1, A2, c2, W2, A3, c3, W3, r1, r2, r3, hb1, happ⟩
/-- Both blocks before the first append: the row's in y, the entry's in x. -/
theorem ord_b (W X : World) {V1 V2 : Value} {l1 l2 : List (Int × Int)} {x y : Nat} {q g : Int} (h1 : Ent W V1 l1) (h2 : Ent W V2 l2) (k1 : l1.length ≤ 16777216) (k2 : l2.length ≤ 16777216) (hX : Below W.heap.size W X) (hy : W.heap.size ≤ y) (hxy : x ≠ y)
    (hyr : X.heap[y]? = some (.cells #[] 50 (0, 0))) (hxr : X.heap[x]? = some (.cells #[.int .i64 q, .int .i64 g] 50 (0, 0))) :
    ∃ A1 c1 W1 A2 c2 W2 A3 c3 W3, (Builtin.append_ #[27, 27] 27 #[.slice (some ⟨y, 0, none⟩) 0 0, V1]).run Try.prog X = .ok (.slice A1 l1.length c1) W1 ∧
      (Builtin.append_ #[27, 27] 27 #[.slice A1 l1.length c1, .slice (some ⟨x, 0, none⟩) 1 1]).run Try.prog W1 = .ok (.slice A2 (l1.length + 1) c2) W2 ∧
      (Builtin.append_ #[27, 27] 27 #[.slice A2 (l1.length + 1) c2, V2]).run Try.prog W2 = .ok (.slice A3 (l1.length + 1 + l2.length) c3) W3 ∧ App3 W W1 W2 W3 (.slice A3 (l1.length + 1 + l2.length) c3) (l1 ++ (q, g) :: l2) := by
  have hown := own_empty (base := W.heap.size) hyr hy
  obtain ⟨A1, c1, W1, r1, o1, g1⟩ := app_ents X W.heap.size 0 27 _ V1 [] l1 hown (h1.below hX) (by omega) hX.size
  rw [Nat.zero_add] at r1 o1
  rw [List.nil_append] at o1
  have hb1 : Below W.heap.size W W1 := hX.grown g1 hX.size (fun b hb => (hown.lt b hb).1)
  have hx1 : W1.heap[x]? = some (.cells #[.int .i64 q, .int .i64 g] 50 (0, 0)) := (g1.block x (Array.getElem?_eq_some_iff.1 hxr).1 (by simp [Value.ownBlock]; omega)).trans hxr
  obtain ⟨A2, c2, W2, A3, c3, W3, r2, r3, happ⟩ := ord_last W W1 rfl h2 k1 k2 hb1 o1 hx1
  exact ⟨A1, c1, W1, A2, c2, W2, A3, c3, W3, r1, r2, r3, happ⟩
/-- append as an operation, not laid open by the walk. -/
def appX (ats : Array TypeId) (ty : TypeId) (args : Array Value) : Sem Next := do pure (.value (← Builtin.append_ ats ty args))
theorem builtin_appX (ats : Array TypeId) (ty : TypeId) (cs : Array Bool) (args : Array Value) : builtin .append ats ty cs args = appX ats ty args := rfl
theorem appX_run {ats : Array TypeId} {ty : TypeId} {args : Array Value} {W W' : World} {r : Value} (h : (Builtin.append_ ats ty args).run Try.prog W = .ok r W') : (appX ats ty args).run Try.prog W = .ok (.value r) W' := by
  unfold appX
  simp only [Sem.run_bind, Sem.run_pure, Result.andThen_ok, h]
/-- A slice of a slice of pairs, its value under a letter. -/
theorem ent_cut {w : World} {l : List (Int × Int)} {A : Option Addr} {c lo hi : Nat} (h : Ent w (.slice A l.length c) l) (h1 : lo ≤ hi) (h2 : hi ≤ l.length) : Ent w (sliced A lo hi c 2) ((l.take hi).drop lo) := by
  obtain ⟨A', c', e, hc, hr⟩ := h
  simp only [Value.slice.injEq, true_and] at e
  obtain ⟨rfl, rfl⟩ := e
  have hlen : ((l.take hi).drop lo).length = hi - lo := by simp; omega
  refine ⟨_, _, by unfold sliced; rw [hlen], by rw [hlen]; omega, fun h0 => ?_⟩
  rw [hlen] at h0
  obtain ⟨g, o, cs, ty, fr, rfl, hg, hcell⟩ := hr (by omega)
  refine ⟨g, o + lo * 2, cs, ty, fr, ?_, hg, fun j hj => ?_⟩
  · rw [if_neg (by omega)]
    simp [add_plain]
  · rw [hlen] at hj
    obtain ⟨a1, a2⟩ := hcell (lo + j) (by omega)
    have e1 : o + lo * 2 + j * 2 = o + (lo + j) * 2 := by omega
    rw [e1]
    simp only [List.getElem_drop, List.getElem_take]
    exact ⟨a1, a2⟩
theorem ent_slice_h {w : World} {l : List (Int × Int)} {A : Option Addr} {c hi : Nat} (h : Ent w (.slice A l.length c) l) (h2 : hi ≤ l.length) (hc : l.length ≤ c) :
    ∃ V, (∀ W : World, (Instr.slice 27 (.slice A l.length c) none (some (.int .i64 hi)) none).run Try.prog W = .ok V W) ∧ Ent w V (l.take hi) := by
  have h3 := ent_cut h (Nat.zero_le hi) h2
  rw [List.drop_zero] at h3
  refine ⟨_, fun W => ?_, h3⟩
  obtain ⟨i0, hi0, hz0, hz1, hz2⟩ := info_parts50
  rw [run_slice_h (P := Try.prog) (w := W) (t := 27) (a := A) (len := l.length) (cap := c) (ht := by rw [Try.underlying27]; rfl) .i64 hi (by omega) (by omega)]
  simp [sizeOf, typeInfo, show Try.prog.elem 27 = 50 by kernel_rfl, hi0, hz1]
theorem ent_slice_l {w : World} {l : List (Int × Int)} {A : Option Addr} {c lo : Nat} (h : Ent w (.slice A l.length c) l) (h1 : lo ≤ l.length) (hc : l.length ≤ c) :
    ∃ V, (∀ W : World, (Instr.slice 27 (.slice A l.length c) (some (.int .i64 lo)) none none).run Try.prog W = .ok V W) ∧ Ent w V (l.drop lo) := by
  have h3 := ent_cut h h1 (Nat.le_refl _)
  rw [List.take_length] at h3
  refine ⟨_, fun W => ?_, h3⟩
  obtain ⟨i0, hi0, hz0, hz1, hz2⟩ := info_parts50
  rw [run_slice_l (P := Try.prog) (w := W) (t := 27) (a := A) (len := l.length) (cap := c) (ht := by rw [Try.underlying27]; rfl) .i64 lo (by omega) (by omega)]
  simp [sizeOf, typeInfo, show Try.prog.elem 27 = 50 by kernel_rfl, hi0, hz1]
end Go.Proofs.Yteiemegkdnjpgaa
