/- Slices and appends of pairs; the contract of the reference's Remove. Conditions stand in each theorem. -/
import Derived.Test.YtildofclgofjdaaZB
import Derived.BigRegion
namespace Go.Proofs.Ytildofclgofjdaa
open Go.RowKit Go.Shelf
set_option linter.unusedVariables false
set_option maxHeartbeats 4000000
set_option maxRecDepth 100000
theorem Lds.at_ {w : World} {v : Value} {l : List (Int × Int)} (h : Lds w v l) {k : Nat} (hk : k < l.length) : ∃ g o c, v = .slice (some ⟨g, o, none⟩) l.length c ∧ w.cell? ⟨g, o + k * 2, none⟩ = some (.int .i64 l[k].1) ∧ w.cell? ⟨g, o + k * 2 + 1, none⟩ = some (.int .i64 l[k].2) := by
  obtain ⟨A, c, rfl, _, hr⟩ := h
  obtain ⟨g, o, rfl, _, hc⟩ := hr (by omega)
  exact ⟨g, o, c, rfl, (hc k hk).1, (hc k hk).2⟩
theorem lv_one : ∀ (l : List (Int × Int)), ∀ u ∈ lv l, u.oneCell' = true
  | [], u, h => by cases h
  | p :: r, u, h => by
    unfold lv at h
    rcases List.mem_cons.1 h with rfl | h
    · rfl
    · rcases List.mem_cons.1 h with rfl | h
      · rfl
      · exact lv_one r u h
theorem app_lds (w : World) (base n ty : Nat) (v xv : Value) (l m : List (Int × Int)) (hown : w.ownsRow base 63 2 v n (lv l)) (hx : Lds w xv m) (hsz : n + m.length ≤ 100000000) (hbase : base ≤ w.heap.size) :
    ∃ A c w', (Builtin.append_ #[32, 32] ty #[v, xv]).run Try.prog w = .ok (.slice A (n + m.length) c) w' ∧ w'.ownsRow base 63 2 (.slice A (n + m.length) c) (n + m.length) (lv (l ++ m)) ∧ w.grownBy w' v.ownBlock := by
  obtain ⟨i0, hi0, hz0, hz1, hz2⟩ := info_parts info63
  have hx2 := hx
  obtain ⟨A, c, rfl, _, hr⟩ := hx
  rcases A with _ | a
  · have h0 : m.length = 0 := by
      rcases Nat.eq_zero_or_pos m.length with h | h
      · exact h
      · obtain ⟨_, _, h, _⟩ := hr h; cases h
    have hm : m = [] := List.eq_nil_of_length_eq_zero h0
    subst hm
    obtain ⟨B, k, hv⟩ := own_form hown
    refine ⟨B, k, w, ?_, by have h9 := hown; rw [hv] at h9; simpa using h9, World.grownBy.refl _ _⟩
    rcases hown.2 with ⟨rfl, rfl⟩ | ⟨g, cap, cur, rfl, _, _, hnc, _⟩
    · simp only [Value.slice.injEq] at hv
      obtain ⟨rfl, _, rfl⟩ := hv
      simp [Builtin.append_, run_underlying Try.underlying32, sizeOf, typeInfo, hi0, Builtin.lenOf, Builtin.firstCells]
    · simp only [Value.slice.injEq] at hv
      obtain ⟨rfl, _, rfl⟩ := hv
      simp [Builtin.append_, run_underlying Try.underlying32, sizeOf, typeInfo, hi0, Builtin.lenOf, Builtin.firstCells, hnc, storeCells]
  · have hnews : ∀ j u, (lv m)[j]? = some u → w.cell? (a.add j) = some u := by
      intro j u hu
      have hj : j < m.length * 2 := by
        rcases Nat.lt_or_ge j (m.length * 2) with h | h
        · exact h
        · rw [List.getElem?_eq_none (by rw [lv_length]; exact h)] at hu; cases hu
      have hq : j / 2 < m.length := by omega
      obtain ⟨g, o, c', hv, h1, h2⟩ := hx2.at_ hq
      cases hv
      obtain ⟨b1, b2⟩ := lv_at m (j / 2) hq
      rw [add_plain]
      have hm : j % 2 = 0 ∨ j % 2 = 1 := by omega
      have hj2 : j = j / 2 * 2 + j % 2 := by omega
      generalize j / 2 = t at *
      rcases hm with h5 | h5 <;> (rw [h5] at hj2; subst hj2)
      · rw [Nat.add_zero] at hu ⊢; rw [b1] at hu; exact h1.trans hu
      · rw [b2] at hu; rw [← Nat.add_assoc]; exact h2.trans hu
    obtain ⟨v', w', hrun, h2, h3, _⟩ := run_append_own (P := Try.prog) w base 32 ty 63 i0 _ 2 16 Try.underlying32 hi0 hz0 hz1 hz2 rfl (by decide) v n (lv l) hown a m.length c (lv m) (by rw [lv_length]) hnews (lv_one m) (by unfold maxLen; omega) (by omega) hbase
    obtain ⟨B, k, rfl⟩ := own_form h2
    exact ⟨B, k, w', hrun, by rw [lv_append]; exact h2, h3⟩
/-- append as an operation, not laid open by the walk. -/
def appX (ats : Array TypeId) (ty : TypeId) (args : Array Value) : Sem Next := do pure (.value (← Builtin.append_ ats ty args))
theorem builtin_appX (ats : Array TypeId) (ty : TypeId) (cs : Array Bool) (args : Array Value) : builtin .append ats ty cs args = appX ats ty args := rfl
theorem appX_run {ats : Array TypeId} {ty : TypeId} {args : Array Value} {W W' : World} {r : Value} (h : (Builtin.append_ ats ty args).run Try.prog W = .ok r W') : (appX ats ty args).run Try.prog W = .ok (.value r) W' := by
  unfold appX
  simp only [Sem.run_bind, Sem.run_pure, Result.andThen_ok, h]
theorem lds_cut {w : World} {l : List (Int × Int)} {A : Option Addr} {c lo hi : Nat} (h : Lds w (.slice A l.length c) l) (h1 : lo ≤ hi) (h2 : hi ≤ l.length) : Lds w (sliced A lo hi c 2) ((l.take hi).drop lo) := by
  obtain ⟨A', c', e, hc, hr⟩ := h
  simp only [Value.slice.injEq, true_and] at e
  obtain ⟨rfl, rfl⟩ := e
  have hlen : ((l.take hi).drop lo).length = hi - lo := by simp; omega
  refine ⟨_, _, by unfold sliced; rw [hlen], by rw [hlen]; omega, fun h0 => ?_⟩
  rw [hlen] at h0
  obtain ⟨g, o, rfl, hg, hcell⟩ := hr (by omega)
  refine ⟨g, o + lo * 2, ?_, hg, fun j hj => ?_⟩
  · rw [if_neg (by omega)]
    simp [add_plain]
  · rw [hlen] at hj
    obtain ⟨a1, a2⟩ := hcell (lo + j) (by omega)
    have e1 : o + lo * 2 + j * 2 = o + (lo + j) * 2 := by omega
    rw [e1]
    simp only [List.getElem_drop, List.getElem_take]
    exact ⟨a1, a2⟩
theorem lds_slice_h {w : World} {l : List (Int × Int)} {A : Option Addr} {c hi : Nat} (h : Lds w (.slice A l.length c) l) (h2 : hi ≤ l.length) (hc : l.length ≤ c) :
    ∃ V, (∀ W : World, (Instr.slice 32 (.slice A l.length c) none (some (.int .i64 hi)) none).run Try.prog W = .ok V W) ∧ Lds w V (l.take hi) := by
  have h3 := lds_cut h (Nat.zero_le hi) h2
  rw [List.drop_zero] at h3
  refine ⟨_, fun W => ?_, h3⟩
  obtain ⟨i0, hi0, hz0, hz1, hz2⟩ := info_parts info63
  rw [run_slice_h (P := Try.prog) (w := W) (t := 32) (a := A) (len := l.length) (cap := c) (ht := by rw [Try.underlying32]; rfl) .i64 hi (by omega) (by omega)]
  simp [sizeOf, typeInfo, show Try.prog.elem 32 = 63 by kernel_rfl, hi0, hz1]
theorem lds_slice_l {w : World} {l : List (Int × Int)} {A : Option Addr} {c lo : Nat} (h : Lds w (.slice A l.length c) l) (h1 : lo ≤ l.length) (hc : l.length ≤ c) :
    ∃ V, (∀ W : World, (Instr.slice 32 (.slice A l.length c) (some (.int .i64 lo)) none none).run Try.prog W = .ok V W) ∧ Lds w V (l.drop lo) := by
  have h3 := lds_cut h h1 (Nat.le_refl _)
  rw [List.take_length] at h3
  refine ⟨_, fun W => ?_, h3⟩
  obtain ⟨i0, hi0, hz0, hz1, hz2⟩ := info_parts info63
  rw [run_slice_l (P := Try.prog) (w := W) (t := 32) (a := A) (len := l.length) (cap := c) (ht := by rw [Try.underlying32]; rfl) .i64 lo (by omega) (by omega)]
  simp [sizeOf, typeInfo, show Try.prog.elem 32 = 63 by kernel_rfl, hi0, hz1]
/-- Two appends onto nothing, one behind the other. -/
theorem app_two (W : World) {V1 V2 : Value} {l1 l2 : List (Int × Int)} (h1 : Lds W V1 l1) (h2 : Lds W V2 l2) (k1 : l1.length ≤ 16777216) (k2 : l2.length ≤ 16777216) :
    ∃ A1 c1 W1 A2 c2 W2, (Builtin.append_ #[32, 32] 32 #[.slice none 0 0, V1]).run Try.prog W = .ok (.slice A1 l1.length c1) W1 ∧
      (Builtin.append_ #[32, 32] 32 #[.slice A1 l1.length c1, V2]).run Try.prog W1 = .ok (.slice A2 (l1 ++ l2).length c2) W2 ∧ Below W.heap.size W W1 ∧ Below W.heap.size W W2 ∧ W2.ownsRow W.heap.size 63 2 (.slice A2 (l1 ++ l2).length c2) (l1 ++ l2).length (lv (l1 ++ l2)) := by
  obtain ⟨A1, c1, W1, r1, o1, g1⟩ := app_lds W W.heap.size 0 32 (.slice none 0 0) V1 [] l1 (World.ownsRow_nil _ _ _ _) h1 (by omega) (Nat.le_refl _)
  rw [Nat.zero_add] at r1 o1
  rw [List.nil_append] at o1
  have hb1 : Below W.heap.size W W1 := (Below.refl _ W).grown g1 (Nat.le_refl _) (fun b hb => by simp [Value.ownBlock] at hb)
  obtain ⟨A2, c2, W2, r2, o2, g2⟩ := app_lds W1 W.heap.size l1.length 32 _ V2 l1 l2 o1 (h2.below hb1) (by omega) hb1.size
  rw [← List.length_append] at r2 o2
  exact ⟨A1, c1, W1, A2, c2, W2, r1, r2, hb1, hb1.grown g2 hb1.size (fun b hb => (o1.lt b hb).1), o2⟩
theorem del_cut {L : List (Int × Int)} (hs : Srt L) {k : Nat} (hk : k < L.length) : del L[k].1 L = L.take k ++ L.drop (k + 1) := by
  have h1 : ∀ (L : List (Int × Int)) (k : Nat) (hk : k < L.length), L.Pairwise (fun p q => p.1 < q.1) → L.filter (fun p => !(p.1 == L[k].1)) = L.take k ++ L.drop (k + 1) := by
    intro L
    induction L with
    | nil => intro k hk; simp at hk
    | cons p r ih =>
      intro k hk hp
      obtain ⟨hp1, hp2⟩ := List.pairwise_cons.1 hp
      cases k with
      | zero =>
        have e : r.filter (fun q => !(q.1 == p.1)) = r := by
          rw [List.filter_eq_self]
          intro q hq
          have := hp1 q hq
          simp
          omega
        simp [e]
      | succ k =>
        have hk' : k < r.length := by simpa using hk
        have h2 := hp1 _ (List.getElem_mem hk')
        have h3 : (p.1 == r[k].1) = false := by simp; omega
        simp [h3, ih k hk' hp2]
  exact h1 L k hk hs.1
end Go.Proofs.Ytildofclgofjdaa
