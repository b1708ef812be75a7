/- Follow on the three pages of the chapter's example. Conditions stand in each theorem. -/
import Derived.Test.YtajlddgemkkcdaaZ
namespace Go.Proofs.Ytajlddgemkkcdaa
open Go.RowKit
set_option linter.unusedVariables false
set_option maxHeartbeats 4000000
set_option maxRecDepth 100000
theorem perm2 {α : Type} {a b : α} {D : List α} (h : D.Perm [a, b]) : D = [a, b] ∨ D = [b, a] := by
  have hl := h.length_eq
  match D, hl with
  | [x, y], _ =>
    have hx : x ∈ [a, b] := h.mem_iff.1 (by simp)
    simp at hx
    rcases hx with rfl | rfl
    · have := (List.perm_cons x).1 h
      have := List.perm_singleton.1 this
      simp at this
      exact .inl (by rw [this])
    · have h2 : [x, y].Perm [x, a] := h.trans (List.Perm.swap x a [])
      have := (List.perm_cons x).1 h2
      have := List.perm_singleton.1 this
      simp at this
      exact .inr (by rw [this])
def w3P (g1 g2 g3 : Nat) : List Pg := [dltP g1 1 0 0 1 5, dltP g2 3 1 0 1 6, dltP g3 2 1 0 2 7]
theorem w3_keys (g1 g2 g3 : Nat) : keysF (w3P g1 g2 g3) = [⟨2, 1, 0, 1⟩, ⟨2, 3, 1, 1⟩, ⟨2, 2, 1, 2⟩] := by rfl
theorem w3_pl (g1 g2 g3 : Nat) : plK (w3P g1 g2 g3) 3 ⟨2, 1, 0, 1⟩ = [0] ∧ plK (w3P g1 g2 g3) 3 ⟨2, 3, 1, 1⟩ = [1] ∧ plK (w3P g1 g2 g3) 3 ⟨2, 2, 1, 2⟩ = [2] := ⟨by rfl, by rfl, by rfl⟩
theorem w3_or (g1 g2 g3 : Nat) : ordF (w3P g1 g2 g3) 1 [0] = [0] ∧ ordF (w3P g1 g2 g3) 1 [1] = [1] ∧ ordF (w3P g1 g2 g3) 2 [2] = [2] := ⟨by rfl, by rfl, by rfl⟩
theorem w3_recs (g1 g2 g3 : Nat) : recsOf (w3P g1 g2 g3) (keysF (w3P g1 g2 g3)) (List.range (keysF (w3P g1 g2 g3)).length) = [⟨⟨2, 1, 0, 1⟩, 0, [0]⟩, ⟨⟨2, 3, 1, 1⟩, 1, [1]⟩] := by rfl
theorem w3_fold (g1 g2 g3 : Nat) : foldD (w3P g1 g2 g3) (startC (w3P g1 g2 g3) none) [⟨⟨2, 1, 0, 1⟩, 0, [0]⟩, ⟨⟨2, 3, 1, 1⟩, 1, [1]⟩] = ⟨[(1, 5), (1, 6)], 3, [0, 1]⟩ := by rfl
def FwPost (w : World) (e : Ending) (w' : World) : Prop := (∃ ve vu, e = .returned (.agg #[ve, .int .u64 3, vu]) ∧ Ent w' ve [(1, 5), (1, 6)] ∧ Pls w' vu [0, 1]) ∧ Below w.heap.size w w'
theorem follow_w3 (g1 g2 g3 : Nat) (w : World) (h1 : Ent w (dltP g1 1 0 0 1 5).ev [(1, 5)]) (h2 : Ent w (dltP g2 3 1 0 1 6).ev [(1, 6)]) (h3 : Ent w (dltP g3 2 1 0 2 7).ev [(1, 7)]) (v : Value) (hv : Pgs w v (w3P g1 g2 g3)) :
    Calls Try.prog 19 #[v] w (FwPost w) := by
  obtain ⟨A, c, rfl, hc, hr⟩ := id hv
  have hl : Okl (w3P g1 g2 g3) := by
    intro x hx
    simp only [w3P, List.mem_cons, List.mem_nil_iff, or_false] at hx
    rcases hx with rfl | rfl | rfl <;> exact ⟨by simp [dltP], by simp [dltP], by simp [dltP], by simp [dltP]⟩
  have hent : ∀ x ∈ w3P g1 g2 g3, Ent w x.ev x.es := by
    intro x hx
    simp only [w3P, List.mem_cons, List.mem_nil_iff, or_false] at hx
    rcases hx with rfl | rfl | rfl
    · exact h1
    · exact h2
    · exact h3
  refine (follow_any _ (w3P g1 g2 g3) w 1 A c rfl hv hent hl (by show 3 ≤ 10000; decide) (fun x hx => ?_) (by show (3 + 1) * 65535 * (1 + 1) ≤ 40000000; decide) (fun r hr W base u hW ho => ?_)).mono ?_
  · simp only [w3P, List.mem_cons, List.mem_nil_iff, or_false] at hx
    rcases hx with rfl | rfl | rfl <;> exact Nat.le_refl _
  · rw [w3_keys] at hr
    obtain ⟨p1, p2, p3⟩ := w3_pl g1 g2 g3
    obtain ⟨o1, o2, o3⟩ := w3_or g1 g2 g3
    simp only [List.mem_cons, List.mem_nil_iff, or_false] at hr
    have e3 : (w3P g1 g2 g3).length = 3 := rfl
    rw [e3] at ho ⊢
    rcases hr with rfl | rfl | rfl
    · rw [p1] at ho ⊢
      exact by1_any base u _ 0 W ho A _ c rfl
    · rw [p2] at ho ⊢
      exact by1_any base u _ 1 W ho A _ c rfl
    · rw [p3] at ho ⊢
      exact by1_any base u _ 2 W ho A _ c rfl
  · rintro e w' ⟨C, m, D, us, ve, vu, ⟨hC, hm, hD, hs, hp, hso⟩, rfl, hen, hpl, hb⟩
    rw [w3_recs] at hC
    have hm0 : m = none := by
      cases m with
      | none => rfl
      | some x =>
        have hx := hC.mem_iff.1 hm.1
        have hk := hm.2.1
        simp only [List.mem_cons, List.mem_nil_iff, or_false] at hx
        rcases hx with rfl | rfl <;> exact absurd hk (by decide)
    subst hm0
    have hD2 : D.Perm [⟨⟨2, 1, 0, 1⟩, 0, [0]⟩, ⟨⟨2, 3, 1, 1⟩, 1, [1]⟩] := hD.trans (hC.filter _)
    have hD3 : D = [⟨⟨2, 1, 0, 1⟩, 0, [0]⟩, ⟨⟨2, 3, 1, 1⟩, 1, [1]⟩] := by
      rcases perm2 hD2 with h | h
      · exact h
      · rw [h] at hs
        have := (List.pairwise_cons.1 hs).1 _ (List.mem_cons_self ..)
        exact absurd (show TurnC _ _ from .inl (by decide)) this
    rw [hD3, w3_fold] at hp hen
    rw [hD3, w3_fold]
    have hus : us = [0, 1] := by
      rcases perm2 hp with h | h
      · exact h
      · rw [h] at hso
        have := (List.pairwise_cons.1 hso).1 _ (List.mem_cons_self ..)
        exact absurd this (by decide)
    rw [hus] at hpl
    exact ⟨⟨ve, vu, rfl, hen, hpl⟩, hb⟩
def FwPost2 (w : World) (e : Ending) (w' : World) : Prop := (∃ A c B d, e = .returned (.agg #[.slice A 2 c, .int .u64 3, .slice B 2 d]) ∧ Ent w' (.slice A 2 c) [(1, 5), (1, 6)] ∧ Pls w' (.slice B 2 d) [0, 1]) ∧ Below w.heap.size w w'
theorem follow_call (g1 g2 g3 : Nat) (u : World) (h1 : Ent u (dltP g1 1 0 0 1 5).ev [(1, 5)]) (h2 : Ent u (dltP g2 3 1 0 1 6).ev [(1, 6)]) (h3 : Ent u (dltP g3 2 1 0 2 7).ev [(1, 7)]) :
    Calls Try.prog 19 #[.slice (some ⟨u.heap.size, 0, none⟩) 3 3] (u.alloc (.cells #[.int .u8 2, .int .i64 0, .int .u64 1, .int .u64 0, .int .i64 0, .int .i64 1, .slice (some ⟨g1, 0, none⟩) 1 1, .int .u8 2, .int .i64 0, .int .u64 3, .int .u64 1, .int .i64 0, .int .i64 1, .slice (some ⟨g2, 0, none⟩) 1 1, .int .u8 2, .int .i64 0, .int .u64 2, .int .u64 1, .int .i64 0, .int .i64 2, .slice (some ⟨g3, 0, none⟩) 1 1] 46)) (FwPost2 (u.alloc (.cells #[.int .u8 2, .int .i64 0, .int .u64 1, .int .u64 0, .int .i64 0, .int .i64 1, .slice (some ⟨g1, 0, none⟩) 1 1, .int .u8 2, .int .i64 0, .int .u64 3, .int .u64 1, .int .i64 0, .int .i64 1, .slice (some ⟨g2, 0, none⟩) 1 1, .int .u8 2, .int .i64 0, .int .u64 2, .int .u64 1, .int .i64 0, .int .i64 2, .slice (some ⟨g3, 0, none⟩) 1 1] 46))) := by
  have hb : Below u.heap.size u (u.alloc (.cells #[.int .u8 2, .int .i64 0, .int .u64 1, .int .u64 0, .int .i64 0, .int .i64 1, .slice (some ⟨g1, 0, none⟩) 1 1, .int .u8 2, .int .i64 0, .int .u64 3, .int .u64 1, .int .i64 0, .int .i64 1, .slice (some ⟨g2, 0, none⟩) 1 1, .int .u8 2, .int .i64 0, .int .u64 2, .int .u64 1, .int .i64 0, .int .i64 2, .slice (some ⟨g3, 0, none⟩) 1 1] 46)) := (Below.refl _ _).alloc (Nat.le_refl _) _
  have hg := heap_alloc_new u (.cells #[.int .u8 2, .int .i64 0, .int .u64 1, .int .u64 0, .int .i64 0, .int .i64 1, .slice (some ⟨g1, 0, none⟩) 1 1, .int .u8 2, .int .i64 0, .int .u64 3, .int .u64 1, .int .i64 0, .int .i64 1, .slice (some ⟨g2, 0, none⟩) 1 1, .int .u8 2, .int .i64 0, .int .u64 2, .int .u64 1, .int .i64 0, .int .i64 2, .slice (some ⟨g3, 0, none⟩) 1 1] 46)
  refine (follow_w3 g1 g2 g3 _ (h1.below hb) (h2.below hb) (h3.below hb) (.slice (some ⟨u.heap.size, 0, none⟩) 3 3) ⟨_, 3, rfl, Nat.le_refl _, fun _ => ⟨u.heap.size, 0, rfl, by simp, fun j hj => ?_⟩⟩).mono ?_
  · have : j = 0 ∨ j = 1 ∨ j = 2 := by
      have : (w3P g1 g2 g3).length = 3 := rfl
      omega
    rcases this with rfl | rfl | rfl <;> exact ⟨(cell_of_row _ _ _ _ _ _ hg).trans rfl, (cell_of_row _ _ _ _ _ _ hg).trans rfl, (cell_of_row _ _ _ _ _ _ hg).trans rfl, (cell_of_row _ _ _ _ _ _ hg).trans rfl, (cell_of_row _ _ _ _ _ _ hg).trans rfl, (cell_of_row _ _ _ _ _ _ hg).trans rfl, (cell_of_row _ _ _ _ _ _ hg).trans rfl⟩
  · rintro e w' ⟨⟨ve, vu, rfl, hen, hpl⟩, hb'⟩
    obtain ⟨A, c, rfl, _⟩ := id hen
    obtain ⟨B, d, rfl, _⟩ := id hpl
    exact ⟨⟨A, c, B, d, rfl, hen, hpl⟩, hb'⟩
end Go.Proofs.Ytajlddgemkkcdaa
