/- The map of queues: a look-up, a store, a deletion, an empty one. Conditions stand in each theorem. -/
import Derived.Test.YtildofclgofjdaaM
namespace Go.Proofs.Ytildofclgofjdaa
open Go.RowKit
set_option linter.unusedVariables false
theorem law : Maps.Keyed Try.prog 3 := Maps.int_keyed Try.underlying3
theorem zero39 (w : World) : (zeroValue 39).run Try.prog w = .ok (.int .i64 0) w := by kernel_rfl
theorem wf64 {x : Int} (h : -9223372036854775808 ≤ x ∧ x ≤ 9223372036854775807) : (Lit.int .i64 x).wf = true := WalkArith.wf_i64 (by omega)
def I64 (x : Int) : Prop := -9223372036854775808 ≤ x ∧ x ≤ 9223372036854775807
theorem key_of {x : Int} (h : I64 x) : keyOf Try.prog 3 (.int .i64 x) = some (.int .i64 x) := Maps.keyOf_int_mk Try.underlying3 (wf64 h)

theorem Mp.look_ok {w : World} {m : Nat} {L : List (Int × Int)} (h : Mp w m L) {q : Int} (hq : I64 q) :
    (Instr.lookup 68 (.map (some m)) (.int .i64 q) true).run Try.prog w = .ok (.tuple #[.int .i64 ((look L q).getD 0), .bool (look L q).isSome]) w := by
  obtain ⟨D, hown, hat⟩ := h
  obtain ⟨v, ps, hrun, hv⟩ := hown.look_ok law Try.underlying68 (zero39 w) (plainElem_int Try.underlying39 (by decide)) (key_of hq)
  obtain ⟨c, rfl, hc, _⟩ := plainElem_int_inv Try.underlying39 hv
  rw [hrun]
  have h1 := congrArg Prod.fst hc
  simp only at h1
  rw [(hat q).2] at h1
  rw [(hat q).1]
  simp only [DataW.lit.injEq, Lit.int.injEq, true_and] at h1
  rw [h1]
theorem Mp.look_at {w : World} {m : Nat} {L : List (Int × Int)} (h : Mp w m L) {q : Int} (hq : I64 q) :
    (Instr.lookup 68 (.map (some m)) (.int .i64 q) false).run Try.prog w = .ok (.int .i64 ((look L q).getD 0)) w := by
  obtain ⟨D, hown, hat⟩ := h
  obtain ⟨c, hrun, hc, _⟩ := hown.lookup_int law Try.underlying68 Try.underlying39 (zero39 w) (key_of hq)
  rw [hrun]
  rw [(hat q).2] at hc
  simp only [DataW.lit.injEq, Lit.int.injEq, true_and] at hc
  rw [hc]
theorem Mp.put {w : World} {m : Nat} {L : List (Int × Int)} (h : Mp w m L) {q c : Int} (hq : I64 q) (hc : I64 c) (hl : L.length < maxLen) (hn : look L q = none) :
    ∃ w', (Instr.mapUpdate 68 (.map (some m)) (.int .i64 q) (.int .i64 c)).run Try.prog w = .ok () w' ∧ Mp w' m (ins q c L) ∧ w.grownBy w' (some m) := by
  obtain ⟨D, hown, hat⟩ := h
  obtain ⟨w', hrun, ho, hg⟩ := hown.update law Try.underlying68 hl (key_of hq) (plainElem_int Try.underlying39 (wf64 hc))
  refine ⟨w', hrun, ⟨_, by rw [ins_length]; exact ho, fun q' => ?_⟩, hg⟩
  rw [look_ins q c L hn]
  by_cases e : q = q'
  · subst e
    rw [if_pos rfl]
    exact ⟨Maps.has_put_same (k := .int .i64 q) hown.isMap trivial _, Maps.atKey_put_same (k := .int .i64 q) hown.isMap trivial _ _⟩
  · rw [if_neg e]
    have hne : (Lit.int .i64 q') ≠ .int .i64 q := by simp; omega
    exact ⟨(Maps.has_put_other hne _).trans (hat q').1, (Maps.atKey_put_other hne _ _).trans (hat q').2⟩
theorem Mp.del {w : World} {m : Nat} {L : List (Int × Int)} (h : Mp w m L) (hs : Srt L) {q : Int} (hq : I64 q) (hn : (look L q).isSome = true) (ty : TypeId) :
    ∃ w', (Builtin.delete_ #[68, 3] ty #[.map (some m), .int .i64 q]).run Try.prog w = .ok (.tuple #[]) w' ∧ Mp w' m (del q L) ∧ w.grownBy w' (some m) := by
  obtain ⟨D, hown, hat⟩ := h
  obtain ⟨w', hrun, ho, hg⟩ := hown.drop law Try.underlying68 (key_of hq) ty
  refine ⟨w', hrun, ⟨_, (own_tight ho).mono ?_, fun q' => ?_⟩, hg.grown⟩
  · have h1 := Maps.size_del (k := .int .i64 q) (hown.tidy law)
    rw [(hat q).1, hn, if_pos rfl] at h1
    have h2 := hown.size_le
    have h3 := del_length hs hn
    omega
  · rw [look_del]
    by_cases e : q = q'
    · subst e
      rw [if_pos rfl]
      exact ⟨Maps.has_del_same, Maps.atKey_del_same _⟩
    · rw [if_neg e]
      have hne : (Lit.int .i64 q') ≠ .int .i64 q := by simp; omega
      exact ⟨(Maps.has_del_other hne).trans (hat q').1, (Maps.atKey_del_other hne _).trans (hat q').2⟩
theorem Mp.made (w : World) : Mp (w.alloc (.map #[] 0)) w.heap.size [] := ⟨.map [], World.ownsMap_made _ _ _ _, fun q => ⟨rfl, rfl⟩⟩
end Go.Proofs.Ytildofclgofjdaa
