/- Plain mathematics of the arbiter: entries of queues, loads, a pick. No condition. -/
import Derived.Test.YtildofclgofjdaaW
namespace Go.Proofs.Ytildofclgofjdaa
open Go.RowKit
set_option linter.unusedVariables false

def ins (q c : Int) : List (Int × Int) → List (Int × Int)
  | [] => [(q, c)]
  | p :: r => if q < p.1 then (q, c) :: p :: r else p :: ins q c r
def del (q : Int) (L : List (Int × Int)) : List (Int × Int) := L.filter (fun p => !(p.1 == q))
theorem look_nil (q : Int) : look [] q = none := rfl
theorem look_cons (p : Int × Int) (L : List (Int × Int)) (q : Int) : look (p :: L) q = if p.1 = q then some p.2 else look L q := by
  unfold look
  by_cases h : p.1 = q <;> simp [h]
theorem ins_length (q c : Int) (L : List (Int × Int)) : (ins q c L).length = L.length + 1 := by
  induction L with
  | nil => rfl
  | cons p r ih => unfold ins; split <;> simp [ih]
theorem look_ins (q c : Int) (L : List (Int × Int)) (h : look L q = none) (q' : Int) : look (ins q c L) q' = if q = q' then some c else look L q' := by
  induction L with
  | nil => simp [ins, look_cons, look_nil]
  | cons p r ih =>
    rw [look_cons] at h
    have hp : p.1 ≠ q := by intro e; rw [if_pos e] at h; cases h
    rw [if_neg hp] at h
    unfold ins
    split
    · rw [look_cons, look_cons]
    · rw [look_cons, ih h, look_cons]
      by_cases h1 : q = q'
      · rw [if_pos h1, if_neg (by omega), if_pos h1]
      · rw [if_neg h1, if_neg h1]
theorem look_del (q : Int) (L : List (Int × Int)) (q' : Int) : look (del q L) q' = if q = q' then none else look L q' := by
  unfold del
  induction L with
  | nil => simp [look_nil]
  | cons p r ih =>
    rw [List.filter_cons, look_cons]
    by_cases h : p.1 = q
    · simp only [h, BEq.rfl, Bool.not_true, Bool.false_eq_true, if_false, ih]
      by_cases h1 : q = q'
      · simp [h1]
      · simp [h1]
    · have : (!(p.1 == q)) = true := by simpa using h
      rw [if_pos this, look_cons, ih]
      by_cases h1 : q = q'
      · rw [if_pos h1, if_neg (by omega), if_pos h1]
      · rw [if_neg h1, if_neg h1]
/-- The entries stand by increasing number, which are numbers of queues, with classes. -/
def Srt (L : List (Int × Int)) : Prop := L.Pairwise (fun p q => p.1 < q.1) ∧ ∀ p ∈ L, 0 ≤ p.1 ∧ p.1 ≤ 65535 ∧ 0 ≤ p.2 ∧ p.2 ≤ 3
theorem Srt.tail {p : Int × Int} {L : List (Int × Int)} (h : Srt (p :: L)) : Srt L := ⟨(List.pairwise_cons.1 h.1).2, fun x hx => h.2 x (List.mem_cons_of_mem _ hx)⟩
theorem look_mem {L : List (Int × Int)} {q c : Int} (h : look L q = some c) : (q, c) ∈ L := by
  induction L with
  | nil => cases h
  | cons p r ih =>
    rw [look_cons] at h
    split at h
    · rename_i e; cases h; rw [← e]; exact List.mem_cons_self
    · exact List.mem_cons_of_mem _ (ih h)
theorem look_of_mem {L : List (Int × Int)} (hs : Srt L) {q c : Int} (h : (q, c) ∈ L) : look L q = some c := by
  induction L with
  | nil => cases h
  | cons p r ih =>
    rw [look_cons]
    rcases List.mem_cons.1 h with e | e
    · rw [← e]; simp
    · have := (List.pairwise_cons.1 hs.1).1 _ e
      rw [if_neg (by simp at this; omega)]
      exact ih hs.tail e
theorem look_none {L : List (Int × Int)} {q : Int} : look L q = none ↔ ∀ p ∈ L, p.1 ≠ q := by
  unfold look
  simp
theorem Srt.nil : Srt [] := ⟨List.Pairwise.nil, by simp⟩
theorem mem_ins {q c : Int} {L : List (Int × Int)} {p : Int × Int} : p ∈ ins q c L ↔ p = (q, c) ∨ p ∈ L := by
  induction L with
  | nil => simp [ins]
  | cons x r ih =>
    unfold ins
    split
    · simp
    · simp only [List.mem_cons, ih]
      constructor
      · rintro (h | h | h)
        · exact .inr (.inl h)
        · exact .inl h
        · exact .inr (.inr h)
      · rintro (h | h | h)
        · exact .inr (.inl h)
        · exact .inl h
        · exact .inr (.inr h)
theorem Srt.ins {L : List (Int × Int)} (h : Srt L) {q c : Int} (hq : 0 ≤ q ∧ q ≤ 65535) (hc : 0 ≤ c ∧ c ≤ 3) (hn : look L q = none) : Srt (ins q c L) := by
  refine ⟨?_, fun p hp => ?_⟩
  · induction L with
    | nil => simp [Ytildofclgofjdaa.ins]
    | cons x r ih =>
      rw [look_cons] at hn
      have hx : x.1 ≠ q := by intro e; rw [if_pos e] at hn; cases hn
      rw [if_neg hx] at hn
      have h1 := List.pairwise_cons.1 h.1
      unfold Ytildofclgofjdaa.ins
      split
      · refine List.pairwise_cons.2 ⟨fun p hp => ?_, h.1⟩
        rcases List.mem_cons.1 hp with rfl | hp
        · assumption
        · have := h1.1 p hp
          show q < p.1
          omega
      · refine List.pairwise_cons.2 ⟨fun p hp => ?_, ih h.tail hn⟩
        rcases mem_ins.1 hp with rfl | hp
        · show x.1 < q
          omega
        · exact h1.1 p hp
  · rcases mem_ins.1 hp with rfl | hp
    · exact ⟨hq.1, hq.2, hc.1, hc.2⟩
    · exact h.2 p hp
theorem Srt.del {L : List (Int × Int)} (h : Srt L) (q : Int) : Srt (del q L) := ⟨h.1.sublist List.filter_sublist, fun p hp => h.2 p ((List.mem_filter.1 hp).1)⟩
theorem Srt.len_aux : ∀ (L : List (Int × Int)) (a : Int), L.Pairwise (fun p q => p.1 < q.1) → (∀ p ∈ L, a ≤ p.1 ∧ p.1 ≤ 65535) → a ≤ 65536 → (L.length : Int) ≤ 65536 - a
  | [], a, _, _, h => by simp; omega
  | p :: r, a, h, hb, h' => by
    have h1 := List.pairwise_cons.1 h
    have hp := hb p List.mem_cons_self
    have := Srt.len_aux r (p.1 + 1) h1.2 (fun x hx => ⟨by have := h1.1 x hx; omega, (hb x (List.mem_cons_of_mem _ hx)).2⟩) (by omega)
    simp
    omega
theorem Srt.len {L : List (Int × Int)} (h : Srt L) : L.length ≤ 65536 := by
  have := Srt.len_aux L 0 h.1 (fun p hp => ⟨(h.2 p hp).1, (h.2 p hp).2.1⟩) (by omega)
  omega
theorem look_cls {L : List (Int × Int)} (h : Srt L) (q : Int) : 0 ≤ (look L q).getD 0 ∧ (look L q).getD 0 ≤ 3 := by
  cases e : look L q with
  | none => simp
  | some c => have := h.2 _ (look_mem e); simp; omega
theorem look_num {L : List (Int × Int)} (h : Srt L) {q : Int} (hq : (look L q).isSome = true) : 0 ≤ q ∧ q ≤ 65535 := by
  cases e : look L q with
  | none => rw [e] at hq; cases hq
  | some c => have := h.2 _ (look_mem e); exact ⟨this.1, this.2.1⟩
theorem del_none {L : List (Int × Int)} {q : Int} (h : look L q = none) : del q L = L := by
  unfold del
  rw [List.filter_eq_self]
  intro p hp
  have := look_none.1 h p hp
  simpa using this
theorem del_length {L : List (Int × Int)} (hs : Srt L) {q : Int} (h : (look L q).isSome = true) : (del q L).length + 1 = L.length := by
  induction L with
  | nil => cases h
  | cons p r ih =>
    rw [look_cons] at h
    by_cases e : p.1 = q
    · have h1 := (List.pairwise_cons.1 hs.1).1
      have h2 : look r q = none := look_none.2 fun x hx => by have := h1 x hx; omega
      have h3 := del_none h2
      unfold del at h3 ⊢
      rw [List.filter_cons, if_neg (by simp [e]), h3]
      rfl
    · rw [if_neg e] at h
      have h3 := ih hs.tail h
      unfold del at h3 ⊢
      rw [List.filter_cons, if_pos (by simpa using e)]
      simp only [List.length_cons]
      omega
end Go.Proofs.Ytildofclgofjdaa
