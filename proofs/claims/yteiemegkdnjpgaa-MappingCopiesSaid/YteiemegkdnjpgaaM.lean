/- Plain mathematics of a mapping: assignments, their inverse, counts, entries that are applied. No condition. -/
import Derived.Test.YteiemegkdnjpgaaW
namespace Go.Proofs.Yteiemegkdnjpgaa
open Go.RowKit
set_option linter.unusedVariables false

def ins (q c : Int) : List (Int × Int) → List (Int × Int)
  | [] => [(q, c)]
  | p :: r => if q < p.1 then (q, c) :: p :: r else p :: ins q c r
def del (q : Int) (L : List (Int × Int)) : List (Int × Int) := L.filter (fun p => !(p.1 == q))
theorem look_nil (q : Int) : look [] q = none := rfl
theorem look_cons (p : Int × Int) (L : List (Int × Int)) (q : Int) : look (p :: L) q = if p.1 = q then some p.2 else look L q := by
  unfold look
  by_cases h : p.1 = q <;> simp [h]
theorem ins_length (q c : Int) (L : List (Int × Int)) : (ins q c L).length = L.length + 1 := by
  induction L with
  | nil => rfl
  | cons p r ih => unfold ins; split <;> simp [ih]
theorem look_mem {L : List (Int × Int)} {q c : Int} (h : look L q = some c) : (q, c) ∈ L := by
  induction L with
  | nil => cases h
  | cons p r ih =>
    rw [look_cons] at h
    split at h
    · rename_i e; cases h; rw [← e]; exact List.mem_cons_self
    · exact List.mem_cons_of_mem _ (ih h)
/-- Each first number stands once. -/
def Nd (L : List (Int × Int)) : Prop := L.Pairwise (fun x y => x.1 ≠ y.1)
theorem look_of_mem {L : List (Int × Int)} (hs : Nd L) {q c : Int} (h : (q, c) ∈ L) : look L q = some c := by
  induction L with
  | nil => cases h
  | cons p r ih =>
    rw [look_cons]
    rcases List.mem_cons.1 h with e | e
    · rw [← e]; simp
    · have := (List.pairwise_cons.1 hs).1 _ e
      rw [if_neg (by simpa using this)]
      exact ih (List.pairwise_cons.1 hs).2 e
theorem look_none {L : List (Int × Int)} {q : Int} : look L q = none ↔ ∀ p ∈ L, p.1 ≠ q := by
  unfold look
  simp
/-- Two lists of the same members look up the same. -/
theorem look_eq {A B : List (Int × Int)} (hA : Nd A) (hB : Nd B) (h : ∀ x, x ∈ A ↔ x ∈ B) (q : Int) : look A q = look B q := by
  cases e : look A q with
  | some c => exact (look_of_mem hB ((h _).1 (look_mem e))).symm
  | none =>
    refine (look_none.2 fun p hp => ?_).symm
    exact look_none.1 e p ((h _).2 hp)
theorem look_upd_some {A B : List (Int × Int)} (hA : Nd A) (hB : Nd B) {q c : Int} (h : ∀ x, x ∈ A ↔ x = (q, c) ∨ x ∈ B) (hq : look B q = none) (k : Int) : look A k = upd (look B) q (some c) k := by
  unfold upd
  by_cases e : q = k
  · subst e
    rw [if_pos rfl]
    exact look_of_mem hA ((h _).2 (.inl rfl))
  · rw [if_neg e]
    cases e1 : look B k with
    | some d => exact look_of_mem hA ((h _).2 (.inr (look_mem e1)))
    | none =>
      refine look_none.2 fun p hp => ?_
      rcases (h _).1 hp with rfl | hp
      · exact e
      · exact look_none.1 e1 p hp
theorem look_upd_none {A B : List (Int × Int)} (hA : Nd A) (hB : Nd B) {q : Int} (h : ∀ x, x ∈ A ↔ x.1 ≠ q ∧ x ∈ B) (k : Int) : look A k = upd (look B) q none k := by
  unfold upd
  by_cases e : q = k
  · subst e
    rw [if_pos rfl]
    exact look_none.2 fun p hp => ((h _).1 hp).1
  · rw [if_neg e]
    cases e1 : look B k with
    | some d => exact look_of_mem hA ((h _).2 ⟨fun e2 => e e2.symm, look_mem e1⟩)
    | none => exact look_none.2 fun p hp => look_none.1 e1 p ((h _).1 hp).2
theorem mem_ins {q c : Int} {L : List (Int × Int)} {p : Int × Int} : p ∈ ins q c L ↔ p = (q, c) ∨ p ∈ L := by
  induction L with
  | nil => simp [ins]
  | cons x r ih =>
    unfold ins
    split
    · simp
    · simp only [List.mem_cons, ih]
      constructor
      · rintro (h | h | h)
        · exact .inr (.inl h)
        · exact .inl h
        · exact .inr (.inr h)
      · rintro (h | h | h)
        · exact .inr (.inl h)
        · exact .inl h
        · exact .inr (.inr h)
theorem mem_del {q : Int} {L : List (Int × Int)} {p : Int × Int} : p ∈ del q L ↔ p.1 ≠ q ∧ p ∈ L := by
  unfold del
  rw [List.mem_filter]
  simp [And.comm]
theorem mem_flip {L : List (Int × Int)} {p : Int × Int} : p ∈ flip L ↔ (p.2, p.1) ∈ L := by
  unfold flip
  rw [List.mem_map]
  constructor
  · rintro ⟨x, hx, rfl⟩; exact hx
  · intro h; exact ⟨_, h, rfl⟩
theorem flip_length (L : List (Int × Int)) : (flip L).length = L.length := by simp [flip]
/-- The list keeps its order if the key is new. -/
theorem srt_ins {L : List (Int × Int)} (h : L.Pairwise (fun x y => x.1 < y.1)) {q c : Int} (hn : ∀ x ∈ L, x.1 ≠ q) : (ins q c L).Pairwise (fun x y => x.1 < y.1) := by
  induction L with
  | nil => simp [ins]
  | cons x r ih =>
    have hx := hn x List.mem_cons_self
    have h1 := List.pairwise_cons.1 h
    unfold ins
    split
    · refine List.pairwise_cons.2 ⟨fun p hp => ?_, h⟩
      rcases List.mem_cons.1 hp with rfl | hp
      · assumption
      · have := h1.1 p hp
        show q < p.1
        omega
    · refine List.pairwise_cons.2 ⟨fun p hp => ?_, ih h1.2 (fun y hy => hn y (List.mem_cons_of_mem _ hy))⟩
      rcases mem_ins.1 hp with rfl | hp
      · show x.1 < q
        omega
      · exact h1.1 p hp
theorem inj_ins {L : List (Int × Int)} (h : L.Pairwise (fun x y => x.2 ≠ y.2)) {q c : Int} (hn : ∀ x ∈ L, x.2 ≠ c) : (ins q c L).Pairwise (fun x y => x.2 ≠ y.2) := by
  induction L with
  | nil => simp [ins]
  | cons x r ih =>
    have hx := hn x List.mem_cons_self
    have h1 := List.pairwise_cons.1 h
    unfold ins
    split
    · refine List.pairwise_cons.2 ⟨fun p hp => fun e => hn p hp e.symm, h⟩
    · refine List.pairwise_cons.2 ⟨fun p hp => ?_, ih h1.2 (fun y hy => hn y (List.mem_cons_of_mem _ hy))⟩
      rcases mem_ins.1 hp with rfl | hp
      · exact hx
      · exact h1.1 p hp
theorem srt_nd {L : List (Int × Int)} (h : L.Pairwise (fun x y => x.1 < y.1)) : Nd L := h.imp fun {a b} h => by omega
theorem inj_nd {L : List (Int × Int)} (h : L.Pairwise (fun x y => x.2 ≠ y.2)) : Nd (flip L) := by
  unfold Nd flip
  exact List.pairwise_map.2 h
/-- An entry, applied. -/
def asg (L : List (Int × Int)) (q g : Int) : List (Int × Int) := if g = -1 then del q L else ins q g (del q L)
section
variable {s b p : Nat} {L : List (Int × Int)}
theorem Fits.nd (h : Fits s b p L) : Nd L := srt_nd h.srt
theorem Fits.ndf (h : Fits s b p L) : Nd (flip L) := inj_nd h.inj
theorem Fits.n (h : Fits s b p L) : 1 ≤ b * p ∧ b * p ≤ 2097152 := by
  obtain ⟨h1, h2⟩ := h.hb
  obtain ⟨h3, h4⟩ := h.hp
  have a := Nat.mul_le_mul h1 h3
  have b := Nat.mul_le_mul h2 h4
  omega
theorem Fits.del (h : Fits s b p L) (q : Int) : Fits s b p (del q L) :=
  ⟨h.hs, h.hb, h.hp, h.srt.sublist List.filter_sublist, fun x hx => h.rng x (mem_del.1 hx).2, h.inj.sublist List.filter_sublist⟩
theorem Fits.ins (h : Fits s b p L) {q g : Int} (hq : 0 ≤ q ∧ q < s) (hg : 0 ≤ g ∧ g < ((b * p : Nat) : Int)) (h1 : ∀ x ∈ L, x.1 ≠ q) (h2 : ∀ x ∈ L, x.2 ≠ g) : Fits s b p (ins q g L) :=
  ⟨h.hs, h.hb, h.hp, srt_ins h.srt h1, fun x hx => by
    rcases mem_ins.1 hx with rfl | hx
    · exact ⟨hq.1, hq.2, hg.1, hg.2⟩
    · exact h.rng x hx, inj_ins h.inj h2⟩
theorem len_aux : ∀ (L : List (Int × Int)) (a s : Int), L.Pairwise (fun p q => p.1 < q.1) → (∀ p ∈ L, a ≤ p.1 ∧ p.1 < s) → a ≤ s → (L.length : Int) ≤ s - a
  | [], a, s, _, _, h => by simp; omega
  | p :: r, a, s, h, hb, h' => by
    have h1 := List.pairwise_cons.1 h
    have hp := hb p List.mem_cons_self
    have := len_aux r (p.1 + 1) s h1.2 (fun x hx => ⟨by have := h1.1 x hx; omega, (hb x (List.mem_cons_of_mem _ hx)).2⟩) (by omega)
    simp
    omega
theorem Fits.len (h : Fits s b p L) : L.length ≤ s := by
  have := len_aux L 0 s h.srt (fun x hx => ⟨(h.rng x hx).1, (h.rng x hx).2.1⟩) (by omega)
  omega
theorem Fits.len64 (h : Fits s b p L) : L.length < maxLen := by
  have := h.len
  have := h.hs
  unfold maxLen
  omega
theorem Fits.look_iff (h : Fits s b p L) {q g : Int} : look L q = some g ↔ (q, g) ∈ L := ⟨look_mem, look_of_mem h.nd⟩
theorem Fits.flip_iff (h : Fits s b p L) {q g : Int} : look (flip L) g = some q ↔ (q, g) ∈ L :=
  ⟨fun e => mem_flip.1 (look_mem e), fun e => look_of_mem h.ndf (mem_flip.2 e)⟩
theorem Fits.look_rng (h : Fits s b p L) {q g : Int} (e : look L q = some g) : 0 ≤ q ∧ q < s ∧ 0 ≤ g ∧ g < ((b * p : Nat) : Int) := h.rng _ (look_mem e)
theorem Fits.flip_rng (h : Fits s b p L) {q g : Int} (e : look (flip L) g = some q) : 0 ≤ q ∧ q < s ∧ 0 ≤ g ∧ g < ((b * p : Nat) : Int) := h.rng _ (h.flip_iff.1 e)
theorem del_none {q : Int} (h : look L q = none) : del q L = L := by
  unfold Yteiemegkdnjpgaa.del
  rw [List.filter_eq_self]
  intro p hp
  have := look_none.1 h p hp
  simpa using this
theorem del_length (hs : Nd L) {q g : Int} (h : look L q = some g) : (del q L).length + 1 = L.length := by
  induction L with
  | nil => cases h
  | cons p r ih =>
    rw [look_cons] at h
    by_cases e : p.1 = q
    · have h1 := (List.pairwise_cons.1 hs).1
      have h2 : look r q = none := look_none.2 fun x hx => by have := h1 x hx; rw [← e]; exact fun e => this e.symm
      have h3 := del_none h2
      unfold del at h3 ⊢
      rw [List.filter_cons, if_neg (by simp [e]), h3]
      rfl
    · rw [if_neg e] at h
      have h3 := ih (List.pairwise_cons.1 hs).2 h
      unfold del at h3 ⊢
      rw [List.filter_cons, if_pos (by simpa using e)]
      simp only [List.length_cons]
      omega
theorem cntB_ins (q g : Int) (k : Int) : cntB p (ins q g L) k = cntB p L k + (if g / (p : Int) = k then 1 else 0) := by
  unfold cntB
  induction L with
  | nil => by_cases h : g / (p : Int) = k <;> simp [Yteiemegkdnjpgaa.ins, h]
  | cons x r ih =>
    unfold Yteiemegkdnjpgaa.ins
    split
    · rw [List.filter_cons]
      by_cases h : g / (p : Int) = k <;> simp [h]
    · rw [List.filter_cons, List.filter_cons]
      by_cases h : x.2 / (p : Int) = k
      · simp only [h, decide_true, if_true, List.length_cons]
        omega
      · simp only [h, decide_false, Bool.false_eq_true, if_false]
        exact ih
theorem cntB_del (hs : Nd L) {q g : Int} (h : look L q = some g) (k : Int) : cntB p (del q L) k = cntB p L k - (if g / (p : Int) = k then 1 else 0) := by
  induction L with
  | nil => cases h
  | cons x r ih =>
    rw [look_cons] at h
    by_cases e : x.1 = q
    · rw [if_pos e] at h
      have h1 := (List.pairwise_cons.1 hs).1
      have h2 : look r q = none := look_none.2 fun y hy => by have := h1 y hy; rw [← e]; exact fun e => this e.symm
      have h3 := del_none h2
      unfold del at h3 ⊢
      rw [List.filter_cons, if_neg (by simp [e]), h3]
      unfold cntB
      rw [List.filter_cons]
      have hg : x.2 = g := by injection h
      rw [hg]
      by_cases hk : g / (p : Int) = k
      · simp only [hk, decide_true, if_true, List.length_cons]; omega
      · simp [hk]
    · rw [if_neg e] at h
      have h3 := ih (List.pairwise_cons.1 hs).2 h
      unfold del at h3 ⊢
      rw [List.filter_cons, if_pos (by simpa using e)]
      unfold cntB at h3 ⊢
      rw [List.filter_cons, List.filter_cons]
      by_cases hk : x.2 / (p : Int) = k
      · simp only [hk, decide_true, if_true, List.length_cons] at h3 ⊢
        omega
      · simp only [hk, decide_false, Bool.false_eq_true, if_false] at h3 ⊢
        exact h3
theorem cntB_nonneg (k : Int) : 0 ≤ cntB p L k := by unfold cntB; omega
theorem cntB_le (k : Int) : cntB p L k ≤ L.length := by
  unfold cntB
  have := List.length_filter_le (fun x : Int × Int => decide (x.2 / (p : Int) = k)) L
  omega
theorem cntB_pos {q g : Int} (h : look L q = some g) : 1 ≤ cntB p L (g / (p : Int)) := by
  unfold cntB
  have : 0 < (L.filter fun x => decide (x.2 / (p : Int) = g / (p : Int))).length := List.length_pos_of_mem (List.mem_filter.2 ⟨look_mem h, by simp⟩)
  omega
/-- The block of a page. -/
theorem Fits.blk (h : Fits s b p L) {g : Int} (hg : 0 ≤ g ∧ g < ((b * p : Nat) : Int)) : ∃ k : Nat, g / (p : Int) = k ∧ k < b := by
  have hp := h.hp
  have h1 : 0 ≤ g / (p : Int) := Int.ediv_nonneg hg.1 (by omega)
  have h2 : g / (p : Int) < (b : Int) := by
    rw [Int.ediv_lt_iff_lt_mul (by omega)]
    rw [Int.natCast_mul] at hg
    exact hg.2
  exact ⟨(g / (p : Int)).toNat, by omega, by omega⟩
/-- May the entry be applied? 0: yes. -/
def reqE (s b p : Nat) (L : List (Int × Int)) (q g : Int) : Int :=
  if ¬ (0 ≤ q ∧ q < s) ∨ (g ≠ -1 ∧ ¬ (0 ≤ g ∧ g < ((b * p : Nat) : Int))) then 3
  else match look (flip L) g with
    | some k => if k = q then 0 else 11
    | none => 0
theorem reqE_ok {q g : Int} (h : reqE s b p L q g = 0) : (0 ≤ q ∧ q < s) ∧ (g = -1 ∨ (0 ≤ g ∧ g < ((b * p : Nat) : Int))) ∧ ∀ k, look (flip L) g = some k → k = q := by
  unfold reqE at h
  split at h
  · cases h
  · rename_i hn
    refine ⟨by omega, by omega, fun k hk => ?_⟩
    rw [hk] at h
    simp only at h
    split at h
    · assumption
    · cases h
theorem Fits.asg (h : Fits s b p L) {q g : Int} (hr : reqE s b p L q g = 0) : Fits s b p (asg L q g) := by
  obtain ⟨h1, h2, h3⟩ := reqE_ok hr
  unfold Yteiemegkdnjpgaa.asg
  split
  · exact h.del q
  · refine (h.del q).ins h1 (by omega) (fun x hx => (mem_del.1 hx).1) fun x hx e => ?_
    obtain ⟨a, c⟩ := mem_del.1 hx
    exact a (h3 x.1 (h.flip_iff.2 (by rw [← e]; exact c)))
theorem ins_eq {q c : Int} (hs : L.Pairwise (fun x y => x.1 < y.1)) (h : (q, c) ∈ L) : ins q c (del q L) = L := by
  induction L with
  | nil => cases h
  | cons x r ih =>
    have h1 := List.pairwise_cons.1 hs
    by_cases e : x.1 = q
    · have h2 : look r q = none := look_none.2 fun y hy => by have := h1.1 y hy; omega
      have h3 : del q (x :: r) = r := by
        have := del_none h2
        unfold Yteiemegkdnjpgaa.del at this ⊢
        rw [List.filter_cons, if_neg (by simp [e]), this]
      rw [h3]
      have hx : x = (q, c) := by
        rcases List.mem_cons.1 h with h | h
        · exact h.symm
        · exact absurd rfl (look_none.1 h2 _ h)
      subst hx
      cases r with
      | nil => rfl
      | cons y t =>
        have := h1.1 y List.mem_cons_self
        unfold Yteiemegkdnjpgaa.ins
        rw [if_pos this]
    · have h3 : del q (x :: r) = x :: del q r := by
        unfold Yteiemegkdnjpgaa.del
        rw [List.filter_cons, if_pos (by simpa using e)]
      rw [h3]
      have hm : (q, c) ∈ r := by
        rcases List.mem_cons.1 h with h | h
        · exact absurd (by rw [← h]) e
        · exact h
      have := h1.1 _ hm
      unfold Yteiemegkdnjpgaa.ins
      rw [if_neg (by simp at this; omega), ih h1.2 hm]
theorem del_ins {q c : Int} (hn : ∀ x ∈ L, x.1 ≠ q) : del q (ins q c L) = L := by
  induction L with
  | nil => simp [Yteiemegkdnjpgaa.ins, Yteiemegkdnjpgaa.del]
  | cons x r ih =>
    have hx := hn x List.mem_cons_self
    have hr : del q r = r := del_none (look_none.2 fun y hy => hn y (List.mem_cons_of_mem _ hy))
    unfold Yteiemegkdnjpgaa.ins
    split
    · unfold Yteiemegkdnjpgaa.del at hr ⊢
      rw [List.filter_cons, if_neg (by simp), List.filter_cons, if_pos (by simpa using hx), hr]
    · have := ih fun y hy => hn y (List.mem_cons_of_mem _ hy)
      unfold Yteiemegkdnjpgaa.del at this ⊢
      rw [List.filter_cons, if_pos (by simpa using hx), this]
/-- What a sector had. -/
def old (L : List (Int × Int)) (q : Int) : Int := (look L q).getD (-1)
theorem Fits.back (h : Fits s b p L) {q g : Int} (hr : reqE s b p L q g = 0) : Yteiemegkdnjpgaa.asg (Yteiemegkdnjpgaa.asg L q g) q (old L q) = L ∧ reqE s b p (Yteiemegkdnjpgaa.asg L q g) q (old L q) = 0 := by
  obtain ⟨h1, h2, h3⟩ := reqE_ok hr
  have hf := h.asg hr
  have hd : Yteiemegkdnjpgaa.del q (Yteiemegkdnjpgaa.asg L q g) = Yteiemegkdnjpgaa.del q L := by
    unfold Yteiemegkdnjpgaa.asg
    split
    · exact del_none (look_none.2 fun x hx => (mem_del.1 hx).1)
    · exact del_ins fun x hx => (mem_del.1 hx).1
  cases e : look L q with
  | none =>
    have eo : old L q = -1 := by unfold old; rw [e]; rfl
    rw [eo]
    refine ⟨?_, ?_⟩
    · show (if (-1 : Int) = -1 then _ else _) = L
      rw [if_pos rfl, hd, del_none e]
    · unfold reqE
      rw [if_neg (by omega)]
      cases e2 : look (flip (Yteiemegkdnjpgaa.asg L q g)) (-1) with
      | none => rfl
      | some k => have := hf.flip_rng e2; omega
  | some c =>
    have eo : old L q = c := by unfold old; rw [e]; rfl
    have hc := h.look_rng e
    rw [eo]
    refine ⟨?_, ?_⟩
    · show (if c = -1 then _ else _) = L
      rw [if_neg (by omega), hd, ins_eq h.srt (look_mem e)]
    · unfold reqE
      rw [if_neg (by omega)]
      cases e2 : look (flip (Yteiemegkdnjpgaa.asg L q g)) c with
      | none => rfl
      | some k =>
        have hm := hf.flip_iff.1 e2
        by_cases hk : k = q
        · simp [hk]
        · exfalso
          have hm2 : (k, c) ∈ Yteiemegkdnjpgaa.del q (Yteiemegkdnjpgaa.asg L q g) := mem_del.2 ⟨hk, hm⟩
          rw [hd] at hm2
          have a1 := h.flip_iff.2 (mem_del.1 hm2).2
          have a2 := h.flip_iff.2 (look_mem e)
          rw [a1] at a2
          injection a2 with a2
          exact hk a2
end
/-- Entries, applied one after the other: what becomes of the map, and the error. -/
def appS (s b p : Nat) (L0 : List (Int × Int)) : List (Int × Int) → List (Int × Int) → List (Int × Int)
  | L, [] => L
  | L, x :: r => if reqE s b p L x.1 x.2 = 0 then appS s b p L0 (asg L x.1 x.2) r else L0
def appE (s b p : Nat) : List (Int × Int) → List (Int × Int) → Int
  | L, [] => 0
  | L, x :: r => if reqE s b p L x.1 x.2 = 0 then appE s b p (asg L x.1 x.2) r else reqE s b p L x.1 x.2
theorem Fits.app {s b p : Nat} {L0 : List (Int × Int)} (h0 : Fits s b p L0) : ∀ (xs L : List (Int × Int)), Fits s b p L → Fits s b p (appS s b p L0 L xs)
  | [], L, h => h
  | x :: r, L, h => by
    unfold appS
    split
    · rename_i hr
      exact Fits.app h0 r _ (h.asg hr)
    · exact h0
end Go.Proofs.Yteiemegkdnjpgaa
