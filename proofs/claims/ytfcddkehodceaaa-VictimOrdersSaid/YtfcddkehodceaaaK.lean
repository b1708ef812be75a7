/- Rows of candidates that a law makes; the mathematics of VictimFew. Conditions stand in each theorem. -/
import Derived.Test.YtfcddkehodceaaaO
import Derived.Test.YtfcddkehodceaaaJS
import Derived.Lib.MinMax
namespace Go.Proofs.Ytfcddkehodceaaa
open Go.RowKit
set_option linter.unusedVariables false
set_option maxHeartbeats 8000000
set_option maxRecDepth 100000
theorem Cs_of_own {W : World} {base n : Nat} {v : Value} {L : List Cd} (h : W.ownsRow base 23 4 v n (L.flatMap Cd.cells)) : n = L.length ∧ Cs W v L := by
  have hn : n = L.length := by have := h.1; rw [fl4_length] at this; omega
  refine ⟨hn, ?_⟩
  rcases h.2 with ⟨h1, h2⟩ | ⟨g, cap, cur, h1, hb, hg, hnc, hcm, hcs, ht⟩
  · have hL : L = [] := List.length_eq_zero_iff.1 (by omega)
    subst hL
    exact ⟨none, 0, h1, fun h => absurd h (by decide)⟩
  · refine ⟨some ⟨g, 0, none⟩, cap, by rw [h1, hn], fun h0 => ⟨g, 0, rfl, (Array.getElem?_eq_some_iff.1 hg).1, fun i hi => ?_⟩⟩
    have key : ∀ j, j < 4 → W.cell? ⟨g, 0 + i * 4 + j, none⟩ = L[i].cells[j]? := fun j hj => by
      rw [cell_of_row W g _ cur 23 (0, 0) hg, Nat.zero_add, ← fl4_at L i j hi hj, ← ht, List.getElem?_take_of_lt (by omega)]
      simp
    exact ⟨key 0 (by omega), key 1 (by omega), key 2 (by omega), key 3 (by omega)⟩
theorem info23 : (Try.prog.info? 23).map (fun i => (i.zero, i.size, i.bytes)) = some (some (.agg #[.int .i64 0, .int .i64 0, .int .i64 0, .int .i64 0]), 4, 32) := by kernel_rfl
theorem cd_one (r : Cd) : ∀ u ∈ r.cells, u.oneCell' = true := by
  intro u hu
  simp only [Cd.cells, List.mem_cons, List.mem_nil_iff, or_false] at hu
  rcases hu with rfl | rfl | rfl | rfl <;> rfl
theorem cd_new (W : World) (c : Cd) : ∀ j u, c.cells[j]? = some u → (W.alloc (.cells #[.int .i64 c.bl, .int .i64 c.va, .int .i64 c.pa, .int .i64 c.ag] 23)).cell? ((⟨W.heap.size, 0, none⟩ : Addr).add j) = some u := by
  intro j u hu
  have h := CdO.new W c 23
  rw [add_plain, Nat.zero_add]
  have hj : j < 4 := (List.getElem?_eq_some_iff.1 hu).1
  have : j = 0 ∨ j = 1 ∨ j = 2 ∨ j = 3 := by omega
  rcases this with rfl | rfl | rfl | rfl <;> (simp only [Cd.cells, List.getElem?_cons_succ, List.getElem?_cons_zero, Option.some.injEq] at hu; subst hu)
  · exact h.c0
  · exact h.c1
  · exact h.c2
  · exact h.c3
/-- One candidate is appended. -/
theorem app4 {W : World} {base : Nat} {v : Value} {L : List Cd} {c : Cd} (ho : W.ownsRow base 23 4 v L.length (L.flatMap Cd.cells)) (hb : base ≤ W.heap.size) (hl : L.length < 5000) :
    ∃ v' W', (Builtin.append_ #[33, 33] 33 #[v, .slice (some ⟨W.heap.size, 0, none⟩) 1 1]).run Try.prog (W.alloc (.cells #[.int .i64 c.bl, .int .i64 c.va, .int .i64 c.pa, .int .i64 c.ag] 23)) = .ok v' W' ∧ W'.ownsRow base 23 4 v' (L.length + 1) ((L ++ [c]).flatMap Cd.cells) ∧ Below base W W' := by
  obtain ⟨i, hi, hz0, hz1, hz2⟩ := info_parts info23
  obtain ⟨v', W', h1, h2, h3, _⟩ := run_append_own (P := Try.prog) (W.alloc (.cells #[.int .i64 c.bl, .int .i64 c.va, .int .i64 c.pa, .int .i64 c.ag] 23)) base 33 33 23 i _ 4 32 Try.underlying33 hi hz0 hz1 hz2 rfl (by decide) v L.length (L.flatMap Cd.cells) (ho.alloc _) ⟨W.heap.size, 0, none⟩ 1 1 c.cells rfl (cd_new W c) (cd_one c) (by unfold maxLen; omega) (by omega) (by rw [World.size_alloc]; omega)
  refine ⟨v', W', h1, ?_, ?_⟩
  · rw [List.flatMap_append]
    simpa using h2
  · have hg : Below base (W.alloc (.cells #[.int .i64 c.bl, .int .i64 c.va, .int .i64 c.pa, .int .i64 c.ag] 23)) W' := ⟨h3.os, h3.tape, h3.output, h3.size, fun k hk => h3.block k (by rw [World.size_alloc]; omega) (fun e => by have := (ho.lt k e.symm).1; omega)⟩
    exact ((Below.refl base W).alloc hb _).trans hg
/-- The candidates of VictimFew: the first k. -/
def fewL (ws : List Int) (p a : Int) (k : Nat) : List Cd := ((ws.take k).zipIdx).map fun x => ⟨(x.2 : Int), x.1, p, a⟩
theorem fewL_len (ws : List Int) (p a : Int) (k : Nat) (hk : k ≤ ws.length) : (fewL ws p a k).length = k := by simp [fewL]; omega
theorem fewL_succ (ws : List Int) (p a : Int) (k : Nat) (hk : k < ws.length) : fewL ws p a (k + 1) = fewL ws p a k ++ [⟨(k : Int), ws[k], p, a⟩] := by
  unfold fewL
  rw [List.take_add_one, List.getElem?_eq_getElem hk, List.zipIdx_append, List.map_append]
  congr 1
  simp; omega
theorem fewL_at (ws : List Int) (p a : Int) (i : Nat) (hi : i < ws.length) : (fewL ws p a ws.length)[i]'(by rw [fewL_len _ _ _ _ (Nat.le_refl _)]; exact hi) = ⟨(i : Int), ws[i], p, a⟩ := by simp [fewL]
/-- The least of the first k, at most p. -/
def leastK (ws : List Int) (p : Int) (k : Nat) : Int := (ws.take k).foldl min p
theorem leastK_succ (ws : List Int) (p : Int) (k : Nat) (hk : k < ws.length) : leastK ws p (k + 1) = min (leastK ws p k) ws[k] := by
  unfold leastK
  rw [List.take_add_one, List.getElem?_eq_getElem hk, List.foldl_append]
  rfl
theorem foldl_min (l : List Int) (p : Int) : (∀ x ∈ l, l.foldl min p ≤ x) ∧ l.foldl min p ≤ p ∧ (l.foldl min p = p ∨ l.foldl min p ∈ l) := by
  induction l generalizing p with
  | nil => exact ⟨fun x h => (by cases h), Int.le_refl _, .inl rfl⟩
  | cons y r ih =>
    obtain ⟨h1, h2, h3⟩ := ih (min p y)
    rw [List.foldl_cons]
    refine ⟨fun x hx => ?_, by omega, ?_⟩
    · rcases List.mem_cons.1 hx with rfl | hx
      · omega
      · exact h1 x hx
    · rcases h3 with h3 | h3
      · by_cases h : p ≤ y
        · left; omega
        · right; rw [h3]; have : min p y = y := by omega
          rw [this]; exact List.mem_cons_self ..
      · right; exact List.mem_cons_of_mem _ h3
/-- What Choose answers over the candidates of VictimFew. -/
theorem few_math {ws : List Int} {p a : Int} (hp1 : 1 ≤ p) (hp2 : p ≤ 512) (ha1 : 0 ≤ a) (ha2 : a ≤ 1099511627776) (hw : ∀ i (h : i < ws.length), 0 ≤ ws[i] ∧ ws[i] ≤ p) {D : List Rk} (hD : D.Perm (rankR (fewL ws p a ws.length))) (hq : D.Pairwise Qr) :
    (leastK ws p ws.length = p → chE (fewL ws p a ws.length) D = 9) ∧
    (leastK ws p ws.length ≠ p → chE (fewL ws p a ws.length) D = 0 ∧ ∃ i, ∃ h : i < ws.length, chK D = (i : Int) ∧ (ws[i] = leastK ws p ws.length ∨ a = 0 ∧ 0 < leastK ws p ws.length)) := by
  have hlen := fewL_len ws p a ws.length (Nat.le_refl _)
  have hat : ∀ i (h0 : i < (fewL ws p a ws.length).length) (h : i < ws.length), (fewL ws p a ws.length)[i] = ⟨(i : Int), ws[i], p, a⟩ := fun i _ h => fewL_at ws p a i h
  generalize hLL : fewL ws p a ws.length = L at *
  have hok : ∀ c ∈ L, c.ok := fun c hc => by
    obtain ⟨i, hi, rfl⟩ := List.getElem_of_mem hc
    rw [hat i hi (by omega)]
    have := hw i (by omega)
    exact ⟨hp1, hp2, this.1, this.2, ha1, ha2⟩
  have hR : rankR L = usL L := if_pos hok
  have hmem : ∀ r, r ∈ rankR L ↔ ∃ i, ∃ h : i < ws.length, r = ⟨⟨(i : Int), ws[i], p, a⟩, (i : Int)⟩ ∧ ws[i] < p := fun r => by
    rw [hR]
    unfold usL useK
    rw [List.take_length, List.mem_filter]
    constructor
    · rintro ⟨h1, h2⟩
      obtain ⟨i, hi, rfl⟩ := List.getElem_of_mem h1
      rw [rkL_length] at hi
      have e := rkL_at L i hi
      rw [hat i hi (by omega)] at e
      rw [e] at h2 ⊢
      exact ⟨i, by omega, rfl, of_decide_eq_true h2⟩
    · rintro ⟨i, hi, rfl, h2⟩
      have e := rkL_at L i (by omega)
      rw [hat i (by omega) hi] at e
      exact ⟨by rw [← e]; exact List.getElem_mem _, decide_eq_true h2⟩
  have hmin := foldl_min (ws.take ws.length) p
  have hml : leastK ws p ws.length = (ws.take ws.length).foldl min p := rfl
  rw [← hml, List.take_length] at hmin
  generalize leastK ws p ws.length = m at *
  obtain ⟨m1, m2, m3⟩ := hmin
  constructor
  · intro hm
    have hRn : rankR L = [] := List.eq_nil_iff_forall_not_mem.2 fun r hr => by
      obtain ⟨i, hi, _, h2⟩ := (hmem r).1 hr
      have := m1 _ (List.getElem_mem hi)
      omega
    have hDn : D = [] := (hRn ▸ hD).eq_nil
    unfold chE errL
    rw [if_pos hDn, if_pos hok, if_pos (by rw [← hR]; exact hRn)]
  · intro hm
    have hmm : m ∈ ws := m3.resolve_left hm
    obtain ⟨j, hj, hjm⟩ := List.getElem_of_mem hmm
    have hin : (⟨⟨(j : Int), ws[j], p, a⟩, (j : Int)⟩ : Rk) ∈ rankR L := (hmem _).2 ⟨j, hj, rfl, by omega⟩
    cases D with
    | nil => have := hD.mem_iff.2 hin; cases this
    | cons x R =>
      obtain ⟨i, hi, hx, hlt⟩ := (hmem x).1 (hD.mem_iff.1 (List.mem_cons_self ..))
      refine ⟨by unfold chE; rw [if_neg (by simp)], i, hi, by rw [hx]; rfl, ?_⟩
      by_cases hc : ws[i] = m
      · exact .inl hc
      · right
        have hge := m1 _ (List.getElem_mem hi)
        have hgt : m < ws[i] := by omega
        have hxj : Qr x ⟨⟨(j : Int), ws[j], p, a⟩, (j : Int)⟩ := by
          rcases List.mem_cons.1 (hD.mem_iff.2 hin) with h | h
          · rw [hx] at h
            have h2 : ws[j] = ws[i] := by injection h with h _; injection h
            omega
          · exact (List.pairwise_cons.1 hq).1 _ h
        have hm0 := (hw j hj).1
        rw [hjm] at hxj hm0
        have hnS : (a ≠ 0 ∨ m = 0) → ¬ Sge ⟨(i : Int), ws[i], p, a⟩ ⟨(j : Int), m, p, a⟩ := by
          intro hcase hS
          unfold Sge Cd.num Cd.den at hS
          simp only at hS
          rw [if_neg (show ¬ ws[i] = 0 by omega), if_neg (show ¬ ws[i] = 0 by omega)] at hS
          by_cases h0 : m = 0
          · rw [if_pos h0, if_pos h0] at hS; omega
          · rw [if_neg h0, if_neg h0] at hS
            have hapos : 0 < a := by rcases hcase with h | h <;> omega
            generalize ws[i] = y at *
            have e1 : (p - m) * a * (2 * y) = 2 * (a * (p * y)) - 2 * (a * (m * y)) := by
              rw [Int.sub_mul, Int.sub_mul]
              have x1 : p * a * (2 * y) = 2 * (a * (p * y)) := by rw [Int.mul_comm p a, Int.mul_assoc, Int.mul_left_comm p 2 y, Int.mul_left_comm a 2]
              have x2 : m * a * (2 * y) = 2 * (a * (m * y)) := by rw [Int.mul_comm m a, Int.mul_assoc, Int.mul_left_comm m 2 y, Int.mul_left_comm a 2]
              rw [x1, x2]
            have e2 : (p - y) * a * (2 * m) = 2 * (a * (p * m)) - 2 * (a * (m * y)) := by
              rw [Int.sub_mul, Int.sub_mul]
              have x1 : p * a * (2 * m) = 2 * (a * (p * m)) := by rw [Int.mul_comm p a, Int.mul_assoc, Int.mul_left_comm p 2 m, Int.mul_left_comm a 2]
              have x2 : y * a * (2 * m) = 2 * (a * (m * y)) := by rw [Int.mul_comm y a, Int.mul_assoc, Int.mul_left_comm y 2 m, Int.mul_left_comm a 2, Int.mul_comm y m]
              rw [x1, x2]
            rw [e1, e2] at hS
            have h5 : a * (p * y) ≤ a * (p * m) := by omega
            have h6 : p * y ≤ p * m := Int.le_of_mul_le_mul_left h5 hapos
            have h7 : y ≤ m := Int.le_of_mul_le_mul_left h6 (by omega)
            omega
        by_cases hcase : a ≠ 0 ∨ m = 0
        · have hns := hnS hcase
          rw [hx] at hxj
          exact (Qr.asymm hxj (.inl hns)).elim
        · omega
end Go.Proofs.Ytfcddkehodceaaa
