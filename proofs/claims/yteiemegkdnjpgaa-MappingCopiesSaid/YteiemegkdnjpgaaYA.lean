/- The reference's New, At and Sector. Conditions stand in each theorem. -/
import Derived.Test.YteiemegkdnjpgaaU
namespace Go.Proofs.Yteiemegkdnjpgaa
open Go.RowKit Go.Shelf
set_option linter.unusedVariables false
set_option maxHeartbeats 4000000
set_option maxRecDepth 100000
theorem look_first {q : Int} : ∀ {L : List (Int × Int)} {k : Nat} (hk : k < L.length), L[k].1 = q → (∀ j (hj : j < L.length), j < k → L[j].1 ≠ q) → look L q = some L[k].2
  | [], k, hk, _, _ => absurd hk (by simp)
  | x :: L, 0, _, he, _ => by rw [look_cons, if_pos (show x.1 = q from he)]; rfl
  | x :: L, k + 1, hk, he, hb => by
    rw [look_cons, if_neg (show ¬ x.1 = q from hb 0 (by simp) (by omega))]
    exact look_first (L := L) (k := k) (by simpa using hk) he fun j hj hjk => hb (j + 1) (by simpa using hj) (by omega)
theorem look_no {q : Int} {L : List (Int × Int)} (h : ∀ j (hj : j < L.length), L[j].1 ≠ q) : look L q = none :=
  look_none.2 fun p hp => by
    obtain ⟨i, hi, rfl⟩ := List.getElem_of_mem hp
    exact h i hi
/-- The value of the reference's map. -/
def rv (s b p : Int) (v : Value) : Value := .agg #[.int .i64 s, .int .i64 b, .int .i64 p, v]
theorem rat_any (s b p : Int) {v : Value} {L : List (Int × Int)} {w : World} (h : Ent w v L) (hl : L.length ≤ 16777216) (q : Int) : Calls Try.prog 37 #[rv s b p v, .int .i64 q] w fun e w' => e = .returned (.tuple #[.int .i64 ((look L q).getD 0), .bool (look L q).isSome]) ∧ Below w.heap.size w w' := by
  obtain ⟨A, c, rfl, -⟩ := h.form
  have b0 := below_alloc w (.cells #[.int .i64 s, .int .i64 b, .int .i64 p, .slice A L.length c] 29)
  have HE := Lib.hid (h.below b0)
  have HB := Lib.hid b0
  clear h b0
  unfold rv
  go_enter Try.func37, Try.ntmps37
  go_wp2
  go_loopw [6] (fun i wr => ∃ k : Nat, k ≤ L.length ∧ i = .int .i64 k ∧ wr = w.alloc (.cells #[.int .i64 s, .int .i64 b, .int .i64 p, .slice A L.length c] 29) ∧ Hid (∀ j (hj : j < L.length), j < k → L[j].1 ≠ q)) (fun i _ => L.length - (RowKit.intOf i).toNat)
  case atStart => exact ⟨0, Nat.zero_le _, rfl, rfl, Lib.hid (fun j _ h => by omega)⟩
  case round =>
    obtain ⟨k, hk, rfl, rfl, HK⟩ := hrel
    by_cases hlt : k < L.length
    · obtain ⟨g, o, c', hv, h1, h2⟩ := HE.out.at hlt
      cases hv
      have HKK := Lib.hid (fun (h : L[k].1 ≠ q) => (show ∀ j (hj : j < L.length), j < k + 1 → L[j].1 ≠ q from fun j hj hjk => by
        rcases Nat.lt_or_ge j k with h3 | h3
        · exact HK.out j hj h3
        · have : j = k := by omega
          subst this; exact h))
      have HYY := Lib.hid (fun (h : L[k].1 = q) => (show look L q = some L[k].2 from look_first hlt h HK.out))
      obtain ⟨x, hx⟩ : ∃ x : Int, x = L[k].1 := ⟨_, rfl⟩
      obtain ⟨y, hy⟩ : ∃ y : Int, y = L[k].2 := ⟨_, rfl⟩
      rw [← hx] at h1
      rw [← hy] at h2
      rw [← hx] at HKK HYY
      rw [← hy] at HYY
      clear hx hy
      by_cases hq : x = q
      · have HY := Lib.hid (HYY.out hq)
        clear HYY HKK
        subst hq
        go_wp2
        go_ret2
        rw [HY.out]
        exact ⟨rfl, HB.out⟩
      · have HK2 := Lib.hid (HKK.out hq)
        clear HYY HKK
        have hq2 : (x == q) = false := by rw [beq_eq_false_iff_ne]; exact hq
        go_wp2
        go_roundw
        case rel => first | exact ⟨k + 1, by omega, by go_num, rfl, HK2⟩ | exact ⟨k + 1, by omega, by go_num, trivial, HK2⟩
        case measure => simp [RowKit.intOf]; omega
    · have hkl : k = L.length := by omega
      subst hkl
      have HN := Lib.hid (show look L q = none from look_no fun j hj => HK.out j hj hj)
      go_wp2
      go_ret2
      rw [HN.out]
      exact ⟨rfl, HB.out⟩
theorem rsec_any (s b p : Int) {v : Value} {L : List (Int × Int)} {w : World} (h : Ent w v L) (hl : L.length ≤ 16777216) (q : Int) : Calls Try.prog 29 #[rv s b p v, .int .i64 q] w fun e w' => e = .returned (.tuple #[.int .i64 ((look (flip L) q).getD 0), .bool (look (flip L) q).isSome]) ∧ Below w.heap.size w w' := by
  obtain ⟨A, c, rfl, -⟩ := h.form
  have b0 := below_alloc w (.cells #[.int .i64 s, .int .i64 b, .int .i64 p, .slice A L.length c] 29)
  have HE := Lib.hid (h.below b0)
  have HB := Lib.hid b0
  clear h b0
  unfold rv
  go_enter Try.func29, Try.ntmps29
  go_wp2
  go_loopw [6] (fun i wr => ∃ k : Nat, k ≤ L.length ∧ i = .int .i64 k ∧ wr = w.alloc (.cells #[.int .i64 s, .int .i64 b, .int .i64 p, .slice A L.length c] 29) ∧ Hid (∀ j (hj : j < L.length), j < k → L[j].2 ≠ q)) (fun i _ => L.length - (RowKit.intOf i).toNat)
  case atStart => exact ⟨0, Nat.zero_le _, rfl, rfl, Lib.hid (fun j _ h => by omega)⟩
  case round =>
    obtain ⟨k, hk, rfl, rfl, HK⟩ := hrel
    by_cases hlt : k < L.length
    · obtain ⟨g, o, c', hv, h1, h2⟩ := HE.out.at hlt
      cases hv
      have HKK := Lib.hid (fun (h : L[k].2 ≠ q) => (show ∀ j (hj : j < L.length), j < k + 1 → L[j].2 ≠ q from fun j hj hjk => by
        rcases Nat.lt_or_ge j k with h3 | h3
        · exact HK.out j hj h3
        · have : j = k := by omega
          subst this; exact h))
      have HYY := Lib.hid (fun (h : L[k].2 = q) => (show look (flip L) q = some L[k].1 from by
        have hf : k < (flip L).length := by rw [flip_length]; exact hlt
        have := look_first (L := flip L) (q := q) hf (by simpa [flip] using h) (fun j hj hjk => by simpa [flip] using HK.out j (by rw [flip_length] at hj; exact hj) hjk)
        rw [this]; simp [flip]))
      obtain ⟨x, hx⟩ : ∃ x : Int, x = L[k].1 := ⟨_, rfl⟩
      obtain ⟨y, hy⟩ : ∃ y : Int, y = L[k].2 := ⟨_, rfl⟩
      rw [← hx] at h1
      rw [← hy] at h2
      rw [← hy] at HKK HYY
      rw [← hx] at HYY
      clear hx hy
      by_cases hq : y = q
      · have HY := Lib.hid (HYY.out hq)
        clear HYY HKK
        subst hq
        go_wp2
        go_ret2
        rw [HY.out]
        exact ⟨rfl, HB.out⟩
      · have HK2 := Lib.hid (HKK.out hq)
        clear HYY HKK
        have hq2 : (y == q) = false := by rw [beq_eq_false_iff_ne]; exact hq
        go_wp2
        go_roundw
        case rel => first | exact ⟨k + 1, by omega, by go_num, rfl, HK2⟩ | exact ⟨k + 1, by omega, by go_num, trivial, HK2⟩
        case measure => simp [RowKit.intOf]; omega
    · have hkl : k = L.length := by omega
      subst hkl
      have HN := Lib.hid (show look (flip L) q = none from look_no fun j hj => by simpa [flip] using HK.out j (by rw [flip_length] at hj; exact hj) (by rw [flip_length] at hj; exact hj))
      go_wp2
      go_ret2
      rw [HN.out]
      exact ⟨rfl, HB.out⟩
end Go.Proofs.Yteiemegkdnjpgaa
