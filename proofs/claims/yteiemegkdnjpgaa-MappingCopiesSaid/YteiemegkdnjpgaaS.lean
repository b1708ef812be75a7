/- The contract of few; counts over the sectors and over the blocks. Conditions stand in each theorem. -/
import Derived.Test.YteiemegkdnjpgaaR
namespace Go.Proofs.Yteiemegkdnjpgaa
open Go.RowKit Go.Shelf
set_option linter.unusedVariables false
set_option maxHeartbeats 4000000
set_option maxRecDepth 100000
def fewB (ls : List (List (Int × Int))) (most : Int) : Bool := decide ((ls.length : Int) ≤ most) && ls.all fun l => decide (l.length ≤ 20)
theorem few_len {ls : List (List (Int × Int))} {most : Int} (h : fewB ls most = true) : (ls.length : Int) ≤ most ∧ ∀ l ∈ ls, l.length ≤ 20 := by
  unfold fewB at h
  simp only [Bool.and_eq_true, decide_eq_true_eq, List.all_eq_true] at h
  exact h
theorem few_any (v : Value) (ls : List (List (Int × Int))) (most : Int) (w : World) (h : Lol w v ls) (hm : most ≤ 1000) : Calls Try.prog 11 #[v, .int .i64 most] w fun e w' => e = .returned (.bool (fewB ls most)) ∧ w = w' := by
  obtain ⟨A, c, rfl, hr⟩ := h
  have HR := Lib.hid hr
  clear hr
  by_cases hlen : (ls.length : Int) ≤ most
  · have hg : ¬ most < (ls.length : Int) := by omega
    have HLN := Lib.hid (show fewB ls most = ls.all fun l => decide (l.length ≤ 20) by unfold fewB; rw [decide_eq_true hlen]; rfl)
    have hll : (ls.length : Int) ≤ 1000 := by omega
    go_enter Try.func11, Try.ntmps11
    go_wp2
    go_loopw [5] (fun i wr => ∃ k : Nat, k ≤ ls.length ∧ i = .int .i64 k ∧ wr = w ∧ Hid (∀ j (hj : j < ls.length), j < k → ls[j].length ≤ 20)) (fun i _ => ls.length - (RowKit.intOf i).toNat)
    case atStart => exact ⟨0, Nat.zero_le _, rfl, rfl, Lib.hid (fun j _ h => by omega)⟩
    case round =>
      obtain ⟨k, hk, rfl, rfl, HK⟩ := hrel
      by_cases hlt : k < ls.length
      · obtain ⟨g, o, rfl, hg', hc⟩ := HR.out (by omega)
        obtain ⟨u, h1, h2⟩ := hc k hlt
        obtain ⟨A2, c2, rfl, _⟩ := h2.form
        have HKK := Lib.hid (fun (h : ls[k].length ≤ 20) => (show ∀ j (hj : j < ls.length), j < k + 1 → ls[j].length ≤ 20 from fun j hj hjk => by
          rcases Nat.lt_or_ge j k with h3 | h3
          · exact HK.out j hj h3
          · have : j = k := by omega
            subst this; exact h))
        have HNN := Lib.hid (fun (h : ¬ ls[k].length ≤ 20) => (show (ls.all fun l => decide (l.length ≤ 20)) = false from by
          rw [List.all_eq_false]
          exact ⟨_, List.getElem_mem hlt, by simpa using h⟩))
        clear h2 hc
        generalize ls[k].length = n at *
        by_cases hn : n ≤ 20
        · have hn2 : ¬ (20 : Int) < (n : Int) := by omega
          have HK2 := Lib.hid (HKK.out hn)
          go_wp2
          go_roundw
          case rel => first | exact ⟨k + 1, by omega, by go_num, rfl, HK2⟩ | exact ⟨k + 1, by omega, by go_num, trivial, HK2⟩
          case measure => simp [RowKit.intOf]; omega
        · have hn2 : (20 : Int) < (n : Int) := by omega
          have HN2 := Lib.hid (HNN.out hn)
          go_wp2
          go_ret
          exact ⟨congrArg (fun t => Ending.returned (.bool t)) (HLN.out.trans HN2.out).symm, rfl⟩
      · have hkl : k = ls.length := by omega
        subst hkl
        have HT := Lib.hid (show (ls.all fun l => decide (l.length ≤ 20)) = true from by
          rw [List.all_eq_true]
          intro l hl
          obtain ⟨i, hi, rfl⟩ := List.getElem_of_mem hl
          exact decide_eq_true (HK.out i hi hi))
        go_wp2
        go_ret
        exact ⟨congrArg (fun t => Ending.returned (.bool t)) (HLN.out.trans HT.out).symm, rfl⟩
  · have hg : most < (ls.length : Int) := by omega
    have HLN := Lib.hid (show fewB ls most = false by unfold fewB; rw [decide_eq_false hlen]; rfl)
    go_enter Try.func11, Try.ntmps11
    go_wp2
    go_ret
    exact ⟨congrArg (fun t => Ending.returned (.bool t)) HLN.out.symm, rfl⟩
/-- How many sectors below k are mapped. -/
def cntS (L : List (Int × Int)) (k : Int) : Int := ((L.filter fun x => decide (x.1 < k)).length : Int)
/-- How many mapped pages lie in blocks below k. -/
def cntL (p : Nat) (L : List (Int × Int)) (k : Int) : Int := ((L.filter fun x => decide (x.2 / (p : Int) < k)).length : Int)
theorem cntS_step {L : List (Int × Int)} (hs : Nd L) (k : Int) : cntS L (k + 1) = cntS L k + (if (look L k).isSome = true then 1 else 0) := by
  unfold cntS
  induction L with
  | nil => rfl
  | cons x r ih =>
    have ih := ih (List.pairwise_cons.1 hs).2
    have h1 := (List.pairwise_cons.1 hs).1
    rw [List.filter_cons, List.filter_cons, look_cons]
    by_cases e : x.1 = k
    · have hn : look r k = none := look_none.2 fun y hy => by have := h1 y hy; omega
      rw [hn] at ih
      have a1 : x.1 < k + 1 := by omega
      have a2 : ¬ x.1 < k := by omega
      simp only [decide_eq_true a1, decide_eq_false a2, if_true, Bool.false_eq_true, if_false, List.length_cons, if_pos e, Option.isSome_some] at ih ⊢
      simp at ih
      omega
    · by_cases hl : x.1 < k
      · have a1 : x.1 < k + 1 := by omega
        simp only [decide_eq_true a1, decide_eq_true hl, if_true, List.length_cons, if_neg e] at ih ⊢
        omega
      · have a1 : ¬ x.1 < k + 1 := by omega
        simp only [decide_eq_false a1, decide_eq_false hl, Bool.false_eq_true, if_false, if_neg e] at ih ⊢
        omega
theorem cntS_zero {s b p : Nat} {L : List (Int × Int)} (h : Fits s b p L) : cntS L 0 = 0 := by
  unfold cntS
  have : L.filter (fun x => decide (x.1 < 0)) = [] := by
    rw [List.filter_eq_nil_iff]
    intro x hx
    have := h.rng x hx
    simp; omega
  rw [this]; rfl
theorem cntS_all {s b p : Nat} {L : List (Int × Int)} (h : Fits s b p L) : cntS L s = L.length := by
  unfold cntS
  have : L.filter (fun x => decide (x.1 < (s : Int))) = L := by
    rw [List.filter_eq_self]
    intro x hx
    have := h.rng x hx
    simp; omega
  rw [this]
theorem cntS_le (L : List (Int × Int)) (k : Int) : 0 ≤ cntS L k ∧ cntS L k ≤ L.length := by
  unfold cntS
  have := List.length_filter_le (fun x : Int × Int => decide (x.1 < k)) L
  omega
theorem cntL_step (p : Nat) (L : List (Int × Int)) (k : Int) : cntL p L (k + 1) = cntL p L k + cntB p L k := by
  unfold cntL cntB
  induction L with
  | nil => rfl
  | cons x r ih =>
    rw [List.filter_cons, List.filter_cons, List.filter_cons]
    by_cases e : x.2 / (p : Int) = k
    · have a1 : x.2 / (p : Int) < k + 1 := by omega
      have a2 : ¬ x.2 / (p : Int) < k := by omega
      simp only [decide_eq_true a1, decide_eq_false a2, decide_eq_true e, if_true, Bool.false_eq_true, if_false, List.length_cons] at ih ⊢
      omega
    · by_cases hl : x.2 / (p : Int) < k
      · have a1 : x.2 / (p : Int) < k + 1 := by omega
        simp only [decide_eq_true a1, decide_eq_true hl, decide_eq_false e, if_true, Bool.false_eq_true, if_false, List.length_cons] at ih ⊢
        omega
      · have a1 : ¬ x.2 / (p : Int) < k + 1 := by omega
        simp only [decide_eq_false a1, decide_eq_false hl, decide_eq_false e, Bool.false_eq_true, if_false] at ih ⊢
        omega
theorem cntL_zero {s b p : Nat} {L : List (Int × Int)} (h : Fits s b p L) : cntL p L 0 = 0 := by
  unfold cntL
  have : L.filter (fun x => decide (x.2 / (p : Int) < 0)) = [] := by
    rw [List.filter_eq_nil_iff]
    intro x hx
    have := h.rng x hx
    have := Int.ediv_nonneg this.2.2.1 (show (0 : Int) ≤ p by omega)
    simp; omega
  rw [this]; rfl
theorem cntL_all {s b p : Nat} {L : List (Int × Int)} (h : Fits s b p L) : cntL p L b = L.length := by
  unfold cntL
  have : L.filter (fun x => decide (x.2 / (p : Int) < (b : Int))) = L := by
    rw [List.filter_eq_self]
    intro x hx
    have := h.rng x hx
    obtain ⟨k, e, hk⟩ := h.blk ⟨this.2.2.1, this.2.2.2⟩
    simp; omega
  rw [this]
theorem cntL_le (p : Nat) (L : List (Int × Int)) (k : Int) : 0 ≤ cntL p L k ∧ cntL p L k ≤ L.length := by
  unfold cntL
  have := List.length_filter_le (fun x : Int × Int => decide (x.2 / (p : Int) < k)) L
  omega
theorem valid_at {b p : Nat} {L : List (Int × Int)} {k : Nat} (h : k < b) : valid b p L (k : Int) = cntB p L k := if_pos (by omega)
end Go.Proofs.Yteiemegkdnjpgaa
