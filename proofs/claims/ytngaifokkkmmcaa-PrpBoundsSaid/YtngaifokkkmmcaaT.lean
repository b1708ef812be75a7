/- The contracts of areAligned, aligned, areLists, and of the functions of the library that they call. Conditions stand in each theorem. -/
import Derived.Test.YtngaifokkkmmcaaS
namespace Go.Proofs.Ytngaifokkkmmcaa
open Go.RowKit
set_option linter.unusedVariables false
set_option maxHeartbeats 1000000
set_option maxRecDepth 100000
/-- A slice of numbers of 64 bits. -/
def U64s (w : World) (v : Value) (xs : List Nat) : Prop :=
  ∃ A c, v = .slice A xs.length c ∧ xs.length ≤ c ∧ (∀ x ∈ xs, x < 18446744073709551616) ∧ (0 < xs.length → ∃ g o, A = some ⟨g, o, none⟩ ∧ g < w.heap.size ∧ ∀ j (hj : j < xs.length), w.cell? ⟨g, o + j, none⟩ = some (.int .u64 (xs[j] : Int)))
section
variable {w w' : World} {v : Value} {xs : List Nat}
theorem U64s.keep (h : U64s w v xs) (hs : w.heap.size ≤ w'.heap.size) (hk : ∀ p : Addr, p.block < w.heap.size → w'.cell? p = w.cell? p) : U64s w' v xs := by
  obtain ⟨A, c, rfl, hc, hx, hr⟩ := h
  refine ⟨A, c, rfl, hc, hx, fun hn => ?_⟩
  obtain ⟨g, o, rfl, hg, hcell⟩ := hr hn
  exact ⟨g, o, rfl, by omega, fun j hj => (hk _ hg).trans (hcell j hj)⟩
theorem U64s.below (h : U64s w v xs) (hb : Below w.heap.size w w') : U64s w' v xs := h.keep hb.size fun _ hp => hb.cell hp
theorem U64s.nil (w : World) : U64s w (.slice none 0 0) [] := ⟨_, 0, rfl, by simp, by simp, fun h => absurd h (by simp)⟩
/-- Slices that read as numbers and lie in a block that is none of S. -/
theorem U64s.chg {S : Nat → Prop} (h : U64s w v xs) (hc : Chg S w w') (ho : 0 < xs.length → ∀ b, v.ownBlock = some b → ¬ S b) : U64s w' v xs := by
  obtain ⟨A, c, rfl, hl, hx, hr⟩ := h
  refine ⟨A, c, rfl, hl, hx, fun hn => ?_⟩
  obtain ⟨g, o, rfl, hg, hcell⟩ := hr hn
  exact ⟨g, o, rfl, Nat.lt_of_lt_of_le hg hc.size, fun j hj => (hc.cell (p := ⟨g, o + j, none⟩) hg (ho hn g rfl)).trans (hcell j hj)⟩
theorem U64s.lt (h : U64s w v xs) {j : Nat} (hj : j < xs.length) : xs[j] < 18446744073709551616 := by
  obtain ⟨A, c, rfl, hc, hx, hr⟩ := h
  exact hx _ (List.getElem_mem hj)
end
/-- All numbers are multiples of u. -/
def aln (u : Nat) (xs : List Nat) : Bool := xs.all fun x => x % u == 0
theorem aln_yes {u : Nat} {xs : List Nat} (h : ∀ j (hj : j < xs.length), xs[j] % u = 0) : aln u xs = true := List.all_eq_true.2 fun x hx => by
  obtain ⟨j, hj, rfl⟩ := List.getElem_of_mem hx
  simpa using h j hj
theorem aln_no {u : Nat} {xs : List Nat} {j : Nat} (hj : j < xs.length) (h : ¬ xs[j] % u = 0) : aln u xs = false := by
  cases ha : aln u xs
  · rfl
  · have := List.all_eq_true.1 ha _ (List.getElem_mem hj)
    simp at this
    exact absurd this h
theorem aln1_any (q u x : Nat) (w : World) (hq : w.cell? ⟨q, 0, none⟩ = some (.int .u64 (u : Int))) (hu : 0 < u) : Calls Try.prog 60 #[.int .u64 (x : Int), .pointer (some ⟨q, 0, none⟩)] w fun e w' => e = .returned (.bool (!decide (x % u = 0))) ∧ w = w' := by
  have h1 : ((x : Nat) : Int).tmod (u : Int) = ((x % u : Nat) : Int) := by rw [Int.tmod_eq_emod_of_nonneg (by omega)]; omega
  have h2 : ((u : Int) == 0) = false := by simp; omega
  have h2' : ¬ (u : Int) = 0 := by omega
  have h3 : (((x % u : Nat) : Int) != 0) = !decide (x % u = 0) := by
    by_cases h : x % u = 0
    · rw [h]; rfl
    · have : decide (x % u = 0) = false := decide_eq_false h
      rw [this]; simp; omega
  rw [← h3]
  clear hu h3
  generalize ((x % u : Nat) : Int) = r at *
  go_enter Try.func60, Try.ntmps60
  go_wp2
  go_ret
  exact ⟨rfl, rfl⟩
theorem index64_any (v : Value) (xs : List Nat) (q u : Nat) (w : World) (h : U64s w v xs) (hm : xs.length ≤ 1000000) (hq : w.cell? ⟨q, 0, none⟩ = some (.int .u64 (u : Int))) (hu : 0 < u) :
    Calls Try.prog 66 #[v, .func (.func 60) #[] #[.pointer (some ⟨q, 0, none⟩)]] w fun e w' => (∃ r : Int, e = .returned (.int .i64 r) ∧ decide (0 ≤ r) = !aln u xs) ∧ w = w' := by
  obtain ⟨A, c, rfl, hc, hx, hr⟩ := h
  have HR := Lib.hid hr
  have HY : Hid ((∀ j (hj : j < xs.length), xs[j] % u = 0) → aln u xs = true) := Lib.hid aln_yes
  have HN : Hid (∀ j (hj : j < xs.length), ¬ xs[j] % u = 0 → aln u xs = false) := Lib.hid (fun j hj h => aln_no hj h)
  have HC := Lib.hid (fun x => aln1_any q u x w hq hu)
  clear hr hx hq hu
  have hli : (xs.length : Int) ≤ 1000000 := by omega
  go_enter Try.func66, Try.ntmps66
  go_wp2
  go_loopw [8] (fun i wr => ∃ k : Nat, k ≤ xs.length ∧ i = .int .i64 k ∧ Hid (∀ j (hj : j < xs.length), j < k → xs[j] % u = 0) ∧ wr = w) (fun i _ => xs.length - (RowKit.intOf i).toNat)
  case atStart => exact ⟨0, Nat.zero_le _, rfl, Lib.hid (fun j hj h => absurd h (by omega)), rfl⟩
  case round =>
    obtain ⟨k, hk, rfl, HA, rfl⟩ := hrel
    by_cases hlt : k < xs.length
    · obtain ⟨g, o, rfl, hg, hcell⟩ := HR.out (by omega)
      have c1 := hcell k hlt
      have HNX : Hid (xs[k] % u = 0 → ∀ j (hj : j < xs.length), j < k + 1 → xs[j] % u = 0) := Lib.hid (fun e j hj h => by
        rcases Nat.lt_or_ge j k with h1 | h1
        · exact HA.out j hj h1
        · have : j = k := by omega
          subst this
          exact e)
      have HNO := Lib.hid (HN.out k hlt)
      have HL := Lib.hid (HC.out xs[k])
      obtain ⟨x, hx⟩ : ∃ x, x = xs[k] := ⟨_, rfl⟩
      rw [← hx] at c1 HNX HNO HL
      clear hx hcell
      by_cases hv : x % u = 0
      · rw [decide_eq_true hv] at HL
        have HX := Lib.hid (HNX.out hv)
        clear hv
        go_wp2_with ((go_at_call 60; with_reducible refine HL.out.mono ?_); rintro e w1 ⟨rfl, rfl⟩)
        go_roundw
        case rel => exact ⟨k + 1, by omega, by go_num, HX, trivial⟩
        case measure => simp [RowKit.intOf]; omega
      · rw [decide_eq_false hv] at HL
        have HF := Lib.hid (HNO.out hv)
        clear hv
        go_wp2_with ((go_at_call 60; with_reducible refine HL.out.mono ?_); rintro e w1 ⟨rfl, rfl⟩)
        go_ret
        exact ⟨⟨k, rfl, by rw [HF.out]; simp⟩, rfl⟩
    · go_wp2
      go_ret
      exact ⟨⟨-1, rfl, by rw [HY.out (fun j hj => HA.out j hj (by omega))]; rfl⟩, rfl⟩
theorem contains64_any (v : Value) (xs : List Nat) (q u : Nat) (w : World) (h : U64s w v xs) (hm : xs.length ≤ 1000000) (hq : w.cell? ⟨q, 0, none⟩ = some (.int .u64 (u : Int))) (hu : 0 < u) :
    Calls Try.prog 59 #[v, .func (.func 60) #[] #[.pointer (some ⟨q, 0, none⟩)]] w fun e w' => e = .returned (.bool (!aln u xs)) ∧ w = w' := by
  have HI := Lib.hid (index64_any v xs q u w h hm hq hu)
  clear h hm hq hu
  go_enter Try.func59, Try.ntmps59
  go_wp2_with ((go_at_call 66; with_reducible refine HI.out.mono ?_); rintro e w1 ⟨⟨r, rfl, hr⟩, rfl⟩; have HR := Lib.hid hr; clear hr)
  go_ret
  exact ⟨by rw [← HR.out]; rfl, rfl⟩
theorem areAligned_any (v : Value) (xs : List Nat) (u : Nat) (w : World) (h : U64s w v xs) (hm : xs.length ≤ 1000000) (hu : 0 < u) :
    Calls Try.prog 36 #[.int .u64 (u : Int), v] w fun e w' => e = .returned (.bool (aln u xs)) ∧ Below w.heap.size w w' := by
  have HI := Lib.hid (contains64_any v xs w.heap.size u (w.alloc (.cells #[.int .u64 (u : Int)] 23)) (h.below (below_alloc w _)) hm (box_cell w _ 23) hu)
  clear h hm hu
  cases hb : aln u xs
  all_goals
    rw [hb] at HI
    clear hb
    go_enter Try.func36, Try.ntmps36
    go_wp2_with ((go_at_call 59; with_reducible refine HI.out.mono ?_); rintro e w1 ⟨rfl, rfl⟩)
    go_ret
    exact ⟨rfl, below_alloc _ _⟩
theorem one64 (w : World) (x : Nat) (hx : x < 18446744073709551616) : U64s (w.alloc (.cells #[.int .u64 (x : Int)] 23)) (.slice (some ⟨w.heap.size, 0, none⟩) 1 1) [x] :=
  ⟨_, 1, rfl, Nat.le_refl _, by simpa using hx, fun _ => ⟨w.heap.size, 0, rfl, by simp, fun j hj => by
    have hj : j = 0 := by simpa using hj
    subst hj
    exact box_cell w _ 23⟩⟩
theorem aligned_yes (u x : Nat) (U : Int) (hU : U = (u : Int)) (w : World) (hu : 0 < u) (hx : x < 18446744073709551616) (ha : x % u = 0) :
    Calls Try.prog 64 #[.int .u64 U, .int .u64 (x : Int)] w fun e w' => e = .returned (.int .u64 (x : Int)) ∧ Below w.heap.size w w' := by
  have h1 : aln u [x] = true := by simp [aln, ha]
  have HA := areAligned_any _ [x] u _ (one64 w x hx) (by simp) hu
  rw [h1, ← hU] at HA
  have HA := Lib.hid HA
  have HR := Lib.hid (req1_y 150)
  clear h1 hu hx ha hU
  go_enter Try.func64, Try.ntmps64
  go_wp2_with (first
    | ((go_at_call 36; with_reducible refine HA.out.mono ?_); rintro e w1 ⟨rfl, hb⟩; have HB := Lib.hid hb; clear hb)
    | ((go_at_call 35; with_reducible refine (HR.out _).mono ?_); rintro e w' ⟨rfl, rfl⟩))
  go_ret
  exact ⟨rfl, ((below_alloc w _).trans (HB.out.mono (by simp))).alloc (by have := HB.out.size; simp at this; omega) _⟩
theorem aligned_no (u x : Nat) (U : Int) (hU : U = (u : Int)) (w : World) (hu : 0 < u) (hx : x < 18446744073709551616) (ha : ¬ x % u = 0) :
    Calls Try.prog 64 #[.int .u64 U, .int .u64 (x : Int)] w fun e w' => e = Pan 150 ∧ Below w.heap.size w w' := by
  have h1 : aln u [x] = false := by simp [aln, ha]
  have HA := areAligned_any _ [x] u _ (one64 w x hx) (by simp) hu
  rw [h1, ← hU] at HA
  have HA := Lib.hid HA
  have HR := Lib.hid (req1_n 150)
  clear h1 hu hx ha hU
  go_enter Try.func64, Try.ntmps64
  go_wp2_with (first
    | ((go_at_call 36; with_reducible refine HA.out.mono ?_); rintro e w1 ⟨rfl, hb⟩; have HB := Lib.hid hb; clear hb)
    | ((go_at_call 35; with_reducible refine (HR.out _).mono ?_); rintro e w' ⟨rfl, rfl⟩))
  exact ⟨rfl, rfl, ((below_alloc w _).trans (HB.out.mono (by simp))).alloc (by have := HB.out.size; simp at this; omega) _⟩
end Go.Proofs.Ytngaifokkkmmcaa
