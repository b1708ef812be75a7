/- The contracts of the reference's right and of areValid. Conditions stand in each theorem. -/
import Derived.Test.YtajlddgemkkcdaaB
namespace Go.Proofs.Ytajlddgemkkcdaa
open Go.RowKit
set_option linter.unusedVariables false
set_option maxHeartbeats 4000000
set_option maxRecDepth 100000
def allB (l : List (Int × Int)) : Bool := l.all vldB
theorem allB_yes {l : List (Int × Int)} (h : ∀ j (hj : j < l.length), vldB l[j] = true) : allB l = true := by
  unfold allB
  rw [List.all_eq_true]
  intro p hp
  obtain ⟨j, hj, rfl⟩ := List.mem_iff_getElem.1 hp
  exact h j hj
theorem allB_no {l : List (Int × Int)} {j : Nat} (hj : j < l.length) (h : vldB l[j] = false) : allB l = false := by
  unfold allB
  rw [List.all_eq_false]
  exact ⟨_, List.getElem_mem hj, by rw [h]; simp⟩
theorem vldB_iff (p : Int × Int) : vldB p = true ↔ 0 ≤ p.1 ∧ p.1 ≤ 4294967294 ∧ -1 ≤ p.2 ∧ p.2 ≤ 4294967294 := by
  unfold vldB wiB
  simp only [Bool.and_eq_true, decide_eq_true_eq]
  omega
theorem right_any (v : Value) (l : List (Int × Int)) (w : World) (hv : Ent w v l) (hl : l.length ≤ 1000000) :
    Calls Try.prog 26 #[v] w (Ret w (.bool (allB l))) := by
  obtain ⟨A, c, rfl, _, hr⟩ := hv
  have HR := Lib.hid hr
  have hli : (l.length : Int) ≤ 1000000 := by omega
  have HY : Hid ((∀ j (hj : j < l.length), vldB l[j] = true) → allB l = true) := Lib.hid allB_yes
  have HN : Hid (∀ j (hj : j < l.length), vldB l[j] = false → allB l = false) := Lib.hid (fun j hj h => allB_no hj h)
  generalize allB l = R at *
  clear hr
  go_enter Try.func26, Try.ntmps26
  go_wp2
  go_loop [3] (fun i => ∃ (k : Nat), k ≤ l.length ∧ i = .int .i64 k ∧ Hid (∀ j (hj : j < l.length), j < k → vldB l[j] = true)) (fun i => l.length - (RowKit.intOf i).toNat)
  case atStart => exact ⟨0, Nat.zero_le _, rfl, Lib.hid (fun j hj h => absurd h (by omega))⟩
  case round =>
    obtain ⟨k, hk, rfl, HJ⟩ := hrel
    by_cases hlt : k < l.length
    · obtain ⟨g1, o1, rfl, hg1, hc1⟩ := HR.out (by omega)
      obtain ⟨y1, y2⟩ := hc1 k hlt
      have HNX : Hid (vldB l[k] = true → ∀ j (hj : j < l.length), j < k + 1 → vldB l[j] = true) := Lib.hid (fun e j hj h => by
        rcases Nat.lt_or_ge j k with h1 | h1
        · exact HJ.out j hj h1
        · have : j = k := by omega
          subst this
          exact e)
      have HNO := Lib.hid (HN.out k hlt)
      have HV := Lib.hid (vldB_iff l[k])
      generalize l[k] = x at *
      obtain ⟨xa, xb⟩ := x
      dsimp only at y1 y2
      have hk0 : (0 : Int) ≤ (k : Int) := by omega
      have hk1 : (k : Int) < (l.length : Int) := by omega
      clear hc1
      by_cases a1 : xa < 0
      · have HF := Lib.hid (HNO.out (by have := HV.out; cases e : vldB (xa, xb); rfl; rw [this] at e; omega))
        go_wp2
        go_ret
        exact ⟨by rw [HF.out]; rfl, Gr.refl _⟩
      by_cases a2 : 4294967294 < xa
      · have HF := Lib.hid (HNO.out (by have := HV.out; cases e : vldB (xa, xb); rfl; rw [this] at e; omega))
        go_wp2
        go_ret
        exact ⟨by rw [HF.out]; rfl, Gr.refl _⟩
      by_cases a3 : xb < -1
      · have HF := Lib.hid (HNO.out (by have := HV.out; cases e : vldB (xa, xb); rfl; rw [this] at e; omega))
        go_wp2
        go_ret
        exact ⟨by rw [HF.out]; rfl, Gr.refl _⟩
      by_cases a4 : 4294967294 < xb
      · have HF := Lib.hid (HNO.out (by have := HV.out; cases e : vldB (xa, xb); rfl; rw [this] at e; omega))
        go_wp2
        go_ret
        exact ⟨by rw [HF.out]; rfl, Gr.refl _⟩
      · have HX := Lib.hid (HNX.out (HV.out.2 ⟨by show 0 ≤ xa; omega, by show xa ≤ 4294967294; omega, by show -1 ≤ xb; omega, by show xb ≤ 4294967294; omega⟩))
        go_wp2
        go_round
        case rel => exact ⟨k + 1, by omega, by go_num, HX⟩
        case measure => simp [RowKit.intOf]; omega
    · have HT := Lib.hid (HY.out (fun j hj => HJ.out j hj (by omega)))
      go_wp2
      go_ret
      exact ⟨by rw [HT.out]; rfl, Gr.refl _⟩
end Go.Proofs.Ytajlddgemkkcdaa
