/- The contract of wire.isText: it tells whether all bytes lie from 20 to 7E. No condition beyond the length of a string. -/
import Derived.Test.YtmolpnhgmdpdmaaDoorTc
namespace Go.Proofs.YtmolpnhgmdpdmaaDoor
open Go.RowKit
set_option linter.unusedVariables false
set_option maxHeartbeats 400000

def okB (b : UInt8) : Bool := decide (32 ≤ b.toNat) && decide (b.toNat ≤ 126)
def plainL (l : List UInt8) : Bool := l.all okB
theorem okB_yes {b : UInt8} (h : okB b = true) : 32 ≤ b.toNat ∧ b.toNat ≤ 126 := by simpa [okB] using h
theorem okB_no {b : UInt8} (h : okB b = false) : b.toNat < 32 ∨ 126 < b.toNat := by
  simp only [okB, Bool.and_eq_false_iff, decide_eq_false_iff_not] at h; omega
theorem plain_get {s : ByteArray} (h : plainL s.data.toList = true) (k : Nat) (hk : k < s.size) : okB s[k] = true := by
  unfold plainL at h
  rw [List.all_eq_true] at h
  exact h _ (by rw [show s[k] = s.data[k] from rfl]; simp)
theorem plain_of {s : ByteArray} (h : ∀ k (hk : k < s.size), okB s[k] = true) : plainL s.data.toList = true := by
  unfold plainL
  rw [List.all_eq_true]
  intro b hb
  obtain ⟨k, hk, rfl⟩ := List.mem_iff_getElem.1 hb
  simp at hk
  exact h k hk

theorem isText_any (s : ByteArray) (w : World) (hs : s.size ≤ 9223372036854775807) : Calls Tryd.prog 51 #[.string s] w fun e w' => e = .returned (.bool (plainL s.data.toList)) ∧ w = w' := by
  go_enter Tryd.func51, Tryd.ntmps51
  go_wp2
  go_loop [6] (fun i => ∃ k : Nat, k ≤ s.size ∧ i = .int .i64 k ∧ Hid (∀ j (hj : j < s.size), j < k → okB s[j] = true)) (fun i => s.size - (intOf i).toNat)
  case atStart => exact ⟨0, Nat.zero_le _, rfl, fun j _ h => absurd h (by omega)⟩
  case round =>
    obtain ⟨k, hk, rfl, hall⟩ := hrel
    by_cases hlt : k < s.size
    · cases hok : okB s[k] with
      | true =>
        have ⟨h1, h2⟩ := okB_yes hok
        have hall' : Hid (∀ j (hj : j < s.size), j < k + 1 → okB s[j] = true) := fun j hj hjk => by
          by_cases e : j = k
          · subst e; exact hok
          · exact hall.out j hj (by omega)
        clear hok hall
        go_wp2
        go_round
        case rel => exact ⟨k + 1, by omega, by go_num, hall'⟩
        case measure => simp [intOf]; omega
      | false =>
        have hno : plainL s.data.toList = false := by
          cases hp : plainL s.data.toList with
          | false => rfl
          | true => rw [plain_get hp k hlt] at hok; cases hok
        have Hno := Lib.hid hno; clear hno
        have h12 := okB_no hok
        clear hok hall
        rcases h12 with h1 | h1
        · go_wp2
          go_ret
          exact ⟨by rw [Hno.out]; rfl, rfl⟩
        · have h0 : 32 ≤ s[k].toNat := by omega
          go_wp2
          go_ret
          exact ⟨by rw [Hno.out]; rfl, rfl⟩
    · have hp := plain_of (s := s) fun j hj => hall.out j hj (by omega)
      have Hp := Lib.hid hp; clear hp hall
      go_wp2
      go_ret
      exact ⟨by rw [Hp.out]; rfl, rfl⟩
end Go.Proofs.YtmolpnhgmdpdmaaDoor
