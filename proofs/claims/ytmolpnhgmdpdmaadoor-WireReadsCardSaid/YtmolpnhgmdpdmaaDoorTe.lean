/- The contracts of strings.TrimRight at one space, and of wire.Text. No condition beyond the length. -/
import Derived.Test.YtmolpnhgmdpdmaaDoorTd
namespace Go.Proofs.YtmolpnhgmdpdmaaDoor
open Go.RowKit
set_option linter.unusedVariables false
set_option maxHeartbeats 400000

/-- A text without the spaces at its end. -/
def trimL (l : List UInt8) : List UInt8 := (l.reverse.dropWhile (· == 32)).reverse
theorem trimL_snoc (l : List UInt8) : trimL (l ++ [32]) = trimL l := by simp [trimL]
theorem trimL_keep (l : List UInt8) (b : UInt8) (h : b ≠ 32) : trimL (l ++ [b]) = l ++ [b] := by simp [trimL, h]
def strLen : Value → Nat | .string b => b.size | _ => 0
theorem last_split (t : ByteArray) (h : 0 < t.size) : t.data.toList = (t.extract 0 (t.size - 1)).data.toList ++ [t[t.size - 1]] := by
  have e : (t.extract 0 (t.size - 1)).data.toList = t.data.toList.take (t.size - 1) := by
    simp [ByteArray.data_extract, List.dropLast_eq_take]
  have hl : t.size - 1 < t.data.toList.length := by simp; omega
  rw [e, show t[t.size - 1] = t.data.toList[t.size - 1] by simp; rfl, ← List.take_succ_eq_append_getElem hl, List.take_of_length_le (by simp; omega)]

theorem trimR_any (s : ByteArray) (w : World) (hs : s.size ≤ 9223372036854775807) : Calls Tryd.prog 68 #[.string s, .int .u8 32] w fun e w' => e = .returned (.string ⟨(trimL s.data.toList).toArray⟩) ∧ w = w' := by
  go_enter Tryd.func68, Tryd.ntmps68
  go_wp2
  go_loop [0] (fun v => ∃ t : ByteArray, v = .string t ∧ t.size ≤ 9223372036854775807 ∧ Hid (trimL t.data.toList = trimL s.data.toList)) (fun v => strLen v)
  case atStart => exact ⟨s, rfl, hs, rfl⟩
  case round =>
    obtain ⟨t, rfl, ht, Ht⟩ := hrel
    by_cases hlt : 0 < t.size
    · have Hsp := Lib.hid (last_split t hlt)
      cases he : ((t[t.size - 1].toNat : Int) == 32) with
      | true =>
        have H2 : Hid (trimL (t.extract 0 (t.size - 1)).data.toList = trimL s.data.toList) := by
          have e32 : t[t.size - 1] = 32 := by
            have := of_decide_eq_true he
            exact UInt8.toNat_inj.1 (by show t[t.size - 1].toNat = 32; omega)
          have h := Ht.out
          rw [Hsp.out, e32, trimL_snoc] at h
          exact h
        go_wp2
        go_round
        case rel => exact ⟨_, rfl, by simp; omega, H2⟩
        case measure => simp [strLen]; omega
      | false =>
        have H2 : Hid (trimL s.data.toList = t.data.toList) := by
          have hne : t[t.size - 1] ≠ 32 := fun e => by rw [e] at he; exact absurd he (by decide)
          have h := Ht.out
          rw [Hsp.out, trimL_keep _ _ hne, ← Hsp.out] at h
          exact h.symm
        go_wp2
        go_ret
        exact ⟨by rw [H2.out]; rfl, rfl⟩
    · have H2 : Hid (trimL s.data.toList = t.data.toList) := by
        have h := Ht.out
        have e0 : t.data.toList = [] := List.eq_nil_of_length_eq_zero (by rw [Array.length_toList]; show t.size = 0; omega)
        rw [e0] at h ⊢
        exact h.symm
      go_wp2
      go_ret
      exact ⟨by rw [H2.out]; rfl, rfl⟩
theorem toList_data (s : ByteArray) : s.toList = s.data.toList := by rw [ByteArray.toList_eq]
set_option maxRecDepth 100000 in
theorem trim_any (s : ByteArray) (w : World) (hs : s.size ≤ 9223372036854775807) : Calls Tryd.prog 54 #[.string s, .string ⟨#[32]⟩] w fun e w' => e = .returned (.string ⟨(trimL s.data.toList).toArray⟩) ∧ w = w' := by
  by_cases h0 : 0 < s.size
  · have h1 : ¬ s.toList = [] := by
      rw [toList_data]; intro e
      have := congrArg List.length e
      rw [Array.length_toList] at this
      exact absurd h0 (by show ¬ 0 < s.data.size; rw [this]; decide)
    have h2 : s.toList.isEmpty = false := by simpa using h1
    go_enter Tryd.func54, Tryd.ntmps54
    go_wp2_with fail
    refine (trimR_any s _ hs).mono ?_
    rintro e w' ⟨rfl, rfl⟩
    go_wp2
    go_ret
    exact ⟨rfl, rfl⟩
  · have e0 : s.data.toList = [] := List.eq_nil_of_length_eq_zero (by rw [Array.length_toList]; show s.size = 0; omega)
    have h1 : s.toList = [] := by rw [toList_data]; exact e0
    have H0 := Lib.hid e0; clear e0
    go_enter Tryd.func54, Tryd.ntmps54
    go_wp2
    go_ret
    refine ⟨?_, rfl⟩
    have : s = ⟨(trimL s.data.toList).toArray⟩ := by
      apply WideShapes.bytes_inj
      rw [H0.out]; rfl
    exact congrArg (fun z => Ending.returned (.string z)) this
def textL (l : List UInt8) : List UInt8 := if plainL l = true then trimL l else []
def textE (l : List UInt8) : Int := if plainL l = true then 0 else 2
theorem Text_any (v : Value) (l : List UInt8) (w : World) (h : Byt w v l) (hl : l.length ≤ 9223372036854775807) : Calls Tryd.prog 23 #[v] w fun e w' => e = .returned (.tuple #[.string ⟨(textL l).toArray⟩, .int .i64 (textE l)]) ∧ w = w' := by
  have r1 := run_string 23 9 5 Tryd.underlying23 Tryd.underlying5 Tryd.underlying9 h
  clear h
  cases hp : plainL l with
  | true =>
    have hz : textL l = trimL l ∧ textE l = 0 := ⟨if_pos hp, if_pos hp⟩
    have HZ := Lib.hid hz; clear hz
    have Hp := Lib.hid hp; clear hp
    go_enter Tryd.func23, Tryd.ntmps23
    go_wp2_with fail
    refine (isText_any ⟨l.toArray⟩ _ hl).mono ?_
    rintro e w' ⟨rfl, rfl⟩
    rw [show plainL (⟨l.toArray⟩ : ByteArray).data.toList = true from Hp.out]
    go_wp2_with fail
    refine (trim_any ⟨l.toArray⟩ _ hl).mono ?_
    rintro e w' ⟨rfl, rfl⟩
    go_wp2
    go_ret2
    exact ⟨by rw [HZ.out.1, HZ.out.2]; rfl, rfl⟩
  | false =>
    have hz : textL l = [] ∧ textE l = 2 := ⟨if_neg (by rw [hp]; decide), if_neg (by rw [hp]; decide)⟩
    have HZ := Lib.hid hz; clear hz
    have Hp := Lib.hid hp; clear hp
    go_enter Tryd.func23, Tryd.ntmps23
    go_wp2_with fail
    refine (isText_any ⟨l.toArray⟩ _ hl).mono ?_
    rintro e w' ⟨rfl, rfl⟩
    rw [show plainL (⟨l.toArray⟩ : ByteArray).data.toList = false from Hp.out]
    go_wp2
    go_ret2
    exact ⟨by rw [HZ.out.1, HZ.out.2]; rfl, rfl⟩
end Go.Proofs.YtmolpnhgmdpdmaaDoor
