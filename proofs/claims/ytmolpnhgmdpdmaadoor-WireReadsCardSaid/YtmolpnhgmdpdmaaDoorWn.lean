/- The reference's Put and Pad once more: that their bytes lie in new memory. Conditions stand in each theorem. -/
import Derived.Test.YtmolpnhgmdpdmaaDoorBa
import Derived.Test.YtmolpnhgmdpdmaaDoorGb
namespace Go.Proofs.YtmolpnhgmdpdmaaDoor
open Go.RowKit
set_option linter.unusedVariables false
set_option maxHeartbeats 1000000

/-- Bytes in new memory, and an error. -/
def BytNew (w : World) (l : List UInt8) (k : Int) (e : Ending) (w' : World) : Prop := ∃ v, e = .returned (.tuple #[v, .int .i64 k]) ∧ Byt w' v l ∧ (∀ b, v.ownBlock = some b → w.heap.size ≤ b) ∧ Below w.heap.size w w'
theorem new_none (n : Nat) : ∀ b, (Value.slice none 0 0).ownBlock = some b → n ≤ b := fun b hb => by simp [Value.ownBlock] at hb
theorem ownb_ge {w : World} {base : Nat} {v : Value} {l : List UInt8} (h : OwnB w base v l) : ∀ b, v.ownBlock = some b → base ≤ b := by
  obtain ⟨g, cap, rfl, -, hb, -⟩ := h
  intro b e
  have : g = b := by simpa [Value.ownBlock] using e
  omega
theorem refPut_new (v n : Int) (w : World) (hv : 0 ≤ v) (hv1 : v ≤ 18446744073709551615) : Calls Tryd.prog 12 #[.int .u64 v, .int .i64 n] w (BytNew w (putL v n) (putE v n)) := by
  by_cases h : n < 1 ∨ 8 < n
  · have HP := Lib.hid (put_size (v := v) h)
    clear hv1
    rcases h with h | h
    · go_enter Tryd.func12, Tryd.ntmps12
      go_wp2
      go_ret2
      exact ⟨_, by rw [HP.out.2]; rfl, by rw [HP.out.1]; exact Byt.none _, new_none _, Below.refl _ _⟩
    · have h1 : 1 ≤ n := by omega
      go_enter Tryd.func12, Tryd.ntmps12
      go_wp2
      go_ret2
      exact ⟨_, by rw [HP.out.2]; rfl, by rw [HP.out.1]; exact Byt.none _, new_none _, Below.refl _ _⟩
  · obtain ⟨N, rfl⟩ := Int.eq_ofNat_of_zero_le (show 0 ≤ n by omega)
    obtain ⟨X, rfl⟩ := Int.eq_ofNat_of_zero_le hv
    have h0 : 1 ≤ (N : Int) := by omega
    have h1 : (N : Int) ≤ 8 := by omega
    have e8 : (8 * (N : Int)).toNat = 8 * N := by omega
    refine refPut_row X N w (by omega) (by omega) (by omega) _ (fun hq v w' ho hb => ?_) (fun hq w' hb => ?_)
    · have := put_ok (v := X) h0 h1 (by rw [e8]; have := onesZ_lt X N; omega)
      exact ⟨v, by rw [this.2], by rw [this.1]; exact Byt.of_own ho, own_row_ge ho, hb⟩
    · have := put_range (v := X) h0 h1 (by rw [e8]; exact (onesZ_lt X N).2 hq)
      exact ⟨_, by rw [this.2], by rw [this.1]; exact Byt.none _, new_none _, hb⟩
set_option maxRecDepth 100000 in
theorem refPad_okN (s : ByteArray) (n : Nat) (w : World) (hp : plainL s.data.toList = true) (h1 : s.size ≤ n) (h2 : n ≤ 1048576) :
    Calls Tryd.prog 22 #[.string s, .int .i64 (n : Int)] w (BytNew w (s.data.toList ++ List.replicate (n - s.size) 32) 0) := by
  obtain ⟨cap1, hge1, hcv1⟩ := bytes_of s w
  obtain ⟨W1, hW1⟩ : ∃ W1, W1 = (w.alloc (.cells (bytesRow s cap1) 5 ((bytesRow s cap1).size, (bytesRow s cap1).size + 1))).drew := ⟨_, rfl⟩
  have HO1 := Lib.hid (show OwnB W1 w.heap.size (.slice (some ⟨w.heap.size, 0, none⟩) s.size cap1) s.data.toList by rw [hW1]; exact ownb_string w s cap1 _ hge1 (Nat.le_refl _))
  have HB1 := Lib.hid (show Below w.heap.size w W1 by rw [hW1]; exact ((Below.refl _ _).alloc (Nat.le_refl _) _).drew)
  rw [← hW1] at hcv1
  clear hW1
  obtain ⟨cap2, hge2, hcv2⟩ := bytes_of s W1
  obtain ⟨W2, hW2⟩ : ∃ W2, W2 = (W1.alloc (.cells (bytesRow s cap2) 5 ((bytesRow s cap2).size, (bytesRow s cap2).size + 1))).drew := ⟨_, rfl⟩
  have HO2 := Lib.hid (show OwnB W2 w.heap.size (.slice (some ⟨W1.heap.size, 0, none⟩) s.size cap2) s.data.toList by rw [hW2]; exact ownb_string W1 s cap2 _ hge2 HB1.out.size)
  have HB2 := Lib.hid (show Below w.heap.size w W2 by rw [hW2]; exact (HB1.out.alloc HB1.out.size _).drew)
  rw [← hW2] at hcv2
  clear hW2
  have Hp := Lib.hid hp; clear hp
  have d0 : decide ((n : Int) < 0) = false := by simp
  have d1 : decide (n < s.size) = false := by simp; omega
  have d2 : decide (1048576 < (n : Int)) = false := by simp; omega
  go_enter Tryd.func22, Tryd.ntmps22
  go_wp2_with fail
  refine (refPlain_any _ s.data.toList _ HO1.out.byt (by show s.size ≤ _; omega)).mono ?_
  rintro e w' ⟨rfl, rfl⟩
  rw [Hp.out]
  go_wp2
  clear d0 d1 d2 hcv1 hcv2 HO1 HB1
  go_loopw [6] (fun v wr => ∃ (k g cap : Nat), s.size + k ≤ n ∧ v = .slice (some ⟨g, 0, none⟩) (s.size + k) cap ∧ Hid (OwnB wr w.heap.size (.slice (some ⟨g, 0, none⟩) (s.size + k) cap) (s.data.toList ++ List.replicate k 32)) ∧ Hid (Below w.heap.size w wr)) (fun v _ => n - slLen v)
  case atStart => exact ⟨0, _, _, by omega, rfl, by simpa using HO2, HB2⟩
  case round =>
    clear HO2 HB2
    obtain ⟨k, g, cap, hk, rfl, HO, HB⟩ := hrel
    by_cases hlt : s.size + k < n
    · have hlit : Byt (wr.alloc (.cells #[.int .u8 32] 5)) (.slice (some ⟨wr.heap.size, 0, none⟩) 1 1) [32] := by
        refine ⟨_, 1, rfl, Nat.le_refl _, fun _ => ⟨wr.heap.size, 0, rfl, by simp, fun j hj => ?_⟩⟩
        simp at hj; subst hj; simp
      have hlenk : (s.data.toList ++ List.replicate k (32 : UInt8)).length = s.size + k := by rw [List.length_append, List.length_replicate]; rfl
      obtain ⟨v', w', hrun, hO', hB'⟩ := run_append_ownb _ w.heap.size _ _ _ [32] 23 (HO.out.alloc (.cells #[.int .u8 32] 5)) hlit (by simp; have := HB.out.size; omega) (by rw [hlenk]; simp; omega)
      have hO2 : OwnB w' w.heap.size v' (s.data.toList ++ List.replicate (k + 1) 32) := by
        rw [List.replicate_succ', ← List.append_assoc]; exact hO'
      obtain ⟨g', cap', hv', -⟩ := id hO2
      have hl2 : (s.data.toList ++ List.replicate (k + 1) (32 : UInt8)).length = s.size + (k + 1) := by rw [List.length_append, List.length_replicate]; rfl
      rw [hl2] at hv'
      subst hv'
      have HO' := Lib.hid hO2
      have HB' := Lib.hid ((HB.out.alloc HB.out.size _).trans hB')
      have Hrun := Lib.hid hrun
      clear hO' hB' hO2 hrun hlit hlenk hl2
      go_wp2_with (at_builtin; refine wpList_append_run rfl (.tmp 29) (.tmp 30) 23 23 rfl _ _ _ w' rfl rfl Hrun.out ?_)
      go_roundw
      case rel => exact ⟨k + 1, g', cap', by omega, rfl, HO', HB'⟩
      case measure => simp [slLen]; omega
    · have He := Lib.hid (show k = n - s.size by omega)
      go_wp2
      go_ret2
      exact ⟨_, rfl, by rw [← He.out]; exact HO.out.byt, ownb_ge HO.out, HB.out⟩

set_option maxRecDepth 100000 in
theorem refPad_new (s : ByteArray) (n : Int) (w : World) (hs : s.size ≤ 9223372036854775807) : Calls Tryd.prog 22 #[.string s, .int .i64 n] w (BytNew w (padL s.data.toList n) (padE s.data.toList n)) := by
  have hlen : s.data.toList.length = s.size := rfl
  by_cases h0 : n < 0
  · have hz : padL s.data.toList n = [] ∧ padE s.data.toList n = 2 := ⟨if_pos (.inl h0), if_pos (.inl h0)⟩
    have HZ := Lib.hid hz; clear hz hlen
    go_enter Tryd.func22, Tryd.ntmps22
    go_wp2
    go_ret2
    exact ⟨_, by rw [HZ.out.2]; rfl, by rw [HZ.out.1]; exact Byt.none _, new_none _, Below.refl _ _⟩
  · have h0' : 0 ≤ n := by omega
    obtain ⟨cap1, hge1, hcv1⟩ := bytes_of s w
    obtain ⟨W1, hW1⟩ : ∃ W1, W1 = (w.alloc (.cells (bytesRow s cap1) 5 ((bytesRow s cap1).size, (bytesRow s cap1).size + 1))).drew := ⟨_, rfl⟩
    have HO1 := Lib.hid (show OwnB W1 w.heap.size (.slice (some ⟨w.heap.size, 0, none⟩) s.size cap1) s.data.toList by rw [hW1]; exact ownb_string w s cap1 _ hge1 (Nat.le_refl _))
    have HB1 := Lib.hid (show Below w.heap.size w W1 by rw [hW1]; exact ((Below.refl _ _).alloc (Nat.le_refl _) _).drew)
    rw [← hW1] at hcv1
    clear hW1
    cases hp : plainL s.data.toList with
    | false =>
      have hz : padL s.data.toList n = [] ∧ padE s.data.toList n = 2 := ⟨if_pos (.inr hp), if_pos (.inr hp)⟩
      have HZ := Lib.hid hz; clear hz hlen h0
      have Hp := Lib.hid hp; clear hp
      go_enter Tryd.func22, Tryd.ntmps22
      go_wp2_with fail
      refine (refPlain_any _ s.data.toList _ HO1.out.byt hs).mono ?_
      rintro e w' ⟨rfl, rfl⟩
      rw [Hp.out]
      go_wp2
      go_ret2
      exact ⟨_, by rw [HZ.out.2]; rfl, by rw [HZ.out.1]; exact Byt.none _, new_none _, HB1.out⟩
    | true =>
      have hne : ¬ (n < 0 ∨ plainL s.data.toList = false) := by rw [hp]; simp; omega
      by_cases h1 : n < s.size ∨ 1048576 < n
      · have hz : padL s.data.toList n = [] ∧ padE s.data.toList n = 5 := ⟨by unfold padL; rw [if_neg hne, if_pos (by rw [hlen]; exact h1)], by unfold padE; rw [if_neg hne, if_pos (by rw [hlen]; exact h1)]⟩
        have HZ := Lib.hid hz; clear hz hlen h0 hne
        have Hp := Lib.hid hp; clear hp
        by_cases h2 : n < s.size
        · clear h1
          go_enter Tryd.func22, Tryd.ntmps22
          go_wp2_with fail
          refine (refPlain_any _ s.data.toList _ HO1.out.byt hs).mono ?_
          rintro e w' ⟨rfl, rfl⟩
          rw [Hp.out]
          go_wp2
          go_ret2
          exact ⟨_, by rw [HZ.out.2]; rfl, by rw [HZ.out.1]; exact Byt.none _, new_none _, HB1.out⟩
        · have h2' : (s.size : Int) ≤ n := by omega
          have h3 : 1048576 < n := by omega
          clear h1 h2
          go_enter Tryd.func22, Tryd.ntmps22
          go_wp2_with fail
          refine (refPlain_any _ s.data.toList _ HO1.out.byt hs).mono ?_
          rintro e w' ⟨rfl, rfl⟩
          rw [Hp.out]
          go_wp2
          go_ret2
          exact ⟨_, by rw [HZ.out.2]; rfl, by rw [HZ.out.1]; exact Byt.none _, new_none _, HB1.out⟩
      · obtain ⟨m, rfl⟩ := Int.eq_ofNat_of_zero_le h0'
        have hz : padL s.data.toList (m : Int) = s.data.toList ++ List.replicate (m - s.size) 32 ∧ padE s.data.toList (m : Int) = 0 := ⟨by unfold padL; rw [if_neg hne, if_neg (by rw [hlen]; exact h1), hlen, Int.toNat_natCast], by unfold padE; rw [if_neg hne, if_neg (by rw [hlen]; exact h1)]⟩
        rw [hz.1, hz.2]
        exact refPad_okN s m w hp (by omega) (by omega)
end Go.Proofs.YtmolpnhgmdpdmaaDoor
