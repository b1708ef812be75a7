/- The contracts of wire.Pad in every case and of bytes.Clone. Conditions stand in each theorem. -/
import Derived.Test.YtmolpnhgmdpdmaaDoorTg
import Derived.WalkSpells
namespace Go.Proofs.YtmolpnhgmdpdmaaDoor
open Go.RowKit
set_option linter.unusedVariables false
set_option maxHeartbeats 400000

theorem Pad_any (s : ByteArray) (n : Int) (w : World) (hs : s.size ≤ 9223372036854775807) : Calls Tryd.prog 21 #[.string s, .int .i64 n] w (BytErr w (padL s.data.toList n) (padE s.data.toList n)) := by
  have hlen : s.data.toList.length = s.size := rfl
  by_cases h0 : n < 0
  · have hz : padL s.data.toList n = [] ∧ padE s.data.toList n = 2 := ⟨if_pos (.inl h0), if_pos (.inl h0)⟩
    have HZ := Lib.hid hz; clear hz hlen
    go_enter Tryd.func21, Tryd.ntmps21
    go_wp2
    go_ret2
    exact ⟨_, by rw [HZ.out.2]; rfl, by rw [HZ.out.1]; exact Byt.none _, Below.refl _ _⟩
  · have h0' : 0 ≤ n := by omega
    cases hp : plainL s.data.toList with
    | false =>
      have hz : padL s.data.toList n = [] ∧ padE s.data.toList n = 2 := ⟨if_pos (.inr hp), if_pos (.inr hp)⟩
      have HZ := Lib.hid hz; clear hz hlen h0
      have Hp := Lib.hid hp; clear hp
      go_enter Tryd.func21, Tryd.ntmps21
      go_wp2_with fail
      refine (isText_any _ _ hs).mono ?_
      rintro e w' ⟨rfl, rfl⟩
      rw [Hp.out]
      go_wp2
      go_ret2
      exact ⟨_, by rw [HZ.out.2]; rfl, by rw [HZ.out.1]; exact Byt.none _, Below.refl _ _⟩
    | true =>
      have hne : ¬ (n < 0 ∨ plainL s.data.toList = false) := by rw [hp]; simp; omega
      by_cases h1 : n < s.size ∨ 1048576 < n
      · have hz : padL s.data.toList n = [] ∧ padE s.data.toList n = 5 := ⟨by unfold padL; rw [if_neg hne, if_pos (by rw [hlen]; exact h1)], by unfold padE; rw [if_neg hne, if_pos (by rw [hlen]; exact h1)]⟩
        have HZ := Lib.hid hz; clear hz hlen h0 hne
        have Hp := Lib.hid hp; clear hp
        by_cases h2 : n < s.size
        · clear h1
          go_enter Tryd.func21, Tryd.ntmps21
          go_wp2_with fail
          refine (isText_any _ _ hs).mono ?_
          rintro e w' ⟨rfl, rfl⟩
          rw [Hp.out]
          go_wp2
          go_ret2
          exact ⟨_, by rw [HZ.out.2]; rfl, by rw [HZ.out.1]; exact Byt.none _, Below.refl _ _⟩
        · have h2' : (s.size : Int) ≤ n := by omega
          have h3 : 1048576 < n := by omega
          clear h1 h2
          go_enter Tryd.func21, Tryd.ntmps21
          go_wp2_with fail
          refine (isText_any _ _ hs).mono ?_
          rintro e w' ⟨rfl, rfl⟩
          rw [Hp.out]
          go_wp2
          go_ret2
          exact ⟨_, by rw [HZ.out.2]; rfl, by rw [HZ.out.1]; exact Byt.none _, Below.refl _ _⟩
      · have hz : padL s.data.toList n = s.data.toList ++ List.replicate (n.toNat - s.size) 32 ∧ padE s.data.toList n = 0 := ⟨by unfold padL; rw [if_neg hne, if_neg (by rw [hlen]; exact h1), hlen], by unfold padE; rw [if_neg hne, if_neg (by rw [hlen]; exact h1)]⟩
        rw [hz.1, hz.2]
        exact Pad_ok s n w hp (by omega) (by omega)

theorem run_append_own_src (w : World) (base n : Nat) (v xv : Value) (l m : List UInt8) (ty : TypeId) (hown : w.ownsRow base 5 1 v n (bv l)) (hx : Byt w xv m) (hsz : n + m.length ≤ 1099511627776) (hbase : base ≤ w.heap.size) :
    ∃ v' w', (Builtin.append_ #[23, 23] ty #[v, xv]).run Tryd.prog w = .ok v' w' ∧ w'.ownsRow base 5 1 v' (n + m.length) (bv (l ++ m)) ∧ w.grownBy w' v.ownBlock ∧ (v'.ownBlock = v.ownBlock ∨ v'.ownBlock = some w.heap.size) := by
  obtain ⟨i0, hi0, hz0, hz1, hz2⟩ := info_parts u8_info
  obtain ⟨A, c, rfl, _, hr⟩ := hx
  rcases A with _ | a
  · have h0 : m.length = 0 := by
      rcases Nat.eq_zero_or_pos m.length with h | h
      · exact h
      · obtain ⟨_, _, h, _⟩ := hr h; cases h
    have hm : m = [] := List.eq_nil_of_length_eq_zero h0
    subst hm
    refine ⟨v, w, ?_, by simpa using hown, World.grownBy.refl _ _, .inl rfl⟩
    rcases hown.2 with ⟨rfl, rfl⟩ | ⟨g, cap, cur, rfl, _, _, hnc, _⟩
    · simp [Builtin.append_, run_underlying Tryd.underlying23, sizeOf, typeInfo, hi0, Builtin.lenOf, Builtin.firstCells]
    · simp [Builtin.append_, run_underlying Tryd.underlying23, sizeOf, typeInfo, hi0, Builtin.lenOf, Builtin.firstCells, hnc, storeCells]
  · have hnews : ∀ j u, (bv m)[j]? = some u → w.cell? (a.add j) = some u := by
      intro j u hu
      have hj : j < m.length := by
        rcases Nat.lt_or_ge j m.length with h | h
        · exact h
        · rw [List.getElem?_eq_none (by rw [bv_length]; exact h)] at hu; cases hu
      obtain ⟨g, o, e, _, hc⟩ := hr (by omega)
      cases e
      rw [bv_get hj] at hu
      rw [add_plain, hc j hj, hu]
    obtain ⟨v', w', hrun, h2, h3, _, h5⟩ := run_append_own_at (P := Tryd.prog) w base 23 ty 5 i0 (.int .u8 0) 1 1 Tryd.underlying23 hi0 hz0 hz1 hz2 rfl (by decide) v n (bv l) hown a m.length c (bv m) (by rw [bv_length]; omega) hnews (bv_one m) (by unfold maxLen; omega) (by omega) hbase
    exact ⟨v', w', hrun, by rw [bv_append]; exact h2, h3, h5⟩

set_option maxRecDepth 100000 in
theorem Clone_any (v : Value) (l : List UInt8) (w : World) (h : Byt w v l) (hl : l.length ≤ 1099511627776) :
    Calls Tryd.prog 56 #[v] w fun e w' => (∃ v', e = .returned v' ∧ w'.ownsRow w.heap.size 5 1 v' l.length (bv l)) ∧ Below w.heap.size w w' := by
  have hv := h
  obtain ⟨A, c, rfl, hc, hr⟩ := h
  rcases A with _ | a
  · have h0 : l.length = 0 := by
      rcases Nat.eq_zero_or_pos l.length with h | h
      · exact h
      · obtain ⟨_, _, h, _⟩ := hr h; cases h
    have hm : l = [] := List.eq_nil_of_length_eq_zero h0
    subst hm
    clear hr hc hv h0
    have heq := fun W => Lib.run_eql_slice_nil (P := Tryd.prog) W 23 5 none 0 c 0 0 Tryd.underlying23
    show Calls Tryd.prog 56 #[.slice none 0 c] w _
    go_enter Tryd.func56, Tryd.ntmps56
    go_wp2
    go_ret
    exact ⟨⟨_, rfl, World.ownsRow_nil _ _ _ _⟩, Below.refl _ _⟩
  · have heq := fun W => Lib.run_eql_slice_nil (P := Tryd.prog) W 23 5 (some a) l.length c 0 0 Tryd.underlying23
    have hv1 : Byt (w.alloc (.cells #[] 5)) (.slice (some a) l.length c) l := hv.below ((Below.refl _ _).alloc (Nat.le_refl _) _)
    obtain ⟨v', w', hrun, h2, h3, h4⟩ := run_append_own_src (w.alloc (.cells #[] 5)) w.heap.size 0 (.slice (some ⟨w.heap.size, 0, none⟩) 0 0) _ [] l 23 (World.ownsRow_made w #[] 0 (Nat.le_refl _) (by simp) rfl) hv1 (by omega) (by simp)
    have Hrun := Lib.hid hrun
    have H2 := Lib.hid h2
    have H3 := Lib.hid h3
    clear hrun h2 h3 h4 hv1 hv hr hc
    go_enter Tryd.func56, Tryd.ntmps56
    go_wp2_with (at_builtin; refine wpList_append_run rfl (.tmp 5) (.tmp 6) 23 23 rfl _ _ v' w' rfl rfl Hrun.out ?_)
    go_ret
    refine ⟨⟨v', rfl, by simpa using H2.out⟩, ?_⟩
    exact ((Below.refl _ _).alloc (Nat.le_refl _) _).grown H3.out (by simp) (by simp [Value.ownBlock])
end Go.Proofs.YtmolpnhgmdpdmaaDoor
