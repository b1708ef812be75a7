/- WireLimits: for every number, size and value the law returns true, and its arguments read as before; the row, and the card that ties the two tables of unicode/utf8 to the program's text. No condition. -/
import Derived.Test.YtmolpnhgmdpdmaaDoorLf
import Derived.Test.YtmolpnhgmdpdmaaDoorHa
import Derived.Test.YtmolpnhgmdpdmaaDoorTie
import Derived.Test.YtmolpnhgmdpdmaaDoorCards
import Derived.LaidMore
import Derived.Lay
import Derived.SevenTiedAt
import Derived.Stop.Joined
namespace Go.Proofs.YtmolpnhgmdpdmaaDoor.WireLimits
open Go.ChangeShapes Go.WideShapes Go.ChangeAt Go.RowKit
set_option linter.unusedVariables false
set_option maxHeartbeats 1000000

set_option maxRecDepth 100000 in
theorem main (m : Nat) (n V : Int) (hm : m ≤ 20) (w : World) : Calls Tryd.prog 10 #[.int .i64 (m : Int), .int .i64 n, .int .u64 V] w fun e w' => e = .returned (.bool true) ∧ Below w.heap.size w w' := by
  have hz1 : Calls Tryd.prog 37 #[.pointer (some ⟨w.heap.size, 0, none⟩), .int .i64 (1048576 - (m : Int))] (w.alloc (.cells #[.slice none 0 0] 52)) (WPost (w.alloc (.cells #[.slice none 0 0] 52)) w.heap.size (.slice none 0 0) ([] ++ List.replicate (1048576 - m) 0) 0) := by
    rw [show (1048576 - (m : Int)) = ((1048576 - m : Nat) : Int) by omega]
    exact Zero_ok w.heap.size (1048576 - m) _ [] _ (wr_new w) (by simp)
  have Hz1 := Lib.hid hz1; clear hz1
  go_enter Tryd.func10, Tryd.ntmps10
  go_wp2_with fail
  refine Hz1.out.mono ?_
  rintro e w1 ⟨rfl, v1, hw1, hc1, ha1⟩
  have hv1 : ∀ b, v1.ownBlock = some b → w.heap.size ≤ b := fun b hb => by
    rcases ha1 with e | ⟨b', e, hb'⟩
    · rw [e] at hb; simp [Value.ownBlock] at hb
    · rw [e] at hb; injection hb with hb; subst hb; simp at hb'; omega
  have hb1 : Below w.heap.size w w1 := (alloc_below w _).trans (hc1.below (by simp) (fun i hi => by rcases hi with rfl | hi; exact Nat.le_refl _; simp [Value.ownBlock] at hi))
  have Hv1 := Lib.hid hv1; have Hb1 := Lib.hid hb1; have HW1 := Lib.hid hw1
  clear hv1 hb1 hw1 hc1 ha1 Hz1
  go_wp2_with fail
  refine (Zero_ok w.heap.size m v1 _ _ HW1.out (by simp; omega)).mono ?_
  rintro e w2 ⟨rfl, v2, hw2, hc2, -⟩
  have Hb := Lib.hid (show Below w.heap.size w w2 from Hb1.out.trans (hc2.below Hb1.out.size (fun i hi => by rcases hi with rfl | hi; exact Nat.le_refl _; exact Hv1.out i hi)))
  obtain ⟨L, hL⟩ : ∃ L, L = [] ++ List.replicate (1048576 - m) (0 : UInt8) ++ List.replicate m 0 := ⟨_, rfl⟩
  rw [← hL] at hw2
  have Hl := Lib.hid (show L.length = 1048576 by rw [hL]; simp; omega)
  have HW := Lib.hid hw2
  clear hL hw2 hc2 Hv1 Hb1 HW1
  go_wp2_with fail
  refine (Zero_full w.heap.size 1 v2 L _ HW.out (by decide) (by rw [Hl.out]; decide)).mono ?_
  rintro e w3 ⟨rfl, rfl⟩
  have hBl : Byt (w2.alloc (.cells #[.int .u8 1] 5)) (.slice (some ⟨w2.heap.size, 0, none⟩) 1 1) [1] := byt_lit w2 [1]
  have HBl := Lib.hid hBl; clear hBl
  go_wp2_with fail
  refine (AddBytes_full w.heap.size v2 _ L [1] _ (HW.out.below (alloc_below w2 _)) HBl.out (by rw [Hl.out]; decide) (by decide)).mono ?_
  rintro e w3 ⟨rfl, rfl⟩
  replace HW := Lib.hid (HW.out.below (alloc_below w2 (.cells #[.int .u8 1] 5))); replace Hb := Lib.hid (Hb.out.alloc Hb.out.size (.cells #[.int .u8 1] 5)); clear HBl
  go_wp2_with fail
  refine (AddText_long w.heap.size v2 L _ HW.out Hl.out).mono ?_
  rintro e w3 ⟨rfl, hb⟩
  replace HW := Lib.hid (HW.out.below hb)
  replace Hb := Lib.hid (Hb.out.trans (hb.mono Hb.out.size)); clear hb
  have hke : chk (1048576 - (L.length : Int)) [(0, 1)] = 5 := by rw [Hl.out]; decide +kernel
  have hae := Add_err w.heap.size v2 0 1 L w3 HW.out (by rw [hke]; decide)
  rw [hke] at hae
  have Hae := Lib.hid hae; clear hke hae
  go_wp2_with fail
  refine (Hae.out).mono ?_
  rintro e w4 ⟨rfl, hb⟩
  replace HW := Lib.hid (HW.out.below hb)
  replace Hb := Lib.hid (Hb.out.trans (hb.mono Hb.out.size)); clear hb
  clear Hae
  have hlz := Len_any w.heap.size v2 L w4 HW.out
  rw [Hl.out] at hlz
  have Hlz := Lib.hid hlz; clear hlz
  go_wp2_with fail
  refine (show Calls Tryd.prog 28 #[.pointer (some ⟨w.heap.size, 0, none⟩)] w4 (fun e w' => e = .returned (.int .i64 1048576) ∧ w4 = w') from Hlz.out).mono ?_
  rintro e w5 ⟨rfl, rfl⟩
  clear Hlz HW Hl
  go_wp2_with fail
  refine (Add_nil V n _).mono ?_
  rintro e w5 ⟨rfl, hb⟩
  replace Hb := Lib.hid (Hb.out.trans (hb.mono Hb.out.size)); clear hb
  go_wp2_with fail
  refine (AddAll_nil _ _).mono ?_
  rintro e w6 ⟨rfl, rfl⟩
  go_wp2_with fail
  refine (AddBytes_nil _ _).mono ?_
  rintro e w6 ⟨rfl, rfl⟩
  go_wp2_with fail
  refine (AddText_nil _ _ _).mono ?_
  rintro e w6 ⟨rfl, rfl⟩
  go_wp2_with fail
  refine (Zero_nil _ _).mono ?_
  rintro e w6 ⟨rfl, rfl⟩
  go_wp2_with fail
  refine (Len_nil _).mono ?_
  rintro e w6 ⟨rfl, rfl⟩
  go_wp2_with fail
  refine (Bytes_nil _).mono ?_
  rintro e w6 ⟨rfl, rfl⟩
  go_wp2_with fail
  refine (Next_nil _).mono ?_
  rintro e w6 ⟨rfl, hb⟩
  replace Hb := Lib.hid (Hb.out.trans (hb.mono Hb.out.size)); clear hb
  go_wp2_with fail
  refine (All_nil _).mono ?_
  rintro e w7 ⟨rfl, hb⟩
  replace Hb := Lib.hid (Hb.out.trans (hb.mono Hb.out.size)); clear hb
  go_wp2_with fail
  refine (Take_nil _).mono ?_
  rintro e w8 ⟨⟨vt, rfl, hB⟩, hb⟩
  replace Hb := Lib.hid (Hb.out.trans (hb.mono Hb.out.size)); clear hb
  obtain ⟨At, ct, rfl, -, -⟩ := hB
  go_wp2_with fail
  refine (Zeros_nil _).mono ?_
  rintro e w9 ⟨rfl, hb⟩
  replace Hb := Lib.hid (Hb.out.trans (hb.mono Hb.out.size)); clear hb
  go_wp2_with fail
  refine (Skip_nil _).mono ?_
  rintro e w10 ⟨rfl, hb⟩
  replace Hb := Lib.hid (Hb.out.trans (hb.mono Hb.out.size)); clear hb
  go_wp2_with fail
  refine (Left_nil _).mono ?_
  rintro e w11 ⟨rfl, hb⟩
  replace Hb := Lib.hid (Hb.out.trans (hb.mono Hb.out.size)); clear hb
  go_wp2_with fail
  refine (At_nil _).mono ?_
  rintro e w12 ⟨rfl, hb⟩
  replace Hb := Lib.hid (Hb.out.trans (hb.mono Hb.out.size)); clear hb
  go_wp2_with fail
  refine (known_any _).mono ?_
  rintro e w13 ⟨rfl, hb⟩
  replace Hb := Lib.hid (Hb.out.trans (hb.mono Hb.out.size)); clear hb
  go_wp2
  go_ret
  exact ⟨rfl, Hb.out⟩
set_option maxRecDepth 100000 in
theorem walk (a n V : Int) (w : World) : Calls Tryd.prog 10 #[.int .i64 a, .int .i64 n, .int .u64 V] w fun e w' => e = .returned (.bool true) ∧ Below w.heap.size w w' := by
  by_cases h0 : a < 0
  · go_enter Tryd.func10, Tryd.ntmps10
    go_wp2_with fail
    refine (known_any _).mono ?_
    rintro e w9 ⟨rfl, hb9⟩
    have Hb9 := Lib.hid hb9; clear hb9
    go_wp2
    go_ret
    exact ⟨rfl, Hb9.out⟩
  · by_cases h1 : 20 < a
    · have h0' : 0 ≤ a := by omega
      clear h0
      go_enter Tryd.func10, Tryd.ntmps10
      go_wp2_with fail
      refine (known_any _).mono ?_
      rintro e w9 ⟨rfl, hb9⟩
      have Hb9 := Lib.hid hb9; clear hb9
      go_wp2
      go_ret
      exact ⟨rfl, Hb9.out⟩
    · obtain ⟨m, rfl⟩ := Int.eq_ofNat_of_zero_le (show 0 ≤ a by omega)
      exact main m n V (by omega) w

set_option maxRecDepth 100000 in
theorem lifted (os : Os) (started : os.Started) (H : Type) (enc : TypeId × Value → H) :
    ReturnsInHanded {} Tryd.checked os 10 .any (fun w args => (Rows.wireLimitsSpec.pre enc Tryd.prog Tryd.f10 Rows.wireLimitsRow.domain false w args ∧ laidMetH Tryd.prog Rows.wireLimitsRow.laid w) ∧ sizedMet enc Tryd.prog Tryd.f10 (OpenSpec.ofChange Rows.wireLimitsSpec) false w args)
      (Rows.wireLimitsSpec.post enc Tryd.prog Tryd.f10 false true false false) := by
  refine returnsInHanded_of_change_and (C := Tryd.checked) (X := fun w _ => laidMetH Tryd.prog Rows.wireLimitsRow.laid w) (fun _ _ _ hh h => h.of_heap hh) own started (by kernel_rfl) Tryd.func10
    (ChangeSpec.witness_shaped (enc := enc) (C := Tryd.checked) (os := os) (X := fun w _ => laidMetH Tryd.prog Rows.wireLimitsRow.laid w) false (World.laidAll Tryd.prog os Rows.wireLimitsRow.laid) #[.int .i64 0, .int .i64 0, .int .u64 0] 8 (World.laidAll_os _ _ _)
      (World.shaped_of_ZipB (by kernel_rfl) (by kernel_rfl)) (by kernel_rfl) (by kernel_rfl) (by kernel_rfl)
      (by rw [MakeChecks.laidMetH_plain _ _ _ (by kernel_rfl)]; exact laidMet_laidAll _ (by kernel_rfl) (by kernel_rfl))) ?_
  intro W base args ds gs before hval0 hW _ hsz _ _
  have hval : ∀ (j : Nat) t v, Tryd.f10.params[j]? = some t → args[j]? = some v → Value.okWide Tryd.prog W .any base t v := hval0
  have hW' := hW
  have hlt := hW.lt
  obtain ⟨p, q, hA0, hV, rfl, _, _⟩ := hW
  have hA : DataW.TrodAll enc Tryd.prog W 0 (fun _ => true) true Tryd.f10.params.toList args.toList ds p := hA0
  have hAk := hA
  rw [Tryd.params10] at hA hval
  obtain ⟨v0, vs0, d0, ds0, p0, q0, hargs, rfl, rfl, h0, r0⟩ := trodAll_cons hA
  obtain ⟨v1, vs1, d1, ds1, p1, q1, rfl, rfl, rfl, h1, r1⟩ := trodAll_cons r0
  obtain ⟨v2, vs2, d2, ds2, p2, q2, rfl, rfl, rfl, h2, r2⟩ := trodAll_cons r1
  obtain ⟨rfl, rfl, rfl⟩ := trodAll_nil r2
  obtain rfl : args = #[v0, v1, v2] := by cases args; simp_all
  obtain ⟨rfl, rfl⟩ := trodVars_none hV
  obtain ⟨a0, rfl, rfl, rfl, w0⟩ := open_int Tryd.underlying3 (hval 0 3 v0 rfl rfl) h0
  obtain ⟨a1, rfl, rfl, rfl, w1⟩ := open_int Tryd.underlying3 (hval 1 3 v1 rfl rfl) h1
  obtain ⟨a2, rfl, rfl, rfl, w2⟩ := open_int Tryd.underlying22 (hval 2 22 v2 rfl rfl) h2
  refine (walk a0 a1 a2 W).mono fun e W' ⟨he, hb⟩ => ?_
  subst he
  exact ⟨_, rfl, _, _, _, [], _, [], hW', trodAll_mk1 (shut_bool Tryd.underlying4 _), args_back hb (by kernel_rfl) hAk (fun x hx => hlt x (List.mem_append_left _ hx)), rfl, hb.frame _, fun h => by cases h⟩

theorem holds : Rows.WireLimitsSaid :=
  OpenClaim.holds_of_wide 10 Tryd.f10 rfl rfl rfl rfl rfl rfl rfl ⟨rfl, rfl, rfl, rfl, rfl⟩ rfl rfl rfl rfl rfl (by kernel_rfl) Tryd.func10 (by kernel_rfl)
    (of_decide_eq_true (by kernel_rfl)) (by unfold Func.isWrapper; first | (rw [if_pos (by decide +kernel)]; kernel_rfl) | (rw [if_neg (by decide +kernel)]; exact ⟨rfl, rfl⟩))
    (fun os started H enc _ => lifted os started H enc)
theorem card_holds : Rows.WireLimitsCardSaid :=
  Claim7.holds_tied_plain_at .later [] [.data, .pinned] true Rows.wireLimitsCard.stood.harness false holds (fun _ h => by cases h) (by kernel_rfl) (fun _ h => by cases h) wireLimits_row_tie rfl ⟨rfl, rfl⟩ (by kernel_rfl) rfl
    (fun f fn hf hfn => by
      obtain rfl : f = 10 := Option.some.inj ((show Tryd.prog.funcNamed Rows.wireLimitsRow.func = some 10 by kernel_rfl).symm.trans hf) |>.symm
      obtain rfl : fn = Tryd.f10 := (Option.some.inj (Tryd.func10.symm.trans hfn)).symm
      exact ⟨by kernel_rfl, fun j t ht => by
        rw [Tryd.params10] at ht
        have hm : t ∈ [3, 3, 22] := by simpa using Array.mem_of_getElem? ht
        have hall : ([3, 3, 22].all fun u => !Tryd.prog.wantsStandIn u) = true := by kernel_rfl
        exact (show Tryd.prog.wantsStandIn t = false by simpa using List.all_eq_true.1 hall t hm)⟩)
    (by kernel_rfl)
end Go.Proofs.YtmolpnhgmdpdmaaDoor.WireLimits
namespace Go.Proofs.YtmolpnhgmdpdmaaDoor
theorem wireLimits_card : Rows.WireLimitsCardSaid := WireLimits.card_holds
end Go.Proofs.YtmolpnhgmdpdmaaDoor
