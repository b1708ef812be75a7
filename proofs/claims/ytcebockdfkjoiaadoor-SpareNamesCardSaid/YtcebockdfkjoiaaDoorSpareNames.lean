/- SpareNames: for every number the law returns true, and its argument reads as before; the row, and the card that ties the table of package digest and the names of package spare to the program's text. No condition. -/
import Derived.Test.YtcebockdfkjoiaaDoorO
import Derived.Test.YtcebockdfkjoiaaDoorTie
import Derived.Test.YtcebockdfkjoiaaDoorCards
import Derived.LaidMore
import Derived.Lay
import Derived.SevenTiedAt
import Derived.Stop.Joined
namespace Go.Proofs.YtcebockdfkjoiaaDoor.SpareNames
open Go.ChangeShapes Go.WideShapes Go.ChangeAt Go.RowKit
set_option linter.unusedVariables false
set_option maxHeartbeats 1000000

set_option maxRecDepth 100000
theorem Name_0 (w : World) (h : Nms w) : Calls Tryd.prog 19 #[.int .u8 0] w fun e w' => e = .returned (.string ⟨#[]⟩) ∧ w = w' := by
  have h0 := h.a0; have h1 := h.a1; have h2 := h.a2; have h3 := h.a3
  clear h
  go_enter Tryd.func19, Tryd.ntmps19
  go_wp2
  go_ret
  exact ⟨rfl, rfl⟩
theorem refName_0 (w : World) : Calls Tryd.prog 20 #[.int .u8 0] w fun e w' => e = .returned (.string ⟨#[]⟩) ∧ Below w.heap.size w w' := by
  go_enter Tryd.func20, Tryd.ntmps20
  go_wp2
  go_ret
  exact ⟨rfl, by first | exact Below.refl _ _ | exact below_alloc w _⟩
theorem Name_1 (w : World) (h : Nms w) : Calls Tryd.prog 19 #[.int .u8 1] w fun e w' => e = .returned (.string ⟨#[100, 97, 116, 97]⟩) ∧ w = w' := by
  have h0 := h.a0; have h1 := h.a1; have h2 := h.a2; have h3 := h.a3
  clear h
  go_enter Tryd.func19, Tryd.ntmps19
  go_wp2
  go_ret
  exact ⟨rfl, rfl⟩
theorem refName_1 (w : World) : Calls Tryd.prog 20 #[.int .u8 1] w fun e w' => e = .returned (.string ⟨#[100, 97, 116, 97]⟩) ∧ Below w.heap.size w w' := by
  go_enter Tryd.func20, Tryd.ntmps20
  go_wp2
  go_ret
  exact ⟨rfl, by first | exact Below.refl _ _ | exact below_alloc w _⟩
theorem Name_2 (w : World) (h : Nms w) : Calls Tryd.prog 19 #[.int .u8 2] w fun e w' => e = .returned (.string ⟨#[100, 101, 108, 116, 97]⟩) ∧ w = w' := by
  have h0 := h.a0; have h1 := h.a1; have h2 := h.a2; have h3 := h.a3
  clear h
  go_enter Tryd.func19, Tryd.ntmps19
  go_wp2
  go_ret
  exact ⟨rfl, rfl⟩
theorem refName_2 (w : World) : Calls Tryd.prog 20 #[.int .u8 2] w fun e w' => e = .returned (.string ⟨#[100, 101, 108, 116, 97]⟩) ∧ Below w.heap.size w w' := by
  go_enter Tryd.func20, Tryd.ntmps20
  go_wp2
  go_ret
  exact ⟨rfl, by first | exact Below.refl _ _ | exact below_alloc w _⟩
theorem Name_3 (w : World) (h : Nms w) : Calls Tryd.prog 19 #[.int .u8 3] w fun e w' => e = .returned (.string ⟨#[99, 104, 101, 99, 107, 112, 111, 105, 110, 116]⟩) ∧ w = w' := by
  have h0 := h.a0; have h1 := h.a1; have h2 := h.a2; have h3 := h.a3
  clear h
  go_enter Tryd.func19, Tryd.ntmps19
  go_wp2
  go_ret
  exact ⟨rfl, rfl⟩
theorem refName_3 (w : World) : Calls Tryd.prog 20 #[.int .u8 3] w fun e w' => e = .returned (.string ⟨#[99, 104, 101, 99, 107, 112, 111, 105, 110, 116]⟩) ∧ Below w.heap.size w w' := by
  go_enter Tryd.func20, Tryd.ntmps20
  go_wp2
  go_ret
  exact ⟨rfl, by first | exact Below.refl _ _ | exact below_alloc w _⟩
theorem Name_big (k : Int) (w : World) (hk : 4 ≤ k) (hk2 : k ≤ 255) : Calls Tryd.prog 19 #[.int .u8 k] w fun e w' => e = .returned (.string ⟨#[]⟩) ∧ w = w' := by
  go_enter Tryd.func19, Tryd.ntmps19
  go_wp2
  go_ret
  exact ⟨rfl, rfl⟩
theorem refName_big (k : Int) (w : World) (hk : 4 ≤ k) (hk2 : k ≤ 255) : Calls Tryd.prog 20 #[.int .u8 k] w fun e w' => e = .returned (.string ⟨#[]⟩) ∧ Below w.heap.size w w' := by
  have h1 : decide (k < 1) = false := decide_eq_false (by omega)
  have h3 : 3 < k := by omega
  go_enter Tryd.func20, Tryd.ntmps20
  go_wp2
  go_ret
  exact ⟨rfl, Below.refl _ _⟩
theorem walk (k : Int) (w : World) (h0 : 0 ≤ k) (h255 : k ≤ 255) (hT : Tabs w) (hN : Nms w) : Calls Tryd.prog 5 #[.int .u8 k] w fun e w' => e = .returned (.bool true) ∧ Below w.heap.size w w' := by
  have key : ∃ s : ByteArray, (Calls Tryd.prog 19 #[.int .u8 k] w fun e w' => e = .returned (.string s) ∧ w = w') ∧ (Calls Tryd.prog 20 #[.int .u8 k] w fun e w' => e = .returned (.string s) ∧ Below w.heap.size w w') := by
    by_cases hb : 4 ≤ k
    · exact ⟨_, Name_big k w hb h255, refName_big k w hb h255⟩
    · have : k = 0 ∨ k = 1 ∨ k = 2 ∨ k = 3 := by omega
      rcases this with rfl | rfl | rfl | rfl
      · exact ⟨_, Name_0 w hN, refName_0 w⟩
      · exact ⟨_, Name_1 w hN, refName_1 w⟩
      · exact ⟨_, Name_2 w hN, refName_2 w⟩
      · exact ⟨_, Name_3 w hN, refName_3 w⟩
  obtain ⟨s, c1, c2⟩ := key
  have C1 := Lib.hid c1; have C2 := Lib.hid c2; have HT := Lib.hid hT; clear c1 c2 hT hN
  go_enter Tryd.func5, Tryd.ntmps5
  go_wp2_with fail
  refine C1.out.mono ?_
  rintro e w' ⟨rfl, rfl⟩
  go_wp2_with fail
  refine C2.out.mono ?_
  rintro e w1 ⟨rfl, hb⟩
  have Hb := Lib.hid hb; clear hb
  go_wp2_with fail
  refine (works_any w1 (HT.out.below Hb.out)).mono ?_
  rintro e w2 ⟨rfl, hb2⟩
  have Hb2 := Lib.hid hb2; clear hb2
  go_wp2
  go_ret
  exact ⟨rfl, below_step Hb.out Hb2.out⟩

set_option maxRecDepth 100000 in
theorem lifted (os : Os) (started : os.Started) (H : Type) (enc : TypeId × Value → H) :
    ReturnsInHanded {} Tryd.checked os 5 .any (fun w args => (Rows.spareNamesSpec.pre enc Tryd.prog Tryd.f5 Rows.spareNamesRow.domain false w args ∧ laidMetH Tryd.prog Rows.spareNamesRow.laid w) ∧ sizedMet enc Tryd.prog Tryd.f5 (OpenSpec.ofChange Rows.spareNamesSpec) false w args)
      (Rows.spareNamesSpec.post enc Tryd.prog Tryd.f5 false true false false) := by
  refine returnsInHanded_of_change_and (C := Tryd.checked) (X := fun w _ => laidMetH Tryd.prog Rows.spareNamesRow.laid w) (fun _ _ _ hh h => h.of_heap hh) own started (by kernel_rfl) Tryd.func5
    (ChangeSpec.witness_shaped (enc := enc) (C := Tryd.checked) (os := os) (X := fun w _ => laidMetH Tryd.prog Rows.spareNamesRow.laid w) false (World.laidAll Tryd.prog os Rows.spareNamesRow.laid) #[.int .u8 0] 8 (World.laidAll_os _ _ _)
      (World.shaped_of_ZipB (by kernel_rfl) (by kernel_rfl)) (by kernel_rfl) (by kernel_rfl) (by kernel_rfl)
      (by rw [MakeChecks.laidMetH_plain _ _ _ (by kernel_rfl)]; exact laidMet_laidAll _ (by kernel_rfl) (by kernel_rfl))) ?_
  intro W base args ds gs before hval0 hW _ hsz hL _
  have hval : ∀ (j : Nat) t v, Tryd.f5.params[j]? = some t → args[j]? = some v → Value.okWide Tryd.prog W .any base t v := hval0
  have hW' := hW
  have hlt := hW.lt
  obtain ⟨p, q, hA0, hV, rfl, _, _⟩ := hW
  have hA : DataW.TrodAll enc Tryd.prog W 0 (fun _ => true) true Tryd.f5.params.toList args.toList ds p := hA0
  have hAk := hA
  rw [Tryd.params5] at hA hval
  obtain ⟨v0, vs0, d0, ds0, p0, q0, hargs, rfl, rfl, h0, r0⟩ := trodAll_cons hA
  obtain ⟨rfl, rfl, rfl⟩ := trodAll_nil r0
  obtain rfl : args = #[v0] := by cases args; simp_all
  obtain ⟨rfl, rfl⟩ := trodVars_none hV
  obtain ⟨a0, rfl, rfl, rfl, w0⟩ := open_int Tryd.underlying5 (hval 0 5 v0 rfl rfl) h0
  have b0 := bounds_u8 w0
  have hL0 : laidMet Tryd.prog (("capsule/digest.table32", Lib.tabData .u32 T32) :: [("capsule/spare.names", namesL)]) W := by
    have := hL
    rw [MakeChecks.laidMetH_plain _ _ _ (by kernel_rfl)] at this
    exact this
  refine (walk a0 W (by omega) (by omega) (tabs_of_head hL0) (names_of_head (laidMet.tail hL0))).mono fun e W' ⟨he, hb⟩ => ?_
  subst he
  exact ⟨_, rfl, _, _, _, [], _, [], hW', trodAll_mk1 (shut_bool Tryd.underlying4 _), args_back hb (by kernel_rfl) hAk (fun x hx => hlt x (List.mem_append_left _ hx)), rfl, hb.frame _, fun h => by cases h⟩

theorem holds : Rows.SpareNamesSaid :=
  OpenClaim.holds_of_wide 5 Tryd.f5 rfl rfl rfl rfl rfl rfl rfl ⟨rfl, rfl, rfl, rfl, rfl⟩ rfl rfl rfl rfl rfl (by kernel_rfl) Tryd.func5 (by kernel_rfl)
    (of_decide_eq_true (by kernel_rfl)) (by unfold Func.isWrapper; first | (rw [if_pos (by decide +kernel)]; kernel_rfl) | (rw [if_neg (by decide +kernel)]; exact ⟨rfl, rfl⟩))
    (fun os started H enc _ => lifted os started H enc)
theorem card_holds : Rows.SpareNamesCardSaid :=
  Claim7.holds_tied_plain_at .later [] [.data, .data] true Rows.spareNamesCard.stood.harness true holds (fun _ h => by cases h) (by kernel_rfl) (fun _ h => by cases h) spareNames_row_tie rfl ⟨rfl, rfl⟩ (by kernel_rfl) rfl
    (fun f fn hf hfn => by
      obtain rfl : f = 5 := Option.some.inj ((show Tryd.prog.funcNamed Rows.spareNamesRow.func = some 5 by kernel_rfl).symm.trans hf) |>.symm
      obtain rfl : fn = Tryd.f5 := (Option.some.inj (Tryd.func5.symm.trans hfn)).symm
      exact ⟨by kernel_rfl, fun j t ht => by
        rw [Tryd.params5] at ht
        have hm : t ∈ [5] := by simpa using Array.mem_of_getElem? ht
        have hall : ([5].all fun u => !Tryd.prog.wantsStandIn u) = true := by kernel_rfl
        exact (show Tryd.prog.wantsStandIn t = false by simpa using List.all_eq_true.1 hall t hm)⟩)
    (by kernel_rfl)
end Go.Proofs.YtcebockdfkjoiaaDoor.SpareNames
namespace Go.Proofs.YtcebockdfkjoiaaDoor
theorem spareNames_card : Rows.SpareNamesCardSaid := SpareNames.card_holds
end Go.Proofs.YtcebockdfkjoiaaDoor
