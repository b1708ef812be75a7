/- WireTexts: for every slice of bytes and every number the law returns true, and its arguments read as before; the row, and the card that ties the two tables of unicode/utf8 to the program's text. No condition. -/
import Derived.Test.YtmolpnhgmdpdmaaDoorLf
import Derived.Test.YtmolpnhgmdpdmaaDoorGb
import Derived.Test.YtmolpnhgmdpdmaaDoorTie
import Derived.Test.YtmolpnhgmdpdmaaDoorCards
import Derived.LaidMore
import Derived.Lay
import Derived.SevenTiedAt
import Derived.Stop.Joined
namespace Go.Proofs.YtmolpnhgmdpdmaaDoor.WireTexts
open Go.ChangeShapes Go.WideShapes Go.ChangeAt Go.RowKit
set_option linter.unusedVariables false
set_option maxHeartbeats 1000000

set_option maxRecDepth 100000 in
theorem main (v : Value) (l : List UInt8) (n : Int) (w : World) (h : Byt w v l) (h200 : l.length ≤ 200) (hn : n ≤ 1000 ∨ 1048576 < n) : Calls Tryd.prog 6 #[v, .int .i64 n] w fun e w' => e = .returned (.bool true) ∧ Below w.heap.size w w' := by
  obtain ⟨E, hE⟩ : ∃ E, E = padE l n := ⟨_, rfl⟩
  obtain ⟨F, hF⟩ : ∃ F, F = textE l := ⟨_, rfl⟩
  obtain ⟨T, hT⟩ : ∃ T : ByteArray, T = ⟨(textL l).toArray⟩ := ⟨_, rfl⟩
  have HE := Lib.hid hE; have HF := Lib.hid hF; have HT := Lib.hid hT; clear hE hF hT
  have H := Lib.hid h
  obtain ⟨A, c, rfl, -, -⟩ := h
  have hst := run_string (P := Tryd.prog) 23 9 5 Tryd.underlying23 Tryd.underlying5 Tryd.underlying9 H.out
  have Hn := Lib.hid hn
  have hd : (decide (1000 < n) && decide (n ≤ 1048576)) = false := by simp; omega
  have hcase : decide (1000 < n) = false ∨ (decide (1000 < n) = true ∧ decide (n ≤ 1048576) = false) := by
    rcases hn with h | h
    · left; simp; omega
    · right; exact ⟨by simp; omega, by simp; omega⟩
  have d200 : decide (200 < (l.length : Int)) = false := by simp; omega
  clear hn hd
  rcases hcase with d1 | ⟨d1, d2⟩
  all_goals
    go_enter Tryd.func6, Tryd.ntmps6
    go_wp2_with fail
    refine (Pad_any ⟨l.toArray⟩ n _ (by show l.length ≤ _; omega)).mono ?_
    rintro e w1 ⟨v1, rfl, hB1, hb1⟩
    rw [show padE (⟨l.toArray⟩ : ByteArray).data.toList n = E from HE.out.symm]
    have HB1 := Lib.hid hB1; have Hb1 := Lib.hid hb1; clear hB1 hb1
    have hst1 := run_string (P := Tryd.prog) 23 9 5 Tryd.underlying23 Tryd.underlying5 Tryd.underlying9 (H.out.below Hb1.out)
    go_wp2_with fail
    refine (refPad_any ⟨l.toArray⟩ n _ (by show l.length ≤ _; omega)).mono ?_
    rintro e w2 ⟨v2, rfl, hB2, hb2⟩
    rw [show padE (⟨l.toArray⟩ : ByteArray).data.toList n = E from HE.out.symm]
    have HB2 := Lib.hid hB2; have Hb2 := Lib.hid hb2; clear hB2 hb2
    have H2 := Lib.hid ((H.out.below Hb1.out).below Hb2.out)
    go_wp2_with fail
    refine (Text_any _ l _ H2.out (by omega)).mono ?_
    rintro e w3 ⟨rfl, rfl⟩
    rw [← HF.out, ← HT.out]
    go_wp2_with fail
    refine (refText_any _ l _ H2.out (by omega)).mono ?_
    rintro e w3 ⟨rfl, rfl⟩
    rw [← HF.out, ← HT.out]
    go_wp2_with fail
    refine (Same_eq v1 v2 _ _ (HB1.out.below Hb2.out) HB2.out).mono ?_
    rintro e w3 ⟨rfl, rfl⟩
    go_wp2_with fail
    refine (known_any _).mono ?_
    rintro e w9 ⟨rfl, hb9⟩
    have Hb9 := Lib.hid hb9; clear hb9
    go_wp2
    go_ret
    exact ⟨rfl, (Hb1.out.trans (Hb2.out.mono Hb1.out.size)).trans (Hb9.out.mono (Nat.le_trans Hb1.out.size Hb2.out.size))⟩

theorem walk (v : Value) (l : List UInt8) (n : Int) (w : World) (h : Byt w v l) (hl : l.length ≤ 9223372036854775807) : Calls Tryd.prog 6 #[v, .int .i64 n] w fun e w' => e = .returned (.bool true) ∧ Below w.heap.size w w' := by
  by_cases h200 : l.length ≤ 200
  · by_cases hn : n ≤ 1000 ∨ 1048576 < n
    · exact main v l n w h h200 hn
    · obtain ⟨A, c, rfl, -, -⟩ := h
      have h1 : 1000 < n := by omega
      have h2 : n ≤ 1048576 := by omega
      clear hn
      go_enter Tryd.func6, Tryd.ntmps6
      go_wp2_with fail
      refine (known_any _).mono ?_
      rintro e w9 ⟨rfl, hb9⟩
      have Hb9 := Lib.hid hb9; clear hb9
      go_wp2
      go_ret
      exact ⟨rfl, Hb9.out⟩
  · obtain ⟨A, c, rfl, -, -⟩ := h
    have h2 : 200 < l.length := by omega
    clear h200
    go_enter Tryd.func6, Tryd.ntmps6
    go_wp2_with fail
    refine (known_any _).mono ?_
    rintro e w9 ⟨rfl, hb9⟩
    have Hb9 := Lib.hid hb9; clear hb9
    go_wp2
    go_ret
    exact ⟨rfl, Hb9.out⟩

set_option maxRecDepth 100000 in
theorem lifted (os : Os) (started : os.Started) (H : Type) (enc : TypeId × Value → H) :
    ReturnsInHanded {} Tryd.checked os 6 .any (fun w args => (Rows.wireTextsSpec.pre enc Tryd.prog Tryd.f6 Rows.wireTextsRow.domain false w args ∧ laidMetH Tryd.prog Rows.wireTextsRow.laid w) ∧ sizedMet enc Tryd.prog Tryd.f6 (OpenSpec.ofChange Rows.wireTextsSpec) false w args)
      (Rows.wireTextsSpec.post enc Tryd.prog Tryd.f6 false true false false) := by
  refine returnsInHanded_of_change_and (C := Tryd.checked) (X := fun w _ => laidMetH Tryd.prog Rows.wireTextsRow.laid w) (fun _ _ _ hh h => h.of_heap hh) own started (by kernel_rfl) Tryd.func6
    (ChangeSpec.witness_shaped (enc := enc) (C := Tryd.checked) (os := os) (X := fun w _ => laidMetH Tryd.prog Rows.wireTextsRow.laid w) false (World.laidAll Tryd.prog os Rows.wireTextsRow.laid) #[.slice none 0 0, .int .i64 0] 8 (World.laidAll_os _ _ _)
      (World.shaped_of_ZipB (by kernel_rfl) (by kernel_rfl)) (by kernel_rfl) (by kernel_rfl) (by kernel_rfl)
      (by rw [MakeChecks.laidMetH_plain _ _ _ (by kernel_rfl)]; exact laidMet_laidAll _ (by kernel_rfl) (by kernel_rfl))) ?_
  intro W base args ds gs before hval0 hW _ hsz _ _
  have hval : ∀ (j : Nat) t v, Tryd.f6.params[j]? = some t → args[j]? = some v → Value.okWide Tryd.prog W .any base t v := hval0
  have hW' := hW
  have hlt := hW.lt
  obtain ⟨p, q, hA0, hV, rfl, _, _⟩ := hW
  have hA : DataW.TrodAll enc Tryd.prog W 0 (fun _ => true) true Tryd.f6.params.toList args.toList ds p := hA0
  have hAk := hA
  rw [Tryd.params6] at hA hval
  obtain ⟨v0, vs0, d0, ds0, p0, q0, hargs, rfl, rfl, h0, r0⟩ := trodAll_cons hA
  obtain ⟨v1, vs1, d1, ds1, p1, q1, rfl, rfl, rfl, h1, r1⟩ := trodAll_cons r0
  obtain ⟨rfl, rfl, rfl⟩ := trodAll_nil r1
  obtain rfl : args = #[v0, v1] := by cases args; simp_all
  obtain ⟨rfl, rfl⟩ := trodVars_none hV
  obtain ⟨l, hB, hm⟩ := open_byt (hval 0 23 v0 rfl rfl) h0
  obtain ⟨a1, rfl, rfl, rfl, w1⟩ := open_int Tryd.underlying3 (hval 1 3 v1 rfl rfl) h1
  refine (walk v0 l a1 W hB (by unfold maxLen at hm; omega)).mono fun e W' ⟨he, hb⟩ => ?_
  subst he
  exact ⟨_, rfl, _, _, _, [], _, [], hW', trodAll_mk1 (shut_bool Tryd.underlying4 _), args_back hb (by kernel_rfl) hAk (fun x hx => hlt x (List.mem_append_left _ hx)), rfl, hb.frame _, fun h => by cases h⟩

theorem holds : Rows.WireTextsSaid :=
  OpenClaim.holds_of_wide 6 Tryd.f6 rfl rfl rfl rfl rfl rfl rfl ⟨rfl, rfl, rfl, rfl, rfl⟩ rfl rfl rfl rfl rfl (by kernel_rfl) Tryd.func6 (by kernel_rfl)
    (of_decide_eq_true (by kernel_rfl)) (by unfold Func.isWrapper; first | (rw [if_pos (by decide +kernel)]; kernel_rfl) | (rw [if_neg (by decide +kernel)]; exact ⟨rfl, rfl⟩))
    (fun os started H enc _ => lifted os started H enc)
theorem card_holds : Rows.WireTextsCardSaid :=
  Claim7.holds_tied_plain_at .later [] [.data, .pinned] true Rows.wireTextsCard.stood.harness false holds (fun _ h => by cases h) (by kernel_rfl) (fun _ h => by cases h) wireTexts_row_tie rfl ⟨rfl, rfl⟩ (by kernel_rfl) rfl
    (fun f fn hf hfn => by
      obtain rfl : f = 6 := Option.some.inj ((show Tryd.prog.funcNamed Rows.wireTextsRow.func = some 6 by kernel_rfl).symm.trans hf) |>.symm
      obtain rfl : fn = Tryd.f6 := (Option.some.inj (Tryd.func6.symm.trans hfn)).symm
      exact ⟨by kernel_rfl, fun j t ht => by
        rw [Tryd.params6] at ht
        have hm : t ∈ [23, 3] := by simpa using Array.mem_of_getElem? ht
        have hall : ([23, 3].all fun u => !Tryd.prog.wantsStandIn u) = true := by kernel_rfl
        exact (show Tryd.prog.wantsStandIn t = false by simpa using List.all_eq_true.1 hall t hm)⟩)
    (by kernel_rfl)
end Go.Proofs.YtmolpnhgmdpdmaaDoor.WireTexts
namespace Go.Proofs.YtmolpnhgmdpdmaaDoor
theorem wireTexts_card : Rows.WireTextsCardSaid := WireTexts.card_holds
end Go.Proofs.YtmolpnhgmdpdmaaDoor
