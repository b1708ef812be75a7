/- WireFields: for every integer, bit field and value the law returns true, and its arguments read as before; the row, and the card that ties the two tables of unicode/utf8 to the program's text. No condition. -/
import Derived.Test.YtmolpnhgmdpdmaaDoorLf
import Derived.Test.YtmolpnhgmdpdmaaDoorGa
import Derived.Test.YtmolpnhgmdpdmaaDoorTie
import Derived.Test.YtmolpnhgmdpdmaaDoorCards
import Derived.LaidMore
import Derived.Lay
import Derived.SevenTiedAt
import Derived.Stop.Joined
namespace Go.Proofs.YtmolpnhgmdpdmaaDoor.WireFields
open Go.ChangeShapes Go.WideShapes Go.ChangeAt Go.RowKit
set_option maxHeartbeats 1000000

theorem badBits_iff (low width : Int) : badBits low width ∨ (1 ≤ width ∧ 0 ≤ low ∧ low ≤ 64 - width) := by unfold badBits; omega
theorem onesZ_le {n : Nat} {x : Int} (hx : 0 ≤ x) : x ≤ onesZ n ↔ x.toNat < 2 ^ n := by
  rw [onesZ_nat]
  have : 0 < 2 ^ n := Nat.pow_pos (by decide)
  omega
theorem walk (v low width x : Int) (w0 : (Lit.int .u64 v).wf = true) (w1 : (Lit.int .i64 low).wf = true) (w2 : (Lit.int .i64 width).wf = true) (w3 : (Lit.int .u64 x).wf = true) (w : World) :
    Calls Tryd.prog 5 #[.int .u64 v, .int .i64 low, .int .i64 width, .int .u64 x] w fun e w' => e = .returned (.bool true) ∧ Below w.heap.size w w' := by
  have hv := bounds_u64 w0
  have hw := (bounds_i64 w2).2
  have hx := bounds_u64 w3
  clear w0 w1 w2 w3
  rcases badBits_iff low width with hbad | ⟨h1, h2, h3⟩
  · have Hbad := Lib.hid hbad; clear hbad hv hx
    go_enter Tryd.func5, Tryd.ntmps5
    go_wp2_with fail
    refine (Field_bad _ _ _ _ hw Hbad.out).mono ?_
    rintro e w1 ⟨rfl, rfl⟩
    go_wp2_with fail
    refine (refField_bad _ _ _ _ Hbad.out).mono ?_
    rintro e w1 ⟨rfl, rfl⟩
    go_wp2_with fail
    refine (Insert_bad _ _ _ _ _ hw Hbad.out).mono ?_
    rintro e w1 ⟨rfl, rfl⟩
    go_wp2_with fail
    refine (refInsert_bad _ _ _ _ _ Hbad.out).mono ?_
    rintro e w1 ⟨rfl, rfl⟩
    go_wp2_with fail
    refine (known_any _).mono ?_
    rintro e w3 ⟨rfl, hb3⟩
    have Hb3 := Lib.hid hb3; clear hb3
    go_wp2
    go_ret
    exact ⟨rfl, Hb3.out⟩
  · obtain ⟨V, rfl⟩ := Int.eq_ofNat_of_zero_le hv.1
    obtain ⟨L, rfl⟩ := Int.eq_ofNat_of_zero_le h2
    obtain ⟨D, rfl⟩ := Int.eq_ofNat_of_zero_le (show 0 ≤ width by omega)
    obtain ⟨X, rfl⟩ := Int.eq_ofNat_of_zero_le hx.1
    have hV : V < 18446744073709551616 := by omega
    have hX : X < 18446744073709551616 := by omega
    have hD : 1 ≤ D := by omega
    have hLD : L + D ≤ 64 := by omega
    have hf := Field_ok (V : Int) L D
    have hi := Insert_ok (V : Int) L D X
    simp only [Int.toNat_natCast] at hf hi
    obtain ⟨F, hF⟩ : ∃ F, F = fieldN V L D := ⟨_, rfl⟩
    have HF := Lib.hid hF
    have Hf := Lib.hid (fun W => hf W hv.1 (by omega) h1 h2 h3)
    have Hrf := Lib.hid (fun W => refField_ok V L D W hV hD hLD)
    clear hf
    by_cases hr : X < 2 ^ D
    · obtain ⟨I, hI⟩ : ∃ I, I = insN V L D X := ⟨_, rfl⟩
      have HI := Lib.hid hI
      have Hi := Lib.hid (fun W => hi W hv.1 (by omega) h1 h2 h3 hx.1 ((onesZ_le hx.1).2 (by simpa using hr)))
      have Hri := Lib.hid (fun W => refInsert_ok V L D X W hV hX hD hLD hr)
      clear hi hr hI hF hv hx hw hV hX h3 hLD
      go_enter Tryd.func5, Tryd.ntmps5
      go_wp2_with fail
      refine (Hf.out _).mono ?_
      rintro e w1 ⟨rfl, hb1⟩
      rw [← HF.out]
      have Hb1 := Lib.hid hb1; clear hb1
      go_wp2_with fail
      refine (Hrf.out _).mono ?_
      rintro e w1 ⟨rfl, rfl⟩
      rw [← HF.out]
      go_wp2_with fail
      refine (Hi.out _).mono ?_
      rintro e w2 ⟨rfl, hb2⟩
      rw [← HI.out]
      have Hb2 := Lib.hid hb2; clear hb2
      go_wp2_with fail
      refine (Hri.out _).mono ?_
      rintro e w3 ⟨rfl, rfl⟩
      rw [← HI.out]
      go_wp2_with fail
      refine (known_any _).mono ?_
      rintro e w3 ⟨rfl, hb3⟩
      have Hb3 := Lib.hid hb3; clear hb3
      go_wp2
      go_ret
      exact ⟨rfl, (Hb1.out.trans (Hb2.out.mono Hb1.out.size)).trans (Hb3.out.mono (Nat.le_trans Hb1.out.size Hb2.out.size))⟩
    · have hlt64 : D < 64 := by
        rcases Nat.lt_or_ge D 64 with h | h
        · exact h
        · have e : D = 64 := by omega
          rw [e] at hr
          omega
      have Hi := Lib.hid (fun W => Insert_range (V : Int) L D X W h1 h2 h3 (by rw [Int.toNat_natCast, onesZ_nat]; have : 0 < 2 ^ D := Nat.pow_pos (by decide); omega))
      have Hri := Lib.hid (fun W => refInsert_range V L D X W hD hLD hlt64 (by omega))
      clear hi hr hF hv hx hw hV hX h3 hLD hlt64
      go_enter Tryd.func5, Tryd.ntmps5
      go_wp2_with fail
      refine (Hf.out _).mono ?_
      rintro e w1 ⟨rfl, hb1⟩
      rw [← HF.out]
      have Hb1 := Lib.hid hb1; clear hb1
      go_wp2_with fail
      refine (Hrf.out _).mono ?_
      rintro e w1 ⟨rfl, rfl⟩
      rw [← HF.out]
      go_wp2_with fail
      refine (Hi.out _).mono ?_
      rintro e w2 ⟨rfl, rfl⟩
      go_wp2_with fail
      refine (Hri.out _).mono ?_
      rintro e w3 ⟨rfl, rfl⟩
      go_wp2_with fail
      refine (known_any _).mono ?_
      rintro e w3 ⟨rfl, hb3⟩
      have Hb3 := Lib.hid hb3; clear hb3
      go_wp2
      go_ret
      exact ⟨rfl, Hb1.out.trans (Hb3.out.mono Hb1.out.size)⟩

set_option maxRecDepth 100000 in
theorem lifted (os : Os) (started : os.Started) (H : Type) (enc : TypeId × Value → H) :
    ReturnsInHanded {} Tryd.checked os 5 .any (fun w args => (Rows.wireFieldsSpec.pre enc Tryd.prog Tryd.f5 Rows.wireFieldsRow.domain false w args ∧ laidMetH Tryd.prog Rows.wireFieldsRow.laid w) ∧ sizedMet enc Tryd.prog Tryd.f5 (OpenSpec.ofChange Rows.wireFieldsSpec) false w args)
      (Rows.wireFieldsSpec.post enc Tryd.prog Tryd.f5 false true false false) := by
  refine returnsInHanded_of_change_and (C := Tryd.checked) (X := fun w _ => laidMetH Tryd.prog Rows.wireFieldsRow.laid w) (fun _ _ _ hh h => h.of_heap hh) own started (by kernel_rfl) Tryd.func5
    (ChangeSpec.witness_shaped (enc := enc) (C := Tryd.checked) (os := os) (X := fun w _ => laidMetH Tryd.prog Rows.wireFieldsRow.laid w) false (World.laidAll Tryd.prog os Rows.wireFieldsRow.laid) #[.int .u64 0, .int .i64 0, .int .i64 0, .int .u64 0] 8 (World.laidAll_os _ _ _)
      (World.shaped_of_ZipB (by kernel_rfl) (by kernel_rfl)) (by kernel_rfl) (by kernel_rfl) (by kernel_rfl)
      (by rw [MakeChecks.laidMetH_plain _ _ _ (by kernel_rfl)]; exact laidMet_laidAll _ (by kernel_rfl) (by kernel_rfl))) ?_
  intro W base args ds gs before hval0 hW _ hsz _ _
  have hval : ∀ (j : Nat) t v, Tryd.f5.params[j]? = some t → args[j]? = some v → Value.okWide Tryd.prog W .any base t v := hval0
  have hW' := hW
  have hlt := hW.lt
  obtain ⟨p, q, hA0, hV, rfl, _, _⟩ := hW
  have hA : DataW.TrodAll enc Tryd.prog W 0 (fun _ => true) true Tryd.f5.params.toList args.toList ds p := hA0
  have hAk := hA
  rw [Tryd.params5] at hA hval
  obtain ⟨v0, vs0, d0, ds0, p0, q0, hargs, rfl, rfl, h0, r0⟩ := trodAll_cons hA
  obtain ⟨v1, vs1, d1, ds1, p1, q1, rfl, rfl, rfl, h1, r1⟩ := trodAll_cons r0
  obtain ⟨v2, vs2, d2, ds2, p2, q2, rfl, rfl, rfl, h2, r2⟩ := trodAll_cons r1
  obtain ⟨v3, vs3, d3, ds3, p3, q3, rfl, rfl, rfl, h3, r3⟩ := trodAll_cons r2
  obtain ⟨rfl, rfl, rfl⟩ := trodAll_nil r3
  obtain rfl : args = #[v0, v1, v2, v3] := by cases args; simp_all
  obtain ⟨rfl, rfl⟩ := trodVars_none hV
  obtain ⟨a0, rfl, rfl, rfl, w0⟩ := open_int Tryd.underlying22 (hval 0 22 v0 rfl rfl) h0
  obtain ⟨a1, rfl, rfl, rfl, w1⟩ := open_int Tryd.underlying3 (hval 1 3 v1 rfl rfl) h1
  obtain ⟨a2, rfl, rfl, rfl, w2⟩ := open_int Tryd.underlying3 (hval 2 3 v2 rfl rfl) h2
  obtain ⟨a3, rfl, rfl, rfl, w3⟩ := open_int Tryd.underlying22 (hval 3 22 v3 rfl rfl) h3
  refine (walk a0 a1 a2 a3 w0 w1 w2 w3 W).mono fun e W' ⟨he, hb⟩ => ?_
  subst he
  exact ⟨_, rfl, _, _, _, [], _, [], hW', trodAll_mk1 (shut_bool Tryd.underlying4 _), args_back hb (by kernel_rfl) hAk (fun x hx => hlt x (List.mem_append_left _ hx)), rfl, hb.frame _, fun h => by cases h⟩

theorem holds : Rows.WireFieldsSaid :=
  OpenClaim.holds_of_wide 5 Tryd.f5 rfl rfl rfl rfl rfl rfl rfl ⟨rfl, rfl, rfl, rfl, rfl⟩ rfl rfl rfl rfl rfl (by kernel_rfl) Tryd.func5 (by kernel_rfl)
    (of_decide_eq_true (by kernel_rfl)) (by unfold Func.isWrapper; first | (rw [if_pos (by decide +kernel)]; kernel_rfl) | (rw [if_neg (by decide +kernel)]; exact ⟨rfl, rfl⟩))
    (fun os started H enc _ => lifted os started H enc)
theorem card_holds : Rows.WireFieldsCardSaid :=
  Claim7.holds_tied_plain_at .later [] [.data, .pinned] true Rows.wireFieldsCard.stood.harness false holds (fun _ h => by cases h) (by kernel_rfl) (fun _ h => by cases h) wireFields_row_tie rfl ⟨rfl, rfl⟩ (by kernel_rfl) rfl
    (fun f fn hf hfn => by
      obtain rfl : f = 5 := Option.some.inj ((show Tryd.prog.funcNamed Rows.wireFieldsRow.func = some 5 by kernel_rfl).symm.trans hf) |>.symm
      obtain rfl : fn = Tryd.f5 := (Option.some.inj (Tryd.func5.symm.trans hfn)).symm
      exact ⟨by kernel_rfl, fun j t ht => by
        rw [Tryd.params5] at ht
        have hm : t ∈ [22, 3, 3, 22] := by simpa using Array.mem_of_getElem? ht
        have hall : ([22, 3, 3, 22].all fun u => !Tryd.prog.wantsStandIn u) = true := by kernel_rfl
        exact (show Tryd.prog.wantsStandIn t = false by simpa using List.all_eq_true.1 hall t hm)⟩)
    (by kernel_rfl)
end Go.Proofs.YtmolpnhgmdpdmaaDoor.WireFields
namespace Go.Proofs.YtmolpnhgmdpdmaaDoor
theorem wireFields_card : Rows.WireFieldsCardSaid := WireFields.card_holds
end Go.Proofs.YtmolpnhgmdpdmaaDoor
