/- DigestResidue: for every slice of bytes the law returns true, and its arguments read as before; the row, and the card that ties both tables of package digest to the program's text. No condition. -/
import Derived.Test.YtijbkjkienjdaaaDoorL
import Derived.Test.YtijbkjkienjdaaaDoorN
import Derived.Test.YtijbkjkienjdaaaDoorTie
import Derived.Test.YtijbkjkienjdaaaDoorCards
import Derived.LaidMore
import Derived.Lay
import Derived.SevenTiedAt
import Derived.Stop.Joined
namespace Go.Proofs.YtijbkjkienjdaaaDoor.DigestResidue
open Go.ChangeShapes Go.WideShapes Go.ChangeAt Go.RowKit
set_option linter.unusedVariables false
set_option maxHeartbeats 1000000

theorem u8v (c d : Nat) : (.int .u8 ((c : Int) / d % 256) : Value) = .int .u8 ((UInt8.ofNat (c / d)).toNat : Int) := by
  rw [UInt8.toNat_ofNat']; congr 1
theorem le4_bv (c : Nat) (h : c < 4294967296) : bv (le4 c) = [.int .u8 ((c : Int) % 256), .int .u8 ((c : Int) / 256 % 256), .int .u8 ((c : Int) / 65536 % 256), .int .u8 ((c : Int) / 16777216)] := by
  simp only [bv, le4, List.map_cons, List.map_nil, UInt8.toNat_ofNat']
  rw [show c / 16777216 % 2 ^ 8 = c / 16777216 by omega]; rfl
theorem be2_bv (c : Nat) (h : c < 65536) : bv (be2 c) = [.int .u8 ((c : Int) / 256), .int .u8 ((c : Int) % 256)] := by
  simp only [bv, be2, List.map_cons, List.map_nil, UInt8.toNat_ofNat']
  rw [show c / 256 % 2 ^ 8 = c / 256 by omega]; rfl
set_option maxRecDepth 100000 in
theorem walk (v : Value) (l : List UInt8) (w : World) (h : Byt w v l) (hl : l.length ≤ maxLen) (hT : Tabs w) : Calls Tryd.prog 7 #[v] w fun e w' => e = .returned (.bool true) ∧ Below w.heap.size w w' := by
  unfold maxLen at hl
  have H := Lib.hid h
  have HT := Lib.hid hT; clear hT
  obtain ⟨A, c, rfl, -, -⟩ := h
  by_cases hbig : 1000 < l.length
  · go_enter Tryd.func7, Tryd.ntmps7
    go_wp2_with fail
    refine (known_any _ HT.out).mono ?_
    rintro e w3 ⟨rfl, hb3⟩
    have Hb3 := Lib.hid hb3; clear hb3
    go_wp2
    go_ret
    exact ⟨rfl, Hb3.out⟩
  · have HR32 := Lib.hid (residue32 l)
    have HR16 := Lib.hid (residue16 l)
    have hc := crc32_lt l
    have hd := crc16_lt l
    obtain ⟨C, hC⟩ : ∃ C, crc32 l = C := ⟨_, rfl⟩
    obtain ⟨D, hD⟩ : ∃ D, crc16 l = D := ⟨_, rfl⟩
    rw [hC] at HR32 hc
    rw [hD] at HR16 hd
    have HC := Lib.hid hC; have HD := Lib.hid hD; clear hC hD
    go_enter Tryd.func7, Tryd.ntmps7
    go_wp2_with fail
    refine (CRC32C_any _ l _ HT.out H.out (by unfold maxLen; omega)).mono ?_
    rintro e w1 ⟨rfl, hb1⟩
    rw [HC.out]
    have Hb1 := Lib.hid hb1; clear hb1
    go_wp2_with fail
    refine (CRC16_any _ l _ (HT.out.below Hb1.out) (H.out.below Hb1.out) (by unfold maxLen; omega)).mono ?_
    rintro e w2 ⟨rfl, b2⟩
    rw [HD.out]
    have Hb2 := Lib.hid (Hb1.out.trans (b2.mono Hb1.out.size)); clear b2 Hb1
    go_wp2_with fail
    refine (Own_any _ l _ (H.out.below Hb2.out) (by omega)).mono ?_
    rintro e w3 ⟨⟨r, rfl, ho⟩, b3⟩
    have hbB := Hb2.out.trans (b3.mono Hb2.out.size)
    have B4 : Byt (w3.alloc (.cells #[.int .u8 ((C : Int) % 256), .int .u8 ((C : Int) / 256 % 256), .int .u8 ((C : Int) / 65536 % 256), .int .u8 ((C : Int) / 16777216)] 5)) (.slice (some ⟨w3.heap.size, 0, none⟩) 4 4) (le4 C) := by
      have := byt_lit w3 (le4 C); rw [le4_bv C hc] at this; exact this
    obtain ⟨v4, w4, hrun, h2, h3, h4⟩ := run_append_own_src (w3.alloc (.cells #[.int .u8 ((C : Int) % 256), .int .u8 ((C : Int) / 256 % 256), .int .u8 ((C : Int) / 65536 % 256), .int .u8 ((C : Int) / 16777216)] 5)) w2.heap.size l.length r _ l (le4 C) 22 (ho.alloc _) B4 (by simp [le4]; omega) (by have := b3.size; simp; omega)
    have hb4 : Below w.heap.size w w4 := (hbB.alloc hbB.size _).grown h3 (by have := hbB.size; simp; omega) (fun b hb => Nat.le_trans Hb2.out.size (ho.lt b hb).1)
    have Hrun := Lib.hid hrun; have HB4 := Lib.hid (Byt.of_own h2); have Hb4 := Lib.hid hb4
    clear hrun h2 h3 h4 hb4 hbB B4 ho b3
    have hl4 : (l ++ le4 C).length ≤ maxLen := by unfold maxLen; simp [le4]; omega
    generalize l ++ le4 C = X at *
    have Hl4 := Lib.hid hl4; clear hl4
    obtain ⟨A4, c4, rfl, -, -⟩ := HB4.out
    go_wp2_with (at_builtin; refine wpList_append_run rfl (.tmp 16) (.tmp 28) 22 22 rfl _ _ _ w4 rfl rfl Hrun.out ?_)
    refine (Own_any _ l _ (H.out.below Hb4.out) (by omega)).mono ?_
    rintro e w5 ⟨⟨r5, rfl, ho⟩, b3⟩
    have hbB := Hb4.out.trans (b3.mono Hb4.out.size)
    have B4 : Byt (w5.alloc (.cells #[.int .u8 ((D : Int) / 256), .int .u8 ((D : Int) % 256)] 5)) (.slice (some ⟨w5.heap.size, 0, none⟩) 2 2) (be2 D) := by
      have := byt_lit w5 (be2 D); rw [be2_bv D hd] at this; exact this
    obtain ⟨v6, w6, hrun, h2, h3, h4⟩ := run_append_own_src (w5.alloc (.cells #[.int .u8 ((D : Int) / 256), .int .u8 ((D : Int) % 256)] 5)) w4.heap.size l.length r5 _ l (be2 D) 22 (ho.alloc _) B4 (by simp [be2]; omega) (by have := b3.size; simp; omega)
    have hx : Below w4.heap.size w4 w6 := (b3.alloc b3.size _).grown h3 (by have := b3.size; simp; omega) (fun b hb => (ho.lt b hb).1)
    have Hrun := Lib.hid hrun; have HB6 := Lib.hid (Byt.of_own h2); have Hb6 := Lib.hid (Hb4.out.trans (hx.mono Hb4.out.size))
    have HB5 := Lib.hid (HB4.out.below hx)
    clear hrun h2 h3 h4 hx hbB B4 ho b3 HB4
    have hl2 : (l ++ be2 D).length ≤ maxLen := by unfold maxLen; simp [be2]; omega
    generalize l ++ be2 D = Y at *
    have Hl2 := Lib.hid hl2; clear hl2
    obtain ⟨A6, c6, rfl, -, -⟩ := HB6.out
    go_wp2_with (at_builtin; refine wpList_append_run rfl (.tmp 31) (.tmp 37) 22 22 rfl _ _ _ w6 rfl rfl Hrun.out ?_)
    have K32 := Lib.hid (show Calls Tryd.prog 12 _ w6 fun e w' => e = .returned (.int .u32 1214729159) ∧ Below w6.heap.size w6 w' from by have := CRC32C_any _ _ w6 (HT.out.below Hb6.out) HB5.out Hl4.out; rwa [HR32.out] at this)
    refine K32.out.mono ?_
    rintro e w7 ⟨rfl, b7⟩
    have HB7 := Lib.hid (HB6.out.below b7)
    have Hb7 := Lib.hid (Hb6.out.trans (b7.mono Hb6.out.size))
    have K16 := Lib.hid (show Calls Tryd.prog 15 _ w7 fun e w' => e = .returned (.int .u16 0) ∧ Below w7.heap.size w7 w' from by have := CRC16_any _ _ w7 (HT.out.below Hb7.out) HB7.out Hl2.out; rwa [HR16.out] at this)
    clear b7
    go_wp2_with fail
    refine K16.out.mono ?_
    rintro e w8 ⟨rfl, b8⟩
    have Hb8 := Lib.hid (Hb7.out.trans (b8.mono Hb7.out.size)); clear b8
    go_wp2_with fail
    refine (known_any _ (HT.out.below Hb8.out)).mono ?_
    rintro e w3 ⟨rfl, hb3⟩
    have Hb3 := Lib.hid (Hb8.out.trans (hb3.mono Hb8.out.size)); clear hb3
    go_wp2
    go_ret
    exact ⟨rfl, Hb3.out⟩

set_option maxRecDepth 100000 in
theorem lifted (os : Os) (started : os.Started) (H : Type) (enc : TypeId × Value → H) :
    ReturnsInHanded {} Tryd.checked os 7 .any (fun w args => (Rows.digestResidueSpec.pre enc Tryd.prog Tryd.f7 Rows.digestResidueRow.domain false w args ∧ laidMetH Tryd.prog Rows.digestResidueRow.laid w) ∧ sizedMet enc Tryd.prog Tryd.f7 (OpenSpec.ofChange Rows.digestResidueSpec) false w args)
      (Rows.digestResidueSpec.post enc Tryd.prog Tryd.f7 false true false false) := by
  refine returnsInHanded_of_change_and (C := Tryd.checked) (X := fun w _ => laidMetH Tryd.prog Rows.digestResidueRow.laid w) (fun _ _ _ hh h => h.of_heap hh) own started (by kernel_rfl) Tryd.func7
    (ChangeSpec.witness_shaped (enc := enc) (C := Tryd.checked) (os := os) (X := fun w _ => laidMetH Tryd.prog Rows.digestResidueRow.laid w) false (World.laidAll Tryd.prog os Rows.digestResidueRow.laid) #[.slice none 0 0] 8 (World.laidAll_os _ _ _)
      (World.shaped_of_ZipB (by kernel_rfl) (by kernel_rfl)) (by kernel_rfl) (by kernel_rfl) (by kernel_rfl)
      (by rw [MakeChecks.laidMetH_plain _ _ _ (by kernel_rfl)]; exact laidMet_laidAll _ (by kernel_rfl) (by kernel_rfl))) ?_
  intro W base args ds gs before hval0 hW _ hsz hL _
  have hval : ∀ (j : Nat) t v, Tryd.f7.params[j]? = some t → args[j]? = some v → Value.okWide Tryd.prog W .any base t v := hval0
  have hW' := hW
  have hlt := hW.lt
  obtain ⟨p, q, hA0, hV, rfl, _, _⟩ := hW
  have hA : DataW.TrodAll enc Tryd.prog W 0 (fun _ => true) true Tryd.f7.params.toList args.toList ds p := hA0
  have hAk := hA
  rw [Tryd.params7] at hA hval
  obtain ⟨v0, vs0, d0, ds0, p0, q0, hargs, rfl, rfl, h0, r0⟩ := trodAll_cons hA
  obtain ⟨rfl, rfl, rfl⟩ := trodAll_nil r0
  obtain rfl : args = #[v0] := by cases args; simp_all
  obtain ⟨rfl, rfl⟩ := trodVars_none hV
  obtain ⟨l, hB, hm⟩ := open_byt (hval 0 22 v0 rfl rfl) h0
  refine (walk v0 l W hB hm (tabs_of_laid hL)).mono fun e W' ⟨he, hb⟩ => ?_
  subst he
  exact ⟨_, rfl, _, _, _, [], _, [], hW', trodAll_mk1 (shut_bool Tryd.underlying4 _), args_back hb (by kernel_rfl) hAk (fun x hx => hlt x (List.mem_append_left _ hx)), rfl, hb.frame _, fun h => by cases h⟩

theorem holds : Rows.DigestResidueSaid :=
  OpenClaim.holds_of_wide 7 Tryd.f7 rfl rfl rfl rfl rfl rfl rfl ⟨rfl, rfl, rfl, rfl, rfl⟩ rfl rfl rfl rfl rfl (by kernel_rfl) Tryd.func7 (by kernel_rfl)
    (of_decide_eq_true (by kernel_rfl)) (by unfold Func.isWrapper; first | (rw [if_pos (by decide +kernel)]; kernel_rfl) | (rw [if_neg (by decide +kernel)]; exact ⟨rfl, rfl⟩))
    (fun os started H enc _ => lifted os started H enc)
theorem card_holds : Rows.DigestResidueCardSaid :=
  Claim7.holds_tied_plain_at .later [] [.data, .data] true Rows.digestResidueCard.stood.harness false holds (fun _ h => by cases h) (by kernel_rfl) (fun _ h => by cases h) digestResidue_row_tie rfl ⟨rfl, rfl⟩ (by kernel_rfl) rfl
    (fun f fn hf hfn => by
      obtain rfl : f = 7 := Option.some.inj ((show Tryd.prog.funcNamed Rows.digestResidueRow.func = some 7 by kernel_rfl).symm.trans hf) |>.symm
      obtain rfl : fn = Tryd.f7 := (Option.some.inj (Tryd.func7.symm.trans hfn)).symm
      exact ⟨by kernel_rfl, fun j t ht => by
        rw [Tryd.params7] at ht
        have hm : t ∈ [22] := by simpa using Array.mem_of_getElem? ht
        have hall : ([22].all fun u => !Tryd.prog.wantsStandIn u) = true := by kernel_rfl
        exact (show Tryd.prog.wantsStandIn t = false by simpa using List.all_eq_true.1 hall t hm)⟩)
    (by kernel_rfl)
end Go.Proofs.YtijbkjkienjdaaaDoor.DigestResidue
namespace Go.Proofs.YtijbkjkienjdaaaDoor
theorem digestResidue_card : Rows.DigestResidueCardSaid := DigestResidue.card_holds
end Go.Proofs.YtijbkjkienjdaaaDoor
