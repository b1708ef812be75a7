/- DigestParts: for every list of parts the law returns true, and its arguments read as before; the row, and the card that ties both tables of package digest to the program's text. No condition. -/
import Derived.Test.YtijbkjkienjdaaaDoorP
import Derived.Test.YtijbkjkienjdaaaDoorTie
import Derived.Test.YtijbkjkienjdaaaDoorCards
import Derived.LaidMore
import Derived.Lay
import Derived.SevenTiedAt
import Derived.Stop.Joined
namespace Go.Proofs.YtijbkjkienjdaaaDoor.DigestParts
open Go.ChangeShapes Go.WideShapes Go.ChangeAt Go.RowKit
set_option linter.unusedVariables false
set_option maxHeartbeats 1000000

theorem flat_len (ls : List (List UInt8)) (h : ∀ l ∈ ls, l.length ≤ 200) : ls.flatten.length ≤ 200 * ls.length := by
  induction ls with
  | nil => simp
  | cons a ls ih =>
    have h1 := h a (by simp)
    have h2 := ih (fun l hl => h l (by simp [hl]))
    simp only [List.flatten_cons, List.length_append, List.length_cons]; omega
theorem take_flat (ls : List (List UInt8)) (k : Nat) (h : k < ls.length) : (ls.take (k + 1)).flatten = (ls.take k).flatten ++ ls[k] := by
  rw [List.take_succ_eq_append_getElem h]; simp only [List.flatten_append, List.flatten_cons, List.flatten_nil, List.append_nil]
theorem few (ls : List (List UInt8)) (k : Nat) (h : k < ls.length) (h1 : ∀ l ∈ ls.take k, l.length ≤ 200) (h2 : ls[k].length ≤ 200) : ∀ l ∈ ls.take (k + 1), l.length ≤ 200 := by
  rw [List.take_succ_eq_append_getElem h]
  intro l hl
  rcases List.mem_append.1 hl with h' | h'
  · exact h1 l h'
  · simp at h'; subst h'; exact h2
def Inv (w : World) (ls : List (List UInt8)) (k : Nat) (u : Value) (wr : World) : Prop :=
  wr.ownsRow w.heap.size 5 1 u (ls.take k).flatten.length (bv (ls.take k).flatten) ∧ Below w.heap.size w wr ∧ ∀ l ∈ ls.take k, l.length ≤ 200
set_option maxRecDepth 100000 in
theorem walk (v : Value) (ls : List (List UInt8)) (w : World) (h : Rws w v ls) (hl : ls.length ≤ maxLen) (hll : ∀ l ∈ ls, l.length ≤ maxLen) (hT : Tabs w) : Calls Tryd.prog 6 #[v] w fun e w' => e = .returned (.bool true) ∧ Below w.heap.size w w' := by
  have Hll := Lib.hid hll; have Hl := Lib.hid hl; clear hll
  unfold maxLen at hl
  have H := Lib.hid h
  have HT := Lib.hid hT; clear hT
  obtain ⟨A, c, rfl, hr⟩ := h
  have Hr := Lib.hid hr; clear hr
  by_cases hbig : 20 < ls.length
  · go_enter Tryd.func6, Tryd.ntmps6
    go_wp2_with fail
    refine (known_any _ HT.out).mono ?_
    rintro e w3 ⟨rfl, hb3⟩
    have Hb3 := Lib.hid hb3; clear hb3
    go_wp2
    go_ret
    exact ⟨rfl, Hb3.out⟩
  · go_enter Tryd.func6, Tryd.ntmps6
    go_wp2
    go_loopw [3, 4] (fun u i wr => ∃ k : Nat, k ≤ ls.length ∧ i = .int .i64 k ∧ Inv w ls k u wr) (fun _ i _ => ls.length - (intOf i).toNat)
    case atStart => exact ⟨0, Nat.zero_le _, rfl, World.ownsRow_nil _ _ _ _, Below.refl _ _, by simp⟩
    case round =>
      obtain ⟨k, hk, rfl, hI⟩ := hrel
      have HI := Lib.hid hI; clear hI
      by_cases hlt : k < ls.length
      · obtain ⟨g, o, rfl, hg, hc⟩ := Hr.out (by omega)
        obtain ⟨u, hu, hB⟩ := hc k hlt
        have hlk := Hll.out ls[k] (List.getElem_mem hlt)
        have hu' := (HI.out.2.1.cell (p := ⟨g, o + k, none⟩) hg).trans hu
        have HB := Lib.hid (hB.below HI.out.2.1)
        obtain ⟨A', c', rfl, -, -⟩ := hB
        have i0 : (0 : Int) ≤ k := by omega
        have i1 : (k : Int) < ls.length := by omega
        clear hc hu
        unfold maxLen at hlk
        by_cases h200 : 200 < ls[k].length
        · generalize hx : ls[k].length = x at *
          have Hx := Lib.hid hx; clear hx
          go_wp2_with fail
          refine (known_any _ (HT.out.below HI.out.2.1)).mono ?_
          rintro e w3 ⟨rfl, hb3⟩
          have Hb3 := Lib.hid (HI.out.2.1.trans (hb3.mono HI.out.2.1.size)); clear hb3
          go_wp2
          go_ret
          exact ⟨rfl, Hb3.out⟩
        · have hf := flat_len _ HI.out.2.2
          have hlen : (ls.take k).length ≤ 20 := by simp; omega
          obtain ⟨v1, w1, hrun, h2, h3, -⟩ := run_append_own_src wr w.heap.size (ls.take k).flatten.length _ _ _ ls[k] 22 HI.out.1 HB.out (by omega) HI.out.2.1.size
          have Hrun := Lib.hid hrun
          have hI2 : Inv w ls (k + 1) v1 w1 := by
            refine ⟨?_, HI.out.2.1.grown h3 HI.out.2.1.size (fun b hb => (HI.out.1.lt b hb).1), few ls k hlt HI.out.2.2 (by omega)⟩
            rw [take_flat ls k hlt, List.length_append]; exact h2
          have HI2 := Lib.hid hI2
          clear hrun h2 h3 hI2 hf hlen
          generalize hx : ls[k].length = x at *
          have Hx := Lib.hid hx; clear hx
          go_wp2_with (at_builtin; refine wpList_append_run rfl (.tmp 22) (.tmp 26) 22 22 rfl _ _ v1 w1 rfl rfl Hrun.out ?_)
          go_roundw
          case rel => exact ⟨k + 1, by omega, by go_num, HI2.out⟩
          case measure => simp [intOf]; omega
      · have e : ls.take k = ls := List.take_of_length_le (by omega)
        have HI3 : Hid (Inv w ls ls.length _ wr) := Lib.hid (by have := HI.out; unfold Inv at *; rw [e] at this; rw [List.take_length]; exact this)
        clear e
        have HB := Lib.hid (Byt.of_own (by have := HI3.out.1; rwa [List.take_length] at this))
        have hf : ls.flatten.length ≤ 4000 := by have := flat_len _ HI3.out.2.2; rw [List.take_length] at this; omega
        have HW := Lib.hid HI3.out.2.1
        clear HI HI3
        have S32 := Sum32_any _ ls _ (HT.out.below HW.out) (H.out.below HW.out) Hl.out Hll.out
        have S16 := Sum16_any _ ls _ (HT.out.below HW.out) (H.out.below HW.out) Hl.out Hll.out
        generalize ls.flatten = F at *
        have H32 := Lib.hid S32; have H16 := Lib.hid S16; clear S32 S16
        obtain ⟨A1, c1, rfl, -, -⟩ := HB.out
        go_wp2_with fail
        refine H32.out.mono ?_
        rintro e w1 ⟨rfl, rfl⟩
        go_wp2_with fail
        refine (refCRC32 _ F _ HB.out (by unfold maxLen; omega)).mono ?_
        rintro e w1 ⟨rfl, rfl⟩
        go_wp2_with fail
        refine H16.out.mono ?_
        rintro e w1 ⟨rfl, rfl⟩
        go_wp2_with fail
        refine (refCRC16 _ F _ HB.out (by unfold maxLen; omega)).mono ?_
        rintro e w1 ⟨rfl, rfl⟩
        go_wp2_with fail
        refine (known_any _ (HT.out.below HW.out)).mono ?_
        rintro e w3 ⟨rfl, hb3⟩
        have Hb3 := Lib.hid (HW.out.trans (hb3.mono HW.out.size)); clear hb3
        go_wp2
        go_ret
        exact ⟨rfl, Hb3.out⟩

set_option maxRecDepth 100000 in
theorem lifted (os : Os) (started : os.Started) (H : Type) (enc : TypeId × Value → H) :
    ReturnsInHanded {} Tryd.checked os 6 .any (fun w args => (Rows.digestPartsSpec.pre enc Tryd.prog Tryd.f6 Rows.digestPartsRow.domain false w args ∧ laidMetH Tryd.prog Rows.digestPartsRow.laid w) ∧ sizedMet enc Tryd.prog Tryd.f6 (OpenSpec.ofChange Rows.digestPartsSpec) false w args)
      (Rows.digestPartsSpec.post enc Tryd.prog Tryd.f6 false true false false) := by
  refine returnsInHanded_of_change_and (C := Tryd.checked) (X := fun w _ => laidMetH Tryd.prog Rows.digestPartsRow.laid w) (fun _ _ _ hh h => h.of_heap hh) own started (by kernel_rfl) Tryd.func6
    (ChangeSpec.witness_shaped (enc := enc) (C := Tryd.checked) (os := os) (X := fun w _ => laidMetH Tryd.prog Rows.digestPartsRow.laid w) false (World.laidAll Tryd.prog os Rows.digestPartsRow.laid) #[.slice none 0 0] 8 (World.laidAll_os _ _ _)
      (World.shaped_of_ZipB (by kernel_rfl) (by kernel_rfl)) (by kernel_rfl) (by kernel_rfl) (by kernel_rfl)
      (by rw [MakeChecks.laidMetH_plain _ _ _ (by kernel_rfl)]; exact laidMet_laidAll _ (by kernel_rfl) (by kernel_rfl))) ?_
  intro W base args ds gs before hval0 hW _ hsz hL _
  have hval : ∀ (j : Nat) t v, Tryd.f6.params[j]? = some t → args[j]? = some v → Value.okWide Tryd.prog W .any base t v := hval0
  have hW' := hW
  have hlt := hW.lt
  obtain ⟨p, q, hA0, hV, rfl, _, _⟩ := hW
  have hA : DataW.TrodAll enc Tryd.prog W 0 (fun _ => true) true Tryd.f6.params.toList args.toList ds p := hA0
  have hAk := hA
  rw [Tryd.params6] at hA hval
  obtain ⟨v0, vs0, d0, ds0, p0, q0, hargs, rfl, rfl, h0, r0⟩ := trodAll_cons hA
  obtain ⟨rfl, rfl, rfl⟩ := trodAll_nil r0
  obtain rfl : args = #[v0] := by cases args; simp_all
  obtain ⟨rfl, rfl⟩ := trodVars_none hV
  obtain ⟨ls, hB, hm, hm2⟩ := open_rws (hval 0 34 v0 rfl rfl) h0
  refine (walk v0 ls W hB hm hm2 (tabs_of_laid hL)).mono fun e W' ⟨he, hb⟩ => ?_
  subst he
  exact ⟨_, rfl, _, _, _, [], _, [], hW', trodAll_mk1 (shut_bool Tryd.underlying4 _), args_back hb (by kernel_rfl) hAk (fun x hx => hlt x (List.mem_append_left _ hx)), rfl, hb.frame _, fun h => by cases h⟩

theorem holds : Rows.DigestPartsSaid :=
  OpenClaim.holds_of_wide 6 Tryd.f6 rfl rfl rfl rfl rfl rfl rfl ⟨rfl, rfl, rfl, rfl, rfl⟩ rfl rfl rfl rfl rfl (by kernel_rfl) Tryd.func6 (by kernel_rfl)
    (of_decide_eq_true (by kernel_rfl)) (by unfold Func.isWrapper; first | (rw [if_pos (by decide +kernel)]; kernel_rfl) | (rw [if_neg (by decide +kernel)]; exact ⟨rfl, rfl⟩))
    (fun os started H enc _ => lifted os started H enc)
theorem card_holds : Rows.DigestPartsCardSaid :=
  Claim7.holds_tied_plain_at .later [] [.data, .data] true Rows.digestPartsCard.stood.harness false holds (fun _ h => by cases h) (by kernel_rfl) (fun _ h => by cases h) digestParts_row_tie rfl ⟨rfl, rfl⟩ (by kernel_rfl) rfl
    (fun f fn hf hfn => by
      obtain rfl : f = 6 := Option.some.inj ((show Tryd.prog.funcNamed Rows.digestPartsRow.func = some 6 by kernel_rfl).symm.trans hf) |>.symm
      obtain rfl : fn = Tryd.f6 := (Option.some.inj (Tryd.func6.symm.trans hfn)).symm
      exact ⟨by kernel_rfl, fun j t ht => by
        rw [Tryd.params6] at ht
        have hm : t ∈ [34] := by simpa using Array.mem_of_getElem? ht
        have hall : ([34].all fun u => !Tryd.prog.wantsStandIn u) = true := by kernel_rfl
        exact (show Tryd.prog.wantsStandIn t = false by simpa using List.all_eq_true.1 hall t hm)⟩)
    (by kernel_rfl)
end Go.Proofs.YtijbkjkienjdaaaDoor.DigestParts
namespace Go.Proofs.YtijbkjkienjdaaaDoor
theorem digestParts_card : Rows.DigestPartsCardSaid := DigestParts.card_holds
end Go.Proofs.YtijbkjkienjdaaaDoor
