/- The chapter's examples: the function known returns true and changes nothing that was there. No condition. -/
import Derived.Test.YtmolpnhgmdpdmaaDoorTm
import Derived.Lib.SlBytesConst
namespace Go.Proofs.YtmolpnhgmdpdmaaDoor
open Go.RowKit
set_option linter.unusedVariables false
set_option maxHeartbeats 1000000

theorem byt_lit (w : World) (l : List UInt8) (fr : Nat × Nat := (0, 0)) : Byt (w.alloc (.cells (bv l).toArray 5 fr)) (.slice (some ⟨w.heap.size, 0, none⟩) l.length l.length) l := by
  refine ⟨_, l.length, rfl, Nat.le_refl _, fun _ => ⟨w.heap.size, 0, rfl, by simp, fun j hj => ?_⟩⟩
  rw [Nat.zero_add, cell_of_row _ w.heap.size j _ 5 fr (heap_alloc_new w _), List.getElem?_toArray, bv_get hj]
theorem kPut1 (w : World) : Calls Tryd.prog 11 #[.int .u64 258, .int .i64 4] w (BytErr w [2, 1, 0, 0] 0) := by
  have h := Put_any 258 4 w (by decide)
  rwa [show putL 258 4 = [2, 1, 0, 0] by decide +kernel, show putE 258 4 = 0 by decide +kernel] at h
theorem kPut2 (w : World) : Calls Tryd.prog 11 #[.int .u64 256, .int .i64 1] w (BytErr w [] 3) := by
  have h := Put_any 256 1 w (by decide)
  rwa [show putL 256 1 = [] by decide +kernel, show putE 256 1 = 3 by decide +kernel] at h
theorem kPut3 (w : World) : Calls Tryd.prog 11 #[.int .u64 0, .int .i64 9] w (BytErr w [] 2) := by
  have h := Put_any 0 9 w (by decide)
  rwa [show putL 0 9 = [] by decide +kernel, show putE 0 9 = 2 by decide +kernel] at h
theorem kGet (w : World) : Calls Tryd.prog 15 #[.slice (some ⟨w.heap.size, 0, none⟩) 2 2] (w.alloc (.cells #[.int .u8 2, .int .u8 1] 5)) fun e w' => e = .returned (.tuple #[.int .u64 258, .int .i64 0]) ∧ Below w.heap.size w w' := by
  have h := Get_any _ [2, 1] _ (byt_lit w [2, 1]) (by decide)
  rw [show getZ [2, 1] = 258 by decide +kernel, show getE [2, 1] = 0 by decide +kernel] at h
  exact h.mono fun e w' ⟨h1, h2⟩ => ⟨h1, h2 ▸ (Below.refl _ _).alloc (Nat.le_refl _) _⟩
theorem kField (w : World) : Calls Tryd.prog 17 #[.int .u64 64206, .int .i64 4, .int .i64 8] w fun e w' => e = .returned (.tuple #[.int .u64 172, .int .i64 0]) ∧ Below w.heap.size w w' := by
  have h := Field_ok 64206 4 8 w (by decide) (by decide) (by decide) (by decide) (by decide)
  rwa [show ((fieldN (64206 : Int).toNat (4 : Int).toNat (8 : Int).toNat : Nat) : Int) = 172 by decide +kernel] at h
theorem kInsert (w : World) : Calls Tryd.prog 19 #[.int .u64 64206, .int .i64 4, .int .i64 8, .int .u64 1] w fun e w' => e = .returned (.tuple #[.int .u64 61470, .int .i64 0]) ∧ Below w.heap.size w w' := by
  have h := Insert_ok 64206 4 8 1 w (by decide) (by decide) (by decide) (by decide) (by decide) (by decide) (by decide +kernel)
  rwa [show ((insN (64206 : Int).toNat (4 : Int).toNat (8 : Int).toNat (1 : Int).toNat : Nat) : Int) = 61470 by decide +kernel] at h
theorem kSame (w : World) (va : Value) (h : Byt w va [2, 1, 0, 0]) : Calls Tryd.prog 13 #[va, .slice (some ⟨w.heap.size, 0, none⟩) 4 4] (w.alloc (.cells #[.int .u8 2, .int .u8 1, .int .u8 0, .int .u8 0] 5)) fun e w' => e = .returned (.bool true) ∧ Below w.heap.size w w' := by
  refine (Same_eq va _ [2, 1, 0, 0] _ (h.below ((Below.refl _ _).alloc (Nat.le_refl _) _)) (byt_lit w [2, 1, 0, 0])).mono ?_
  exact fun e w' ⟨h1, h2⟩ => ⟨h1, h2 ▸ (Below.refl _ _).alloc (Nat.le_refl _) _⟩
theorem kPad1 (w : World) : Calls Tryd.prog 21 #[.string ⟨#[97, 98]⟩, .int .i64 4] w (BytErr w [97, 98, 32, 32] 0) := by
  have h := Pad_any ⟨#[97, 98]⟩ 4 w (by decide)
  rwa [show padL (⟨#[97, 98]⟩ : ByteArray).data.toList 4 = [97, 98, 32, 32] by decide +kernel, show padE (⟨#[97, 98]⟩ : ByteArray).data.toList 4 = 0 by decide +kernel] at h
theorem kPad2 (w : World) : Calls Tryd.prog 21 #[.string ⟨#[97, 98, 99]⟩, .int .i64 2] w (BytErr w [] 5) := by
  have h := Pad_any ⟨#[97, 98, 99]⟩ 2 w (by decide)
  rwa [show padL (⟨#[97, 98, 99]⟩ : ByteArray).data.toList 2 = [] by decide +kernel, show padE (⟨#[97, 98, 99]⟩ : ByteArray).data.toList 2 = 5 by decide +kernel] at h
theorem kText (w : World) : Calls Tryd.prog 23 #[.slice (some ⟨w.heap.size, 0, none⟩) 4 4] (w.alloc (.cells #[.int .u8 97, .int .u8 98, .int .u8 32, .int .u8 32] 5 (4, 5))) fun e w' => e = .returned (.tuple #[.string ⟨#[97, 98]⟩, .int .i64 0]) ∧ Below w.heap.size w w' := by
  have h := Text_any _ [97, 98, 32, 32] _ (byt_lit w [97, 98, 32, 32] (4, 5)) (by decide)
  rw [show textL [97, 98, 32, 32] = [97, 98] by decide +kernel, show textE [97, 98, 32, 32] = 0 by decide +kernel] at h
  exact h.mono fun e w' ⟨h1, h2⟩ => ⟨h1, h2 ▸ (Below.refl _ _).alloc (Nat.le_refl _) _⟩
/-- A new writer. -/
theorem wr_new (w : World) : Wr (w.alloc (.cells #[.slice none 0 0] 52)) w.heap.size (.slice none 0 0) [] := ⟨heap_alloc_new w _, World.ownsRow_nil _ _ _ _, by simp⟩
theorem kAdd (w : World) : Calls Tryd.prog 40 #[.pointer (some ⟨w.heap.size, 0, none⟩), .int .u64 5, .int .i64 2] (w.alloc (.cells #[.slice none 0 0] 52)) fun e w' => e = .returned (.int .i64 0) ∧ (∃ v, Wr w' w.heap.size v [5, 0] ∧ ∀ b, v.ownBlock = some b → w.heap.size ≤ b) ∧ Below w.heap.size w w' := by
  refine (Add_ok w.heap.size _ 5 2 [] _ (wr_new w) (by decide) (by decide +kernel)).mono ?_
  rintro e w' ⟨rfl, v, hw, hc, ha⟩
  refine ⟨rfl, ⟨v, ?_, fun b hb => ?_⟩, ?_⟩
  · have e : ([] : List UInt8) ++ putB (5 : Int).toNat (2 : Int).toNat = [5, 0] := by decide +kernel
    rwa [e] at hw
  · rcases ha with e | ⟨b', e, hb'⟩
    · rw [e] at hb; simp [Value.ownBlock] at hb
    · rw [e] at hb; injection hb with hb; subst hb; simp at hb'; omega
  · exact ((Below.refl _ _).alloc (Nat.le_refl _) _).trans (hc.below (by simp) (fun i hi => by rcases hi with rfl | hi; exact Nat.le_refl _; simp [Value.ownBlock] at hi))
theorem kZero (w0 w : World) (g : Nat) (v : Value) (h : Wr w g v [5, 0]) (hv : ∀ b, v.ownBlock = some b → w0.heap.size ≤ b) (hg : w0.heap.size ≤ g) (hb : Below w0.heap.size w0 w) :
    Calls Tryd.prog 37 #[.pointer (some ⟨g, 0, none⟩), .int .i64 1] w fun e w' => e = .returned (.int .i64 0) ∧ (∃ v, Wr w' g v [5, 0, 0]) ∧ Below w0.heap.size w0 w' := by
  refine (show Calls Tryd.prog 37 #[.pointer (some ⟨g, 0, none⟩), .int .i64 1] w (WPost w g v [5, 0, 0] 0) from Zero_ok g 1 v [5, 0] w h (by decide)).mono ?_
  rintro e w' ⟨rfl, v', hw, hc, ha⟩
  exact ⟨rfl, ⟨v', hw⟩, hb.trans (hc.below hb.size (fun i hi => by rcases hi with rfl | hi; exact hg; exact hv i hi))⟩
theorem kNext1 (w0 w : World) (g : Nat) (vd : Value) (h : Rd w g vd [5, 0, 0] 0) (hg : w0.heap.size ≤ g) (hb : Below w0.heap.size w0 w) :
    Calls Tryd.prog 41 #[.pointer (some ⟨g, 0, none⟩), .int .i64 2] w fun e w' => e = .returned (.tuple #[.int .u64 5, .int .i64 0]) ∧ Rd w' g vd [5, 0, 0] 2 ∧ Below w0.heap.size w0 w' := by
  have hf := field_ok g vd [5, 0, 0] 0 2 w h (by decide) (by decide) (by decide)
  rw [show ((getV (([5, 0, 0] : List UInt8).drop 0 |>.take 2) : Nat) : Int) = 5 by decide +kernel] at hf
  refine (Next_of g 2 w _ _ vd _ _ hf).mono ?_
  rintro e w' ⟨rfl, h1, h2⟩
  exact ⟨rfl, h1, hb.trans (h2.below hb.size (fun i hi => by subst hi; exact hg))⟩
theorem kZeros (w0 w : World) (g : Nat) (vd : Value) (h : Rd w g vd [5, 0, 0] 2) (hg : w0.heap.size ≤ g) (hb : Below w0.heap.size w0 w) :
    Calls Tryd.prog 43 #[.pointer (some ⟨g, 0, none⟩), .int .i64 1] w fun e w' => e = .returned (.int .i64 0) ∧ Rd w' g vd [5, 0, 0] 3 ∧ Below w0.heap.size w0 w' := by
  refine (show Calls Tryd.prog 43 #[.pointer (some ⟨g, 0, none⟩), .int .i64 1] w (RPost w g vd [5, 0, 0] 3 (.int .i64 0)) from Zeros_ok g vd [5, 0, 0] 2 1 w h (by decide) (by decide)).mono ?_
  rintro e w' ⟨rfl, h1, h2⟩
  exact ⟨rfl, h1, hb.trans (h2.below hb.size (fun i hi => by subst hi; exact hg))⟩
theorem kNext2 (w0 w : World) (g : Nat) (vd : Value) (h : Rd w g vd [5, 0, 0] 3) (hg : w0.heap.size ≤ g) (hb : Below w0.heap.size w0 w) :
    Calls Tryd.prog 41 #[.pointer (some ⟨g, 0, none⟩), .int .i64 1] w fun e w' => e = .returned (.tuple #[.int .u64 0, .int .i64 4]) ∧ Below w0.heap.size w0 w' := by
  refine (Next_of g 1 w _ _ vd _ _ (field_short g vd [5, 0, 0] 3 1 w h (by decide) (by decide) (by decide))).mono ?_
  rintro e w' ⟨rfl, h1, h2⟩
  exact ⟨rfl, hb.trans (h2.below hb.size (fun i hi => by subst hi; exact hg))⟩
set_option maxRecDepth 100000 in
theorem known_any (w : World) : Calls Tryd.prog 14 #[] w fun e w' => e = .returned (.bool true) ∧ Below w.heap.size w w' := by
  go_enter Tryd.func14, Tryd.ntmps14
  go_wp2_with fail
  refine (kPut1 _).mono ?_
  rintro e w1 ⟨va, rfl, hB, hb⟩
  have HB := Lib.hid hB; have Hb := Lib.hid hb; clear hB hb
  go_wp2_with fail
  refine (kPut2 _).mono ?_
  rintro e w2 ⟨vb, rfl, -, hb⟩
  replace HB := Lib.hid (HB.out.below hb); replace Hb := Lib.hid (Hb.out.trans (hb.mono Hb.out.size)); clear hb
  go_wp2_with fail
  refine (kPut3 _).mono ?_
  rintro e w3 ⟨vc, rfl, -, hb⟩
  replace HB := Lib.hid (HB.out.below hb); replace Hb := Lib.hid (Hb.out.trans (hb.mono Hb.out.size)); clear hb
  go_wp2_with fail
  refine (kGet _).mono ?_
  rintro e w4 ⟨rfl, hb⟩
  replace HB := Lib.hid (HB.out.below hb); replace Hb := Lib.hid (Hb.out.trans (hb.mono Hb.out.size)); clear hb
  go_wp2_with fail
  refine (kField _).mono ?_
  rintro e w5 ⟨rfl, hb⟩
  replace HB := Lib.hid (HB.out.below hb); replace Hb := Lib.hid (Hb.out.trans (hb.mono Hb.out.size)); clear hb
  go_wp2_with fail
  refine (kInsert _).mono ?_
  rintro e w6 ⟨rfl, hb⟩
  replace HB := Lib.hid (HB.out.below hb); replace Hb := Lib.hid (Hb.out.trans (hb.mono Hb.out.size)); clear hb
  go_wp2_with fail
  refine (kSame _ va HB.out).mono ?_
  rintro e w7 ⟨rfl, hb⟩
  clear HB; replace Hb := Lib.hid (Hb.out.trans (hb.mono Hb.out.size)); clear hb
  go_wp2_with fail
  refine (kPad1 _).mono ?_
  rintro e w8 ⟨vk, rfl, hB, hb⟩
  have HB := Lib.hid hB; replace Hb := Lib.hid (Hb.out.trans (hb.mono Hb.out.size)); clear hB hb
  go_wp2_with fail
  refine (kPad2 _).mono ?_
  rintro e w9 ⟨vm, rfl, -, hb⟩
  replace HB := Lib.hid (HB.out.below hb); replace Hb := Lib.hid (Hb.out.trans (hb.mono Hb.out.size)); clear hb
  have kc := Lib.run_convert_bytes_const (P := Tryd.prog) w9 23 5 #[.int .u8 97, .int .u8 98, .int .u8 32, .int .u8 32] 4 4 Tryd.underlying23 Tryd.underlying5
  go_wp2_with fail
  refine (kText _).mono ?_
  rintro e w10 ⟨rfl, hb⟩
  replace HB := Lib.hid (HB.out.below hb); replace Hb := Lib.hid (Hb.out.trans (hb.mono Hb.out.size)); clear hb kc
  go_wp2_with fail
  refine (kAdd w10).mono ?_
  rintro e w11 ⟨rfl, ⟨v11, hw11, hv11⟩, hb11⟩
  have HW := Lib.hid hw11; have HV := Lib.hid hv11; have HK := Lib.hid hb11; clear hw11 hv11 hb11
  go_wp2_with fail
  refine (kZero w10 w11 _ v11 HW.out HV.out (Nat.le_refl _) HK.out).mono ?_
  rintro e w12 ⟨rfl, ⟨v12, hw12⟩, hb12⟩
  clear HW HV HK
  have HW := Lib.hid hw12; have HK := Lib.hid hb12; clear hw12 hb12
  go_wp2_with fail
  refine (Bytes_any _ v12 _ _ HW.out).mono ?_
  rintro e w13 ⟨⟨v13, rfl, ho⟩, hb13⟩
  replace HK := Lib.hid (HK.out.trans (hb13.mono HK.out.size)); have HO := Lib.hid ho; clear ho hb13 HW
  go_wp2_with fail
  refine (NewReader_any v13 [5, 0, 0] _ (Byt.of_own HO.out) (by decide)).mono ?_
  rintro e w14 ⟨⟨g, vd, rfl, hg, -, hrd⟩, hb14⟩
  have Hg := Lib.hid (Nat.le_trans HK.out.size hg)
  replace HK := Lib.hid (HK.out.trans (hb14.mono HK.out.size)); have HR := Lib.hid hrd; clear hrd hb14 HO hg
  go_wp2_with fail
  refine (kNext1 w10 w14 g vd HR.out Hg.out HK.out).mono ?_
  rintro e w15 ⟨rfl, hrd, hb15⟩
  clear HR HK
  have HR := Lib.hid hrd; have HK := Lib.hid hb15; clear hrd hb15
  go_wp2_with fail
  refine (kZeros w10 w15 g vd HR.out Hg.out HK.out).mono ?_
  rintro e w16 ⟨rfl, hrd, hb16⟩
  clear HR HK
  have HR := Lib.hid hrd; have HK := Lib.hid hb16; clear hrd hb16
  go_wp2_with fail
  refine (kNext2 w10 w16 g vd HR.out Hg.out HK.out).mono ?_
  rintro e w17 ⟨rfl, hb17⟩
  have hst := run_string (P := Tryd.prog) 23 9 5 Tryd.underlying23 Tryd.underlying5 Tryd.underlying9 (HB.out.below hb17)
  replace Hb := Lib.hid (Hb.out.trans (hb17.mono Hb.out.size))
  clear hb17 HR HK HB Hg
  go_wp2
  go_ret
  exact ⟨rfl, Hb.out⟩
end Go.Proofs.YtmolpnhgmdpdmaaDoor
