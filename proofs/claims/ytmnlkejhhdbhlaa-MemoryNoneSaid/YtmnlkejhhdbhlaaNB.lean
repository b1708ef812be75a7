/- The walk of MemoryNone. Conditions stand in each theorem. -/
import Derived.Test.YtmnlkejhhdbhlaaN
import Derived.Deep.CutBlock
namespace Go.Proofs.Ytmnlkejhhdbhlaa
open Go.RowKit
set_option linter.unusedVariables false
set_option maxHeartbeats 8000000
set_option maxRecDepth 100000
/-- A box of a call. -/
def Ab (W : World) (q : Nat) (e : KA) : Prop := W.heap[q]? = some (.cells e.cells 40 (0, 0))
theorem Ab.below {W W' : World} {q : Nat} {e : KA} (h : Ab W q e) (hb : Below W.heap.size W W') : Ab W' q e := (hb.block q (Array.getElem?_eq_some_iff.1 h).1).trans h
theorem Ab.cells {W : World} {q : Nat} {e : KA} (h : Ab W q e) : W.cell? ⟨q, 1, none⟩ = some (.int .i64 e.n) ∧ W.cell? ⟨q, 2, none⟩ = some (.int .u64 (e.ad : Int)) ∧ W.cell? ⟨q, 3, none⟩ = some e.vb ∧ W.cell? ⟨q, 4, none⟩ = some (.int .u8 (e.x.toNat : Int)) := by
  have c := fun k => cell_of_row W q k _ 40 (0, 0) h
  exact ⟨c 1, c 2, c 3, c 4⟩
theorem acts_one {W : World} {e : KA} : Acts (W.alloc (.cells e.cells 40)) (.slice (some ⟨W.heap.size, 0, none⟩) 1 1) [e] := by
  have c := fun k => cell_of_row (W.alloc (.cells e.cells 40)) W.heap.size k _ 40 (0, 0) (heap_alloc_new W _)
  refine ⟨_, 1, rfl, fun _ => ⟨W.heap.size, 0, rfl, by simp, fun j hj => ?_⟩⟩
  obtain rfl : j = 0 := by simp at hj; omega
  exact ⟨c 0, c 1, c 2, c 3, c 4⟩
theorem few_one {W : World} {e : KA} (hok : KA.ok W e) : Calls Try.prog 9 #[.slice (some ⟨W.heap.size, 0, none⟩) 1 1, .int .i64 1] (W.alloc (.cells e.cells 40)) fun r w' => r = .returned (.bool (decide (e.l.length ≤ 5000))) ∧ W.alloc (.cells e.cells 40) = w' := by
  have h := few_any _ [e] 1 _ (acts_one (W := W) (e := e)) (fun e' he => by rw [List.mem_singleton.1 he]; exact ⟨hok.1.below (below_alloc W _), hok.2⟩) (by simp)
  have hf : fewB [e] 1 = decide (e.l.length ≤ 5000) := by simp [fewB]
  rw [hf] at h
  exact h
theorem logs_mi {w : World} {p : Option Addr} (h : Mi w p) : Calls Try.prog 18 #[.pointer p, .int .i64 0, .slice none 0 0, .int .i64 9] w (OkB w) :=
  logs_any (.pointer p) (.slice none 0 0) [] 9 w (fun W hW => Writes_mi (h.later hW)) (by simp) (Spn.nil w) 0 rfl
theorem reads_mi {w : World} {p : Option Addr} (h : Mi w p) (a n : Int) : Calls Try.prog 24 #[.pointer p, .int .u64 a, .int .i64 n, .string ⟨#[]⟩, .int .i64 1] w (OkB w) := reads_of _ a n 1 [] w (Read_mi h a n)
theorem m0_ne : decide (([] : List UInt8) = m0.B) = false := by
  refine decide_eq_false fun h => ?_
  have := congrArg List.length h
  rw [show m0.B.length = 4096 by simp [m0, Mm.new]] at this
  simp at this
theorem none_in (wh n : Int) (ad : Nat) (Au : Option Addr) (cu : Nat) (l : List UInt8) (x : UInt8) (z : Bool) (w : World) (hok : KA.ok w ⟨wh, n, ad, .slice Au l.length cu, l, x⟩) :
    Calls Try.prog 6 #[.agg #[.int .i64 wh, .int .i64 n, .int .u64 (ad : Int), .slice Au l.length cu, .int .u8 (x.toNat : Int)], .bool z] w (OkB w) := by
  obtain ⟨e, he⟩ : ∃ e : KA, e = ⟨wh, n, ad, .slice Au l.length cu, l, x⟩ := ⟨_, rfl⟩
  have hec : e.cells = #[.int .i64 wh, .int .i64 n, .int .u64 (ad : Int), .slice Au l.length cu, .int .u8 (x.toNat : Int)] := by rw [he]
  rw [← he] at hok
  have hb0 := below_alloc w (.cells #[.int .i64 wh, .int .i64 n, .int .u64 (ad : Int), .slice Au l.length cu, .int .u8 (x.toNat : Int)] 40)
  have hx0 : Ab (w.alloc (.cells #[.int .i64 wh, .int .i64 n, .int .u64 (ad : Int), .slice Au l.length cu, .int .u8 (x.toNat : Int)] 40)) w.heap.size e := by
    unfold Ab
    rw [hec]
    exact heap_alloc_new w _
  have hok1 : KA.ok (w.alloc (.cells #[.int .i64 wh, .int .i64 n, .int .u64 (ad : Int), .slice Au l.length cu, .int .u8 (x.toNat : Int)] 40)) e := ⟨hok.1.below hb0, hok.2⟩
  obtain ⟨w1, hw1⟩ : ∃ w1, w1 = w.alloc (.cells #[.int .i64 wh, .int .i64 n, .int .u64 (ad : Int), .slice Au l.length cu, .int .u8 (x.toNat : Int)] 40) := ⟨_, rfl⟩
  rw [← hw1] at hb0 hx0 hok1
  have HFe := few_one hok1
  rw [hec] at HFe
  have hel : e.l = l := by rw [he]
  rw [hel] at HFe
  have HF := Lib.hid HFe
  have c := fun k => cell_of_row w1 w.heap.size k _ 40 (0, 0) hx0
  have c0 := c 0
  have c1 := c 1
  have c2 := c 2
  have c3 := c 3
  have c4 := c 4
  rw [hec] at c0 c1 c2 c3 c4
  simp only [List.getElem?_toArray, List.getElem?_cons_zero, List.getElem?_cons_succ] at c0 c1 c2 c3 c4
  have HC : Hid (∀ W, Below w1.heap.size w1 W → W.cell? ⟨w.heap.size, 1, none⟩ = some (.int .i64 n) ∧ W.cell? ⟨w.heap.size, 2, none⟩ = some (.int .u64 (ad : Int)) ∧ W.cell? ⟨w.heap.size, 3, none⟩ = some (.slice Au l.length cu) ∧ W.cell? ⟨w.heap.size, 4, none⟩ = some (.int .u8 (x.toNat : Int))) := Lib.hid fun W hW => by
    have := (hx0.below hW).cells
    rw [he] at this
    exact this
  have HB0 := Lib.hid hb0
  have HW1 := Lib.hid hw1
  have HN := Lib.hid kp_new
  have HWK := Lib.hid works_any
  have hz := zero62
  generalize (x.toNat : Int) = xi at *
  generalize l.length = ln at *
  clear hx0 hok hok1 HFe hel hec he c hb0 hw1
  by_cases hbig : ln ≤ 5000
  · rw [decide_eq_true hbig] at HF
    clear hbig
    cases z
    · go_enter Try.func6, Try.ntmps6
      go_upto_region 1 with fail
      rw [← HW1.out]
      go_upto_region 6 with ((go_at_call 9; with_reducible refine HF.out.mono ?_); rintro r w' ⟨rfl, rfl⟩)
      have hv := below_alloc w1 (.cells #[.int .i64 wh, .int .i64 n, .int .u64 (ad : Int), .slice Au ln cu, .int .u8 xi] 40)
      generalize w1.alloc (.cells #[.int .i64 wh, .int .i64 n, .int .u64 (ad : Int), .slice Au ln cu, .int .u8 xi] 40) = V at *
      have HV := Lib.hid hv
      have HMI := Lib.hid (Mi.nil V)
      clear hv c0 c1 c2 c3 c4 HF HW1
      go_upto_region 7 with ((go_at_call 11; with_reducible refine (HN.out _).mono ?_); rintro r V1 ⟨b, d, rfl, hk⟩; have HK := Lib.hid (show Kp V b d 4096 m0 V1 from hk); have HM1 := Lib.hid (HMI.out.later hk.2); have HB1 := Lib.hid (HV.out.trans (hk.2.mono HV.out.size)); obtain ⟨d1, d2, d3, d4⟩ := HC.out _ (HV.out.trans (hk.2.mono HV.out.size)); clear hk)
      simp only [List.append]
      go_wp2_with (first
        | ((go_at_call 13; with_reducible refine (num_any _ _).mono ?_); rintro e w' ⟨rfl, rfl⟩)
        | ((go_at_call 22; with_reducible refine (Size_mi HM1.out).mono ?_); rintro r w' ⟨rfl, rfl⟩)
        | ((go_at_call 23; with_reducible refine (Check_mi HM1.out _ _).mono ?_); rintro r w' ⟨rfl, rfl⟩)
        | ((go_at_call 24; with_reducible refine (reads_mi HM1.out _ _).mono ?_); rintro r V2 ⟨rfl, hb⟩; have HM2 := Lib.hid (HM1.out.later hb); have HB2 := Lib.hid (HB1.out.trans (hb.mono HB1.out.size)); have HK2 := Lib.hid (HK.out.later hb); obtain ⟨e1, e2, e3, e4⟩ := HC.out _ HB2.out; clear hb)
        | ((go_at_call 16; with_reducible refine (Write_mi HM2.out _ _ _ _).mono ?_); rintro r V3 ⟨rfl, hb⟩; have HM3 := Lib.hid (HM2.out.later hb); have HB3 := Lib.hid (HB2.out.trans (hb.mono HB2.out.size)); have HK3 := Lib.hid (HK2.out.later hb); obtain ⟨f1, f2, f3, f4⟩ := HC.out _ HB3.out; clear hb)
        | ((go_at_call 25; with_reducible refine (Fill_mi HM3.out _ _ _).mono ?_); rintro r V4 ⟨rfl, hb⟩; have HM4 := Lib.hid (HM3.out.later hb); have HB4 := Lib.hid (HB3.out.trans (hb.mono HB3.out.size)); have HK4 := Lib.hid (HK3.out.later hb); clear hb)
        | ((go_at_call 18; with_reducible refine (logs_mi HM4.out).mono ?_); rintro r V5 ⟨rfl, hb⟩; have HM5 := Lib.hid (HM4.out.later hb); have HB5 := Lib.hid (HB4.out.trans (hb.mono HB4.out.size)); have HK5 := Lib.hid (HK4.out.later hb); have HS1 := Lib.hid (Same_any (Ba.of_mi HM5.out) (Ba.of_mi (Mi.nil V5))); have HS2 : Hid (Calls Try.prog 21 #[.pointer none, .pointer (some ⟨b, 0, none⟩)] V5 fun e w' => e = .returned (.bool false) ∧ V5 = w') := Lib.hid (by have := Same_any (Ba.of_mi HM5.out) (Ba.of_mem HK5.out.1); rw [m0_ne] at this; exact this); clear hb)
        | ((go_at_call 19; with_reducible refine (Clear_mi HM5.out).mono ?_); rintro r w' ⟨rfl, rfl⟩)
        | ((go_at_call 20; with_reducible refine (Copy_mi HM5.out).mono ?_); rintro r w' ⟨rfl, rfl⟩)
        | ((go_at_call 21; with_reducible refine HS2.out.mono ?_); rintro r w' ⟨rfl, rfl⟩)
        | ((go_at_call 21; with_reducible refine HS1.out.mono ?_); rintro r w' ⟨rfl, rfl⟩)
        | ((go_at_call 10; with_reducible refine (HWK.out _).mono ?_); rintro r V6 ⟨rfl, hb⟩; have HB6 := Lib.hid (HB5.out.trans (hb.mono HB5.out.size)); clear hb))
      go_ret
      exact ⟨rfl, HB0.out.trans (HB6.out.mono HB0.out.size)⟩
    · go_enter Try.func6, Try.ntmps6
      go_upto_region 1 with fail
      rw [← HW1.out]
      go_upto_region 6 with ((go_at_call 9; with_reducible refine HF.out.mono ?_); rintro r w' ⟨rfl, rfl⟩)
      have hv0 := below_alloc w1 (.cells #[.int .i64 wh, .int .i64 n, .int .u64 (ad : Int), .slice Au ln cu, .int .u8 xi] 40)
      have hs0 : (w1.alloc (.cells #[.int .i64 wh, .int .i64 n, .int .u64 (ad : Int), .slice Au ln cu, .int .u8 xi] 40)).heap.size = w1.heap.size + 1 := World.size_alloc _ _
      generalize w1.alloc (.cells #[.int .i64 wh, .int .i64 n, .int .u64 (ad : Int), .slice Au ln cu, .int .u8 xi] 40) = V0 at *
      have hv := hv0.trans ((below_alloc V0 (.cells zMem 62)).mono hv0.size)
      have hvm := Mi.zero (V0.alloc (.cells zMem 62)) V0.heap.size (heap_alloc_new V0 _)
      rw [hs0] at hvm
      generalize V0.alloc (.cells zMem 62) = V at *
      generalize w1.heap.size + 1 = qz at *
      have HV := Lib.hid hv
      have HMI := Lib.hid hvm
      clear hv hvm hv0 hs0 c0 c1 c2 c3 c4 HF HW1
      go_upto_region 7 with ((go_at_call 11; with_reducible refine (HN.out _).mono ?_); rintro r V1 ⟨b, d, rfl, hk⟩; have HK := Lib.hid (show Kp V b d 4096 m0 V1 from hk); have HM1 := Lib.hid (HMI.out.later hk.2); have HB1 := Lib.hid (HV.out.trans (hk.2.mono HV.out.size)); obtain ⟨d1, d2, d3, d4⟩ := HC.out _ (HV.out.trans (hk.2.mono HV.out.size)); clear hk)
      simp only [List.append]
      go_wp2_with (first
        | ((go_at_call 13; with_reducible refine (num_any _ _).mono ?_); rintro e w' ⟨rfl, rfl⟩)
        | ((go_at_call 22; with_reducible refine (Size_mi HM1.out).mono ?_); rintro r w' ⟨rfl, rfl⟩)
        | ((go_at_call 23; with_reducible refine (Check_mi HM1.out _ _).mono ?_); rintro r w' ⟨rfl, rfl⟩)
        | ((go_at_call 24; with_reducible refine (reads_mi HM1.out _ _).mono ?_); rintro r V2 ⟨rfl, hb⟩; have HM2 := Lib.hid (HM1.out.later hb); have HB2 := Lib.hid (HB1.out.trans (hb.mono HB1.out.size)); have HK2 := Lib.hid (HK.out.later hb); obtain ⟨e1, e2, e3, e4⟩ := HC.out _ HB2.out; clear hb)
        | ((go_at_call 16; with_reducible refine (Write_mi HM2.out _ _ _ _).mono ?_); rintro r V3 ⟨rfl, hb⟩; have HM3 := Lib.hid (HM2.out.later hb); have HB3 := Lib.hid (HB2.out.trans (hb.mono HB2.out.size)); have HK3 := Lib.hid (HK2.out.later hb); obtain ⟨f1, f2, f3, f4⟩ := HC.out _ HB3.out; clear hb)
        | ((go_at_call 25; with_reducible refine (Fill_mi HM3.out _ _ _).mono ?_); rintro r V4 ⟨rfl, hb⟩; have HM4 := Lib.hid (HM3.out.later hb); have HB4 := Lib.hid (HB3.out.trans (hb.mono HB3.out.size)); have HK4 := Lib.hid (HK3.out.later hb); clear hb)
        | ((go_at_call 18; with_reducible refine (logs_mi HM4.out).mono ?_); rintro r V5 ⟨rfl, hb⟩; have HM5 := Lib.hid (HM4.out.later hb); have HB5 := Lib.hid (HB4.out.trans (hb.mono HB4.out.size)); have HK5 := Lib.hid (HK4.out.later hb); have HS1 := Lib.hid (Same_any (Ba.of_mi HM5.out) (Ba.of_mi (Mi.nil V5))); have HS2 : Hid (Calls Try.prog 21 #[.pointer (some ⟨qz, 0, none⟩), .pointer (some ⟨b, 0, none⟩)] V5 fun e w' => e = .returned (.bool false) ∧ V5 = w') := Lib.hid (by have := Same_any (Ba.of_mi HM5.out) (Ba.of_mem HK5.out.1); rw [m0_ne] at this; exact this); clear hb)
        | ((go_at_call 19; with_reducible refine (Clear_mi HM5.out).mono ?_); rintro r w' ⟨rfl, rfl⟩)
        | ((go_at_call 20; with_reducible refine (Copy_mi HM5.out).mono ?_); rintro r w' ⟨rfl, rfl⟩)
        | ((go_at_call 21; with_reducible refine HS2.out.mono ?_); rintro r w' ⟨rfl, rfl⟩)
        | ((go_at_call 21; with_reducible refine HS1.out.mono ?_); rintro r w' ⟨rfl, rfl⟩)
        | ((go_at_call 10; with_reducible refine (HWK.out _).mono ?_); rintro r V6 ⟨rfl, hb⟩; have HB6 := Lib.hid (HB5.out.trans (hb.mono HB5.out.size)); clear hb))
      go_ret
      exact ⟨rfl, HB0.out.trans (HB6.out.mono HB0.out.size)⟩
  · rw [decide_eq_false hbig] at HF
    clear hbig
    go_enter Try.func6, Try.ntmps6
    go_upto_region 1 with fail
    rw [← HW1.out]
    go_wp2_with (first
      | ((go_at_call 9; with_reducible refine HF.out.mono ?_); rintro r w' ⟨rfl, rfl⟩)
      | ((go_at_call 10; with_reducible refine (HWK.out _).mono ?_); rintro r V6 ⟨rfl, hb⟩; have HB6 := Lib.hid hb; clear hb))
    go_ret
    exact ⟨rfl, HB0.out.trans (((below_alloc w1 _).trans (HB6.out.mono (below_alloc w1 _).size)).mono HB0.out.size)⟩
theorem none_any (e : KA) (z : Bool) (w : World) (hok : KA.ok w e) : Calls Try.prog 6 #[.agg e.cells, .bool z] w (OkB w) := by
  obtain ⟨wh, n, ad, vb, l, x⟩ := e
  obtain ⟨Au, cu, hu, -⟩ := id hok.1
  have hu : vb = .slice Au l.length cu := hu
  subst hu
  exact none_in wh n ad Au cu l x z w hok
end Go.Proofs.Ytmnlkejhhdbhlaa
