/- The law's own function look: All. Conditions stand in each theorem. -/
import Derived.Test.YtmolpnhgmdpdmaaDoorRq
import Derived.IntWalk
namespace Go.Proofs.YtmolpnhgmdpdmaaDoor
open Go.RowKit
set_option linter.unusedVariables false
set_option maxHeartbeats 1000000
set_option maxRecDepth 100000 in
theorem look_1_err (g : Nat) (vd sv : Value) (A : Option Addr) (c : Nat) (l : List UInt8) (a : Nat) (N : Int) (w : World) (h : Rd w g vd l a) (hB : BytX g w (.slice A l.length c) l) (hl : l.length ≤ 200) (ns : List Int) (hs : Ints .i64 w sv ns) (hsp : 0 < ns.length → ∀ b, sv.ownBlock = some b → b ≠ g) (hns : ns.length ≤ 20) (he : rdAllE l a ns ≠ 0) :
    Calls Tryd.prog 31 #[.pointer (some ⟨g, 0, none⟩), .slice A l.length c, .int .i64 (a : Int), .agg #[.int .i64 1, .int .i64 N, sv]] w (LPost w g vd l) := by
  have hal := h.le
  obtain ⟨P, q, hrun, hLB⟩ := left_of hB hal
  obtain ⟨m, hm⟩ : ∃ m, l.length - a = m := ⟨_, rfl⟩
  rw [hm] at hrun hLB
  have hm1 : (l.length : Int) = a + m := by omega
  have hm2 : (m : Int) ≤ 200 := by omega
  have ha2 : (a : Int) ≤ 200 := by omega
  have HR := Lib.hid (h.below (alloc_below w (.cells #[.int .i64 1, .int .i64 N, sv] 67)))
  have HLB := Lib.hid (hLB.below (alloc_below w (.cells #[.int .i64 1, .int .i64 N, sv] 67)))
  have Hg := Lib.hid h.lt
  have Hm := Lib.hid hm1
  clear h hB hLB hm hm1
  have HS := Lib.hid (hs.below (alloc_below w (.cells #[.int .i64 1, .int .i64 N, sv] 67)))
  have Hsp := Lib.hid hsp
  have hcall := All_err g vd sv l a ns _ HR.out HS.out he (by omega)
  have HE := Lib.hid (show rdAllE (l.drop a) 0 ns = rdAllE l a ns by rw [rdAllE_drop hal]; rfl)
  obtain ⟨E, hE⟩ : ∃ E, rdAllE l a ns = E := ⟨_, rfl⟩
  rw [hE] at hcall he HE
  have Hcall := Lib.hid hcall; have Hne := Lib.hid he
  have HE2 := Lib.hid hE
  clear hcall hs hsp he hE
  rcases three N m with hn | ⟨hn, hn2⟩ | ⟨hn, hn2⟩
  · go_enter Tryd.func31, Tryd.ntmps31
    go_wp2_with fail
    refine (show Calls Tryd.prog 35 _ _ _ from Hcall.out).mono ?_
    rintro e w1 ⟨rfl, hR, hC⟩
    have hc0 := cell_chg (b := w.heap.size) (j := 0) (x := .int .i64 1) hC (by simp) (by have := Hg.out; omega) (by simp)
    have hc1 := cell_chg (b := w.heap.size) (j := 1) (x := .int .i64 N) hC (by simp) (by have := Hg.out; omega) (by simp)
    have hc2 := cell_chg (b := w.heap.size) (j := 2) (x := sv) hC (by simp) (by have := Hg.out; omega) (by simp)
    have HQ := Lib.hid hR; have HC := Lib.hid (chg_box (alloc_below w _) hC)
    have HG := Lib.hid (refGetAll_any _ sv (l.drop a) ns w1 (HLB.out.chg hC).1 (by rw [List.length_drop]; omega) (ints_chg HS.out hC Hsp.out) (by omega))
    clear hR hC Hcall HR HLB HS Hsp
    go_wp2_with fail
    refine (show Calls Tryd.prog 57 _ _ _ from HG.out).mono ?_
    rintro e w2 ⟨⟨h0, -⟩ | ⟨-, rfl⟩, hb⟩
    · exact absurd (HE.out.symm.trans h0) Hne.out
    rw [HE.out]
    have Hb := Lib.hid hb; clear hb
    have HSW := Lib.hid (SameWords_eq (.slice none 0 0) (.slice none 0 0) [] w2 ⟨_, 0, rfl, by simp, fun h => absurd h (by simp)⟩ ⟨_, 0, rfl, by simp, fun h => absurd h (by simp)⟩ (by simp))
    go_wp2_with fail
    refine (show Calls Tryd.prog 36 _ _ _ from HSW.out).mono ?_
    rintro e w3 ⟨rfl, hb3⟩
    have Hb3 := Lib.hid hb3; clear hb3
    go_wp2
    go_ret2
    exact ⟨a, rfl, (HQ.out.below Hb.out).below Hb3.out, chg_later (chg_later HC.out Hb.out) Hb3.out⟩
  · go_enter Tryd.func31, Tryd.ntmps31
    go_wp2_with fail
    refine (show Calls Tryd.prog 35 _ _ _ from Hcall.out).mono ?_
    rintro e w1 ⟨rfl, hR, hC⟩
    have hc0 := cell_chg (b := w.heap.size) (j := 0) (x := .int .i64 1) hC (by simp) (by have := Hg.out; omega) (by simp)
    have hc1 := cell_chg (b := w.heap.size) (j := 1) (x := .int .i64 N) hC (by simp) (by have := Hg.out; omega) (by simp)
    have hc2 := cell_chg (b := w.heap.size) (j := 2) (x := sv) hC (by simp) (by have := Hg.out; omega) (by simp)
    have HQ := Lib.hid hR; have HC := Lib.hid (chg_box (alloc_below w _) hC)
    have HG := Lib.hid (refGetAll_any _ sv (l.drop a) ns w1 (HLB.out.chg hC).1 (by rw [List.length_drop]; omega) (ints_chg HS.out hC Hsp.out) (by omega))
    clear hR hC Hcall HR HLB HS Hsp
    go_wp2_with fail
    refine (show Calls Tryd.prog 57 _ _ _ from HG.out).mono ?_
    rintro e w2 ⟨⟨h0, -⟩ | ⟨-, rfl⟩, hb⟩
    · exact absurd (HE.out.symm.trans h0) Hne.out
    rw [HE.out]
    have Hb := Lib.hid hb; clear hb
    have HSW := Lib.hid (SameWords_eq (.slice none 0 0) (.slice none 0 0) [] w2 ⟨_, 0, rfl, by simp, fun h => absurd h (by simp)⟩ ⟨_, 0, rfl, by simp, fun h => absurd h (by simp)⟩ (by simp))
    go_wp2_with fail
    refine (show Calls Tryd.prog 36 _ _ _ from HSW.out).mono ?_
    rintro e w3 ⟨rfl, hb3⟩
    have Hb3 := Lib.hid hb3; clear hb3
    go_wp2
    go_ret2
    exact ⟨a, rfl, (HQ.out.below Hb.out).below Hb3.out, chg_later (chg_later HC.out Hb.out) Hb3.out⟩
  · go_enter Tryd.func31, Tryd.ntmps31
    go_wp2_with fail
    refine (show Calls Tryd.prog 35 _ _ _ from Hcall.out).mono ?_
    rintro e w1 ⟨rfl, hR, hC⟩
    have hc0 := cell_chg (b := w.heap.size) (j := 0) (x := .int .i64 1) hC (by simp) (by have := Hg.out; omega) (by simp)
    have hc1 := cell_chg (b := w.heap.size) (j := 1) (x := .int .i64 N) hC (by simp) (by have := Hg.out; omega) (by simp)
    have hc2 := cell_chg (b := w.heap.size) (j := 2) (x := sv) hC (by simp) (by have := Hg.out; omega) (by simp)
    have HQ := Lib.hid hR; have HC := Lib.hid (chg_box (alloc_below w _) hC)
    have HG := Lib.hid (refGetAll_any _ sv (l.drop a) ns w1 (HLB.out.chg hC).1 (by rw [List.length_drop]; omega) (ints_chg HS.out hC Hsp.out) (by omega))
    clear hR hC Hcall HR HLB HS Hsp
    go_wp2_with fail
    refine (show Calls Tryd.prog 57 _ _ _ from HG.out).mono ?_
    rintro e w2 ⟨⟨h0, -⟩ | ⟨-, rfl⟩, hb⟩
    · exact absurd (HE.out.symm.trans h0) Hne.out
    rw [HE.out]
    have Hb := Lib.hid hb; clear hb
    have HSW := Lib.hid (SameWords_eq (.slice none 0 0) (.slice none 0 0) [] w2 ⟨_, 0, rfl, by simp, fun h => absurd h (by simp)⟩ ⟨_, 0, rfl, by simp, fun h => absurd h (by simp)⟩ (by simp))
    go_wp2_with fail
    refine (show Calls Tryd.prog 36 _ _ _ from HSW.out).mono ?_
    rintro e w3 ⟨rfl, hb3⟩
    have Hb3 := Lib.hid hb3; clear hb3
    go_wp2
    go_ret2
    exact ⟨a, rfl, (HQ.out.below Hb.out).below Hb3.out, chg_later (chg_later HC.out Hb.out) Hb3.out⟩
set_option maxRecDepth 100000 in
theorem look_1_ok (g : Nat) (vd sv : Value) (A : Option Addr) (c : Nat) (l : List UInt8) (a : Nat) (N : Int) (w : World) (h : Rd w g vd l a) (hB : BytX g w (.slice A l.length c) l) (hl : l.length ≤ 200) (ns : List Int) (hs : Ints .i64 w sv ns) (hsp : 0 < ns.length → ∀ b, sv.ownBlock = some b → b ≠ g) (hns : ns.length ≤ 20) (he : rdAllE l a ns = 0) :
    Calls Tryd.prog 31 #[.pointer (some ⟨g, 0, none⟩), .slice A l.length c, .int .i64 (a : Int), .agg #[.int .i64 1, .int .i64 N, sv]] w (LPost w g vd l) := by
  have hal := h.le
  obtain ⟨P, q, hrun, hLB⟩ := left_of hB hal
  obtain ⟨m, hm⟩ : ∃ m, l.length - a = m := ⟨_, rfl⟩
  rw [hm] at hrun hLB
  have hm1 : (l.length : Int) = a + m := by omega
  have hm2 : (m : Int) ≤ 200 := by omega
  have ha2 : (a : Int) ≤ 200 := by omega
  have HR := Lib.hid (h.below (alloc_below w (.cells #[.int .i64 1, .int .i64 N, sv] 67)))
  have HLB := Lib.hid (hLB.below (alloc_below w (.cells #[.int .i64 1, .int .i64 N, sv] 67)))
  have Hg := Lib.hid h.lt
  have Hm := Lib.hid hm1
  clear h hB hLB hm hm1
  have HS := Lib.hid (hs.below (alloc_below w (.cells #[.int .i64 1, .int .i64 N, sv] 67)))
  have Hsp := Lib.hid hsp
  have hok := okAll_of ns a he
  have hend := endp_le ns a hal hok
  have hcall := All_fine g vd sv l a ns _ HR.out HS.out hok (by omega) hend
  have HE := Lib.hid (show rdAllE (l.drop a) 0 ns = 0 by rw [rdAllE_drop hal]; exact he)
  have HV := Lib.hid (show vals (l.drop a) 0 ns = vals l a ns by rw [vals_drop]; rfl)
  have HP := Lib.hid (show endp a ns = a + endp 0 ns from endp_add a ns 0)
  have hp1 : endp 0 ns ≤ 200 := by have := endp_add a ns 0; rw [Nat.add_zero] at this; omega
  have hvl : (vals l a ns).length ≤ 1048576 := by rw [vals_length]; omega
  have Hvl := Lib.hid hvl
  have Hcall := Lib.hid hcall
  clear hcall hs hsp he hok hend hvl
  obtain ⟨p, hp⟩ : ∃ p, endp 0 ns = p := ⟨_, rfl⟩
  rw [hp] at HP hp1
  have Hp := Lib.hid hp
  clear hp
  have hwr : IntKind.i64.wrap ((a : Int) + p) = ((a + p : Nat) : Int) := by rw [IntWalk.i64_in _ (by omega)]; omega
  have hp2 : (p : Int) ≤ 200 := by omega
  rcases three N m with hn | ⟨hn, hn2⟩ | ⟨hn, hn2⟩
  · go_enter Tryd.func31, Tryd.ntmps31
    go_wp2_with fail
    refine (show Calls Tryd.prog 35 _ _ _ from Hcall.out).mono ?_
    rintro e w1 ⟨⟨v, rfl, hv⟩, hR, hC⟩
    have hc0 := cell_chg (b := w.heap.size) (j := 0) (x := .int .i64 1) hC (by simp) (by have := Hg.out; omega) (by simp)
    have hc1 := cell_chg (b := w.heap.size) (j := 1) (x := .int .i64 N) hC (by simp) (by have := Hg.out; omega) (by simp)
    have hc2 := cell_chg (b := w.heap.size) (j := 2) (x := sv) hC (by simp) (by have := Hg.out; omega) (by simp)
    have HQ := Lib.hid hR; have HC := Lib.hid (chg_box (alloc_below w _) hC)
    have HG := Lib.hid (refGetAll_any _ sv (l.drop a) ns w1 (HLB.out.chg hC).1 (by rw [List.length_drop]; omega) (ints_chg HS.out hC Hsp.out) (by omega))
    have Hv := Lib.hid hv; clear hv
    clear hR hC Hcall HR HLB HS Hsp
    go_wp2_with fail
    refine (show Calls Tryd.prog 57 _ _ _ from HG.out).mono ?_
    rintro e w2 ⟨⟨-, v2, rfl, hv2⟩ | ⟨h0, -⟩, hb⟩
    rotate_left
    · exact absurd HE.out h0
    rw [Hp.out]
    rw [HV.out] at hv2
    have HSW := Lib.hid (SameWords_eq v v2 (vals l a ns) w2 (Hv.out.below hb) hv2 Hvl.out)
    have Hb := Lib.hid hb; clear hb hv2
    go_wp2_with fail
    refine (show Calls Tryd.prog 36 _ _ _ from HSW.out).mono ?_
    rintro e w3 ⟨rfl, hb3⟩
    have Hb3 := Lib.hid hb3; clear hb3
    have HQ2 := Lib.hid (show Rd w3 g vd l (a + p) by have := (HQ.out.below Hb.out).below Hb3.out; rwa [HP.out] at this)
    go_wp2
    go_ret2
    exact ⟨a + p, rfl, HQ2.out, chg_later (chg_later HC.out Hb.out) Hb3.out⟩
  · go_enter Tryd.func31, Tryd.ntmps31
    go_wp2_with fail
    refine (show Calls Tryd.prog 35 _ _ _ from Hcall.out).mono ?_
    rintro e w1 ⟨⟨v, rfl, hv⟩, hR, hC⟩
    have hc0 := cell_chg (b := w.heap.size) (j := 0) (x := .int .i64 1) hC (by simp) (by have := Hg.out; omega) (by simp)
    have hc1 := cell_chg (b := w.heap.size) (j := 1) (x := .int .i64 N) hC (by simp) (by have := Hg.out; omega) (by simp)
    have hc2 := cell_chg (b := w.heap.size) (j := 2) (x := sv) hC (by simp) (by have := Hg.out; omega) (by simp)
    have HQ := Lib.hid hR; have HC := Lib.hid (chg_box (alloc_below w _) hC)
    have HG := Lib.hid (refGetAll_any _ sv (l.drop a) ns w1 (HLB.out.chg hC).1 (by rw [List.length_drop]; omega) (ints_chg HS.out hC Hsp.out) (by omega))
    have Hv := Lib.hid hv; clear hv
    clear hR hC Hcall HR HLB HS Hsp
    go_wp2_with fail
    refine (show Calls Tryd.prog 57 _ _ _ from HG.out).mono ?_
    rintro e w2 ⟨⟨-, v2, rfl, hv2⟩ | ⟨h0, -⟩, hb⟩
    rotate_left
    · exact absurd HE.out h0
    rw [Hp.out]
    rw [HV.out] at hv2
    have HSW := Lib.hid (SameWords_eq v v2 (vals l a ns) w2 (Hv.out.below hb) hv2 Hvl.out)
    have Hb := Lib.hid hb; clear hb hv2
    go_wp2_with fail
    refine (show Calls Tryd.prog 36 _ _ _ from HSW.out).mono ?_
    rintro e w3 ⟨rfl, hb3⟩
    have Hb3 := Lib.hid hb3; clear hb3
    have HQ2 := Lib.hid (show Rd w3 g vd l (a + p) by have := (HQ.out.below Hb.out).below Hb3.out; rwa [HP.out] at this)
    go_wp2
    go_ret2
    exact ⟨a + p, rfl, HQ2.out, chg_later (chg_later HC.out Hb.out) Hb3.out⟩
  · go_enter Tryd.func31, Tryd.ntmps31
    go_wp2_with fail
    refine (show Calls Tryd.prog 35 _ _ _ from Hcall.out).mono ?_
    rintro e w1 ⟨⟨v, rfl, hv⟩, hR, hC⟩
    have hc0 := cell_chg (b := w.heap.size) (j := 0) (x := .int .i64 1) hC (by simp) (by have := Hg.out; omega) (by simp)
    have hc1 := cell_chg (b := w.heap.size) (j := 1) (x := .int .i64 N) hC (by simp) (by have := Hg.out; omega) (by simp)
    have hc2 := cell_chg (b := w.heap.size) (j := 2) (x := sv) hC (by simp) (by have := Hg.out; omega) (by simp)
    have HQ := Lib.hid hR; have HC := Lib.hid (chg_box (alloc_below w _) hC)
    have HG := Lib.hid (refGetAll_any _ sv (l.drop a) ns w1 (HLB.out.chg hC).1 (by rw [List.length_drop]; omega) (ints_chg HS.out hC Hsp.out) (by omega))
    have Hv := Lib.hid hv; clear hv
    clear hR hC Hcall HR HLB HS Hsp
    go_wp2_with fail
    refine (show Calls Tryd.prog 57 _ _ _ from HG.out).mono ?_
    rintro e w2 ⟨⟨-, v2, rfl, hv2⟩ | ⟨h0, -⟩, hb⟩
    rotate_left
    · exact absurd HE.out h0
    rw [Hp.out]
    rw [HV.out] at hv2
    have HSW := Lib.hid (SameWords_eq v v2 (vals l a ns) w2 (Hv.out.below hb) hv2 Hvl.out)
    have Hb := Lib.hid hb; clear hb hv2
    go_wp2_with fail
    refine (show Calls Tryd.prog 36 _ _ _ from HSW.out).mono ?_
    rintro e w3 ⟨rfl, hb3⟩
    have Hb3 := Lib.hid hb3; clear hb3
    have HQ2 := Lib.hid (show Rd w3 g vd l (a + p) by have := (HQ.out.below Hb.out).below Hb3.out; rwa [HP.out] at this)
    go_wp2
    go_ret2
    exact ⟨a + p, rfl, HQ2.out, chg_later (chg_later HC.out Hb.out) Hb3.out⟩
end Go.Proofs.YtmolpnhgmdpdmaaDoor
