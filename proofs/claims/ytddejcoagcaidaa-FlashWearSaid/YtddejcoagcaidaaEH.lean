/- FlashWear, whatever the input. Conditions stand in each theorem. -/
import Derived.Test.YtddejcoagcaidaaEG
namespace Go.Proofs.Ytddejcoagcaidaa
open Go.RowKit Go.Shelf
attribute [local go_sem] Oper.semAt_some
set_option linter.unusedVariables false
set_option maxHeartbeats 8000000
set_option maxRecDepth 100000
attribute [local go_sem ↓ 100000] loadX_eq storeX_eq
theorem chg_keep {w w' : World} {base b g m : Nat} {V : Nat → Value} {s : Dev} (h : Dv w base b g m V s) (hc : Chg (Foot s b g m V) w w') {k : Nat} {cs : Array Value} {t : TypeId} (hk : w.heap[k]? = some (.cells cs t (0, 0))) (h1 : t ≠ 64) (h2 : t ≠ 94) (h3 : t ≠ 91) : w'.heap[k]? = some (.cells cs t (0, 0)) :=
  (hc.block k (Array.getElem?_eq_some_iff.1 hk).1 (h.off_ty hk h1 h2 h3)).trans hk
theorem We.chg {W W' w : World} {nb : Nat} {GE : Array Value} {many : Int} {D8 : Nat} {R : Array Value} {ge ce q G : Nat} {l : List Int} (h : We W w nb GE many D8 R ge ce q G l) {base b g m : Nat} {V : Nat → Value} {s : Dev} (hd : Dv W base b g m V s) (hw : w.heap.size ≤ base) (hc : Chg (Foot s b g m V) W W') : We W' w nb GE many D8 R ge ce q G l := by
  have k3 : ∀ {g' : Nat} {l' : List Int}, RowI W g' l' → RowI W' g' l' := fun ⟨cur, a, b'⟩ => ⟨cur, chg_keep hd hc a (by decide) (by decide) (by decide), b'⟩
  exact ⟨chg_keep hd hc h.hg (by decide) (by decide) (by decide), chg_keep hd hc h.hm (by decide) (by decide) (by decide), chg_keep hd hc h.hr (by decide) (by decide) (by decide), chg_keep hd hc h.h8 (by decide) (by decide) (by decide), k3 h.he, chg_keep hd hc h.hq (by decide) (by decide) (by decide), k3 h.hG, h.hb.trans (hc.below h.hb.size (fun i hi => Nat.le_trans hw (hd.foot_ge hi)))⟩
theorem ints_nil (w : World) : Ints w (.slice none 0 0) [] := ⟨none, 0, rfl, fun h => absurd h (by simp)⟩
theorem wear_main (nb np sz : Nat) (en many : Int) (vl : Value) (L : List KA) (w : World) (hL : Acts w vl L) (hok : ∀ e ∈ L, KA.ok w e) (hs : smB nb np sz en = true) (hf : fewB L 25 = true) (hv : valB nb np sz en = true) :
    Calls Try.prog 5 #[.agg #[.int .i64 (nb : Int), .int .i64 (np : Int), .int .i64 (sz : Int), .int .i64 en], vl, .int .i64 many] w (RetB w (.bool true)) := by
  have hfew : L.length ≤ 40 ∧ ∀ e ∈ L, e.x.length ≤ 100 ∧ e.y.length ≤ 100 := by
    have hf' := hf
    unfold fewB at hf'
    rw [Bool.and_eq_true] at hf'
    refine ⟨by have := of_decide_eq_true hf'.1; omega, fun e he => ?_⟩
    have h2 := List.all_eq_true.1 hf'.2 e he
    unfold fewE at h2
    rw [Bool.and_eq_true] at h2
    exact ⟨of_decide_eq_true h2.1, of_decide_eq_true h2.2⟩
  have HSM := Lib.hid (fun W => small_any (nb : Int) np sz en W)
  have HRT := Lib.hid (fun W => Right_any (nb : Int) np sz en W)
  have HF := Lib.hid (few_belowP 25 25 rfl (by omega) hL hok)
  have HWK := Lib.hid works_any
  have HST := Lib.hid (fun W (hW : Below w.heap.size w W) => started_ok nb np sz en (.slice none 0 0) vl [] L W (ints_nil W) (fun x hx => by cases hx) (hL.below hW) (fun e he => ⟨(hok e he).1.below hW, (hok e he).2.below hW⟩) (by simp) hfew hv rfl)
  obtain ⟨a, b, c, e1, e2, e3, hv1, hv2, hv3, hv4, hv5, hv6, hv7, hv8⟩ := valB_nat hv
  have HNB : Hid (2 ≤ nb ∧ nb ≤ 4096 ∧ L.length ≤ 40) := Lib.hid (by have := hfew.1; omega)
  have HSB := Lib.hid hs
  have HFB := Lib.hid hf
  have HVB := Lib.hid hv
  obtain ⟨Al, cl, el, _⟩ := hL
  subst el
  clear hok hs hf hv hfew e1 e2 e3 hv1 hv2 hv3 hv4 hv5 hv6 hv7 hv8
  have hqn := fun (W : World) (f : Fn) (x y : Array Value) => run_eql_func_nil (P := Try.prog) W 54 f x y Try.underlying54
  obtain ⟨w1, hw1⟩ : ∃ w1 : World, w1 = ((w.alloc (.cells #[.int .i64 (nb : Int), .int .i64 (np : Int), .int .i64 (sz : Int), .int .i64 en] 23)).alloc (.cells #[.int .i64 many] 3)).alloc (.cells #[.bool false] 4) := ⟨_, rfl⟩
  obtain ⟨h0, h1, h2, hb1⟩ := three_new w (.cells #[.int .i64 (nb : Int), .int .i64 (np : Int), .int .i64 (sz : Int), .int .i64 en] 23) (.cells #[.int .i64 many] 3) (.cells #[.bool false] 4)
  rw [← hw1] at h0 h1 h2 hb1
  have HXM : Hid (Bx1 w1 (w.heap.size + 1) 3 (.int .i64 many)) := Lib.hid h1
  have HXR : Hid (Bx1 w1 (w.heap.size + 2) 4 (.bool false)) := Lib.hid h2
  have k0 := cell_of_row w1 w.heap.size 0 _ 23 (0, 0) h0
  have k1 := cell_of_row w1 w.heap.size 1 _ 23 (0, 0) h0
  have k2 := cell_of_row w1 w.heap.size 2 _ 23 (0, 0) h0
  have k3 := cell_of_row w1 w.heap.size 3 _ 23 (0, 0) h0
  simp only [List.getElem?_toArray, List.getElem?_cons_zero, List.getElem?_cons_succ] at k0 k1 k2 k3
  have HG0 := Lib.hid h0
  have HB1 := Lib.hid hb1
  have HW1 := Lib.hid hw1
  clear h0 h1 h2 hb1 hw1
  refine (callsIn_wide (n := 9)).1 ?_
  refine callsIn_of_wp_marks Try.func5 rfl trivial ?_ rfl
  simp only [Try.ntmps5, List.size_toArray, List.length_cons, List.length_nil, Nat.reduceAdd, Nat.reduceSub, Array.replicate_succ, Array.replicate_zero, List.push_toArray, List.append_toArray, List.nil_append, List.cons_append]
  refine wpIn_wide.2 ?_
  go_upto_region 1 with fail
  rw [← HW1.out]
  go_upto_region 4 with (first
    | ((go_at_call 8; with_reducible refine (HSM.out _).mono ?_); rintro e w2 ⟨he, hb⟩; rw [HSB.out] at he; subst he; have HB2 := Lib.hid hb; have HG2 := Lib.hid ((hb.block _ (Array.getElem?_eq_some_iff.1 HG0.out).1).trans HG0.out); have q0 := cell_of_row w2 w.heap.size 0 _ 23 (0, 0) HG2.out; have q1 := cell_of_row w2 w.heap.size 1 _ 23 (0, 0) HG2.out; have q2 := cell_of_row w2 w.heap.size 2 _ 23 (0, 0) HG2.out; have q3 := cell_of_row w2 w.heap.size 3 _ 23 (0, 0) HG2.out; simp only [List.getElem?_toArray, List.getElem?_cons_zero, List.getElem?_cons_succ] at q0 q1 q2 q3; clear hb)
    | ((go_at_call 9; with_reducible refine (HF.out _ (HB1.out.trans (HB2.out.mono HB1.out.size))).mono ?_); rintro e w' ⟨he, hw⟩; rw [HFB.out] at he; subst he; subst hw)
    | ((go_at_call 16; with_reducible refine (HRT.out _).mono ?_); rintro e w3 ⟨he, hb⟩; rw [HVB.out] at he; subst he; have HB3 := Lib.hid (HB2.out.trans (hb.mono HB2.out.size)); have HG3 := Lib.hid ((hb.block _ (Array.getElem?_eq_some_iff.1 HG2.out).1).trans HG2.out); have r0 := cell_of_row w3 w.heap.size 0 _ 23 (0, 0) HG3.out; have r1 := cell_of_row w3 w.heap.size 1 _ 23 (0, 0) HG3.out; have r2 := cell_of_row w3 w.heap.size 2 _ 23 (0, 0) HG3.out; have r3 := cell_of_row w3 w.heap.size 3 _ 23 (0, 0) HG3.out; simp only [List.getElem?_toArray, List.getElem?_cons_zero, List.getElem?_cons_succ] at r0 r1 r2 r3; clear hb)
    | ((go_at_call 17; with_reducible refine (HST.out _ (HB1.out.trans (HB3.out.mono HB1.out.size))).mono ?_); rintro e w4 ⟨bb, gg, mm, V, s, vf1, vp1, ve1, pb1, rfl, hd, hg, hr, hn, hsb, hb4⟩; obtain ⟨R, hR⟩ : ∃ R, R = rdv s vf1 vp1 ve1 pb1 := ⟨_, rfl⟩; rw [← hR]; have HR := Lib.hid (hR ▸ R35.rd hr); have HRD := Lib.hid (And.intro hr hR); have V4 := HR.out.store (heap_alloc_new w4 (.cells #[.int .i64 0, .int .i64 0, .int .i64 0, .int .i64 0, .slice none 0 0, .slice none 0 0, .slice none 0 0, .int .i64 0, .int .i64 0, .int .i64 0, .bool false] 35)) rfl; have HD4 := Lib.hid hd; have HGD := Lib.hid hg; have HNS := Lib.hid (And.intro hn hsb); have HBW : Hid (w.heap.size ≤ w3.heap.size) := Lib.hid (Nat.le_trans HB1.out.size HB3.out.size); have HB4 := Lib.hid (HB3.out.trans (hb4.mono HB3.out.size)); clear hd hg hr hn hsb hb4 hR))
  clear k0 k1 k2 k3 q0 q1 q2 q3 r0 r1 r2 r3
  obtain ⟨D8, hD8⟩ : ∃ D8, D8 = w4.heap.size := ⟨_, rfl⟩
  obtain ⟨Z, hZ⟩ : ∃ Z, Z = (w4.alloc (.cells #[.int .i64 0, .int .i64 0, .int .i64 0, .int .i64 0, .slice none 0 0, .slice none 0 0, .slice none 0 0, .int .i64 0, .int .i64 0, .int .i64 0, .bool false] 35)).setRow w4.heap.size R := ⟨_, rfl⟩
  have hb4z : Below w4.heap.size w4 Z := by rw [hZ]; exact setRow_below (balloc w4 _) (Nat.le_refl _)
  have h8z : Z.heap[D8]? = some (.cells R 35 (0, 0)) := by rw [hZ, hD8]; exact setRow_at (heap_alloc_new w4 _)
  rw [← hZ, ← hD8]
  have hb1z : Below w1.heap.size w1 Z := HB4.out.trans (hb4z.mono HB4.out.size)
  have HZ : Hid (Z.heap[w.heap.size]? = some (.cells #[.int .i64 (nb : Int), .int .i64 (np : Int), .int .i64 (sz : Int), .int .i64 en] 23 (0, 0)) ∧ Bx1 Z (w.heap.size + 1) 3 (.int .i64 many) ∧ Bx1 Z (w.heap.size + 2) 4 (.bool false) ∧ Z.heap[D8]? = some (.cells R 35 (0, 0)) ∧ Below w.heap.size w Z) := Lib.hid ⟨(hb1z.block _ (Array.getElem?_eq_some_iff.1 HG0.out).1).trans HG0.out, HXM.out.below hb1z, HXR.out.below hb1z, h8z, HB1.out.trans (hb1z.mono HB1.out.size)⟩
  have HDZ := Lib.hid (HD4.out.below hb4z)
  have HWR := Lib.hid (Wear_any (HD4.out.below hb4z) HGD.out)
  have HER : Hid (∃ ge ce, ve1 = .slice (some ⟨ge, 0, none⟩) s.nb ce ∧ RowI Z ge (ersL s)) := Lib.hid (by
    obtain ⟨ge, ce, cure, e, -, hhe, hre⟩ := (HRD.out.1.below hb4z).ers.at_ (by have := HNS.out.2; have := HNB.out; omega)
    exact ⟨ge, ce, e, cure, hhe, fun j hj => by
      rw [ersL_length] at hj
      rw [hre j hj, ersL_at hj]⟩)
  obtain ⟨ge, ce, rfl, hre⟩ := HER.out
  have HRE := Lib.hid hre
  unfold WrP at HWR
  have HRS := Lib.hid (fun W (hW : Below Z.heap.size Z W) => (Restart_any (HDZ.out.below hW)).mono fun _ _ hp => HeadPost.step (s := s) hp rfl)
  have HGR := Lib.hid (gd_rs HGD.out)
  clear hD8 hZ hb4z h8z hb1z hre V4 HER HG0 HXM HXR HG2 HG3 HB2 HB3 HB4 HD4
  go_upto_region 11 with (first
    | ((go_at_call 20; with_reducible refine HWR.out.mono ?_); rintro e w6 ⟨q, G, rfl, hq, hG, -, -, hb6⟩; have HWE : Hid (We w6 w nb #[.int .i64 (nb : Int), .int .i64 (np : Int), .int .i64 (sz : Int), .int .i64 en] many D8 R ge ce q G (ersL s)) := Lib.hid ⟨(hb6.block _ (Array.getElem?_eq_some_iff.1 HZ.out.1).1).trans HZ.out.1, HZ.out.2.1.below hb6, HZ.out.2.2.1.below hb6, (hb6.block _ (Array.getElem?_eq_some_iff.1 HZ.out.2.2.2.1).1).trans HZ.out.2.2.2.1, HRE.out.below hb6, hq, hG, HZ.out.2.2.2.2.trans (hb6.mono HZ.out.2.2.2.2.size)⟩; have HB6 := Lib.hid hb6; clear hq hG hb6)
    | ((go_at_call 21; with_reducible refine (HRS.out _ HB6.out).mono ?_); rintro e w7 ⟨rfl, V7, hd7, hc7, -⟩; have HWE7 := Lib.hid (HWE.out.chg (HDZ.out.below HB6.out) HBW.out hc7); have HD7 := Lib.hid hd7; have HES := Lib.hid (Erase_any hd7 HGR.out (by show s.n ≤ 1000000000; have := HNS.out.1; have := HNB.out; omega) 0); clear hd7 hc7)
    | ((go_at_call 22; with_reducible refine HES.out.mono ?_); rintro e w8 ⟨rfl, V8, hd8, hc8, -⟩; have HWE8 := Lib.hid (HWE7.out.chg HD7.out HBW.out hc8); clear hd8 hc8))
  have HDL : Hid ((ersL s).length = nb) := Lib.hid ((ersL_length s).trans HNS.out.2)
  obtain ⟨l, hl⟩ : ∃ l, l = ersL s := ⟨_, rfl⟩
  rw [← hl] at HWE8 HDL
  have hr6 : R[6]? = some (.slice (some ⟨ge, 0, none⟩) nb ce) := by
    rw [HRD.out.2]
    simp [rdv, HNS.out.2]
  have HR6 := Lib.hid hr6
  have HNBW : Hid (2 ≤ nb ∧ nb ≤ 4096) := Lib.hid ⟨HNB.out.1, HNB.out.2.1⟩
  obtain ⟨E0, hE0⟩ : ∃ E0, E0 = w8 := ⟨_, rfl⟩
  subst hE0
  clear hl hr6 HWE HWE7 HB6 HD7 HES HGR HRS HRE HWR HDZ HZ HRD HGD HNS HBW HB1 HST HF HSM HRT HW1 HSB HFB HVB HNB hqn HR
  go_upto_region 12 with fail
  refine (wpIn_wide (n := 9)).1 ?_
  refine loop_down (OvI w E0 (.func (.func 52) #[] #[.pointer (some ⟨q, 0, none⟩)]) D8) ovM ?hmu 2 ?h0 ?round
  case hmu =>
    rintro m a W ⟨turn, T, Ds, u, h1, rfl, _, _, h6, _⟩
    simp [ovM, ovF, h6.cell, RowKit.intOf]
    omega
  case h0 => exact OvI.mk' (turn := 0) (T := E0.heap.size) (Ds := []) rfl rfl rfl (balloc E0 _) (Nat.le_refl _) (Bx1.new _ _ _) (Marks.nil _ _)
  case round =>
    rintro m a W ⟨turn, T, Ds, u, hm, rfl, hbe, hT, hxT, hmk⟩ K hK
    have HKK := Lib.hid (fun (j : Nat) tm ds W' (hj : j < m) (h : OvI w E0 (.func (.func 52) #[] #[.pointer (some ⟨q, 0, none⟩)]) D8 j { tmps := tm, defers := ds } W') => hK j _ W' hj h)
    have hoW := HWE8.out.below hbe
    have HOW := Lib.hid hoW
    have HBE := Lib.hid hbe
    have HXT := Lib.hid (And.intro hT hxT)
    have HMK := Lib.hid hmk
    have HM := Lib.hid hm
    have xT := hxT.cell
    have xTl := hxT.lt
    have y0 := hoW.hr.free
    simp only [ovF]
    by_cases hlt : turn < 2
    · have hltz : (turn : Int) < 2 := by omega
      have hGl : G < W.heap.size := by obtain ⟨cur, hc, -⟩ := hoW.hG; exact (Array.getElem?_eq_some_iff.1 hc).1
      clear hK hoW hbe hT hxT hmk hm
      gi_wp2
      have hb2 : Below W.heap.size W (W.alloc (.cells #[.int .i64 0] 3)) := balloc W _
      obtain ⟨N, hN⟩ : ∃ N, N = W.heap.size := ⟨_, rfl⟩
      rw [← hN]
      have hN2 := Bx1.new W 3 (.int .i64 0)
      rw [← hN] at hN2
      have hs2 : (W.alloc (.cells #[.int .i64 0] 3)).heap.size = N + 1 := by rw [hN]; simp
      have hEW := HBE.out.size
      have ho2 := HOW.out.below hb2
      have HY := wear_yields (fun k => k = N) ((W.alloc (.cells #[.int .i64 0] 3)).heap.size + 2) q G l.length l (W.alloc (.cells #[.int .i64 0] 3)) (by have := HDL.out; have := HNBW.out; omega) (by omega) (fun k hk => by omega) ho2.hq ho2.hG
      have ht2 := (HXT.out.2).below hb2
      have hE2 := HBE.out.trans (hb2.mono HBE.out.size)
      have hM2 := HMK.out.below hb2
      generalize W.alloc (.cells #[.int .i64 0] 3) = W2 at *
      have HN := Lib.hid (show E0.heap.size ≤ N ∧ N < W2.heap.size ∧ T < N from ⟨by omega, by omega, by omega⟩)
      have HDs := Lib.hid (fun D hD => hM2.lt (D := D) hD)
      have HE2 := Lib.hid hE2.size
      clear xT xTl y0 hN hs2 hEW ho2 hGl
      refine range_list (gf := 52) rfl (enters_of Try.func52 (by kernel_rfl) rfl) HY (Below.refl _ _) (fun _ => rfl) (Ri E0 T N turn Ds many) (fun c k X => c = .exit 2 ∧ Rx E0 T N turn Ds many k X) ?hI ?hIx ⟨hN2, ht2, hE2, hM2, fun _ => .inl rfl⟩ (Ra w (.func (.func 52) #[] #[.pointer (some ⟨q, 0, none⟩)]) D8 T N l) ?hAx ?assign ?body ?done ?stop
      case hI => exact fun k X Y row hs hg hr => ⟨own_bx _ () X Y row hs.1 hg hr, own_bx _ () X Y row hs.2.1 hg hr, ownFrom_below (Nat.le_refl _) HE2.out () X Y row hs.2.2.1 hg hr, own_marks HDs.out () X Y row hs.2.2.2.1 hg hr, hs.2.2.2.2⟩
      case hIx => exact fun c k X Y row ⟨h0, hs⟩ hg hr => ⟨h0, own_bx _ () X Y row hs.1 hg hr, own_bx _ () X Y row hs.2.1 hg hr, ownFrom_below (Nat.le_refl _) HE2.out () X Y row hs.2.2.1 hg hr, own_marks HDs.out () X Y row hs.2.2.2.1 hg hr, hs.2.2.2.2⟩
      case hAx => exact fun k a' _ X Y row hs _ _ => hs
      case assign =>
        intro l' k hk X K2 hi hK2
        rw [enum_length] at hk
        rw [enum_at hk]
        have hr0 : l[k]? = some l[k] := List.getElem?_eq_getElem hk
        obtain ⟨r, hr⟩ : ∃ r, r = l[k] := ⟨_, rfl⟩
        rw [← hr] at hr0
        rw [← hr]
        have HK2 := Lib.hid hK2
        have HI := Lib.hid hi
        have HR0 := Lib.hid hr0
        clear hK2 hr hi hr0 HY
        simp only [ev]
        gi_wp2
        exact HK2.out _ X (KeepsFrom.refl _ _) (Kc.refl _ _) HI.out (Ra.mk' HR0.out rfl)
      case body =>
        rintro l' k hk a' X hl ⟨i1, i2, i3, i4, i5⟩ ⟨er, u2, hr, rfl⟩
        rw [enum_length] at hk
        have hoX := HWE8.out.below i3
        have hkn : k < nb := by have := HDL.out; omega
        have hkz : (k : Int) < (nb : Int) := by omega
        have hk0 : (0 : Int) ≤ (k : Int) := by omega
        have hOz : (nb : Int) ≤ 4096 := by have := HNBW.out; omega
        have her : er = l[k] := by
          rw [List.getElem?_eq_getElem hk] at hr
          exact (Option.some.inj hr).symm
        have xk := hoX.he.at hk
        rw [← her] at xk
        have xk0 : X.cell? ⟨ge, 0 + k, none⟩ = some (.int .i64 er) := by rw [Nat.zero_add]; exact xk
        have x8 : X.cell? ⟨D8, 6, none⟩ = some (.slice (some ⟨ge, 0, none⟩) nb ce) := (cell_of_row X D8 6 _ 35 (0, 0) hoX.h8).trans HR6.out
        have xg : X.cell? ⟨w.heap.size, 0, none⟩ = some (.int .i64 (nb : Int)) := cell_of_row X w.heap.size 0 _ 23 (0, 0) hoX.hg
        have hR2 : Ri E0 T N turn Ds many k X := ⟨i1, i2, i3, i4, i5⟩
        have hPU := ri_put hR2 HN.out.1 HN.out.2.2
        have hKF := ri_kf (B := W2.heap.size) (Below.refl X.heap.size X) HN.out.2.1 (.int .i64 ((k : Int) + 1))
        have HPU := Lib.hid hPU
        have HKF := Lib.hid hKF
        have HR2 := Lib.hid hR2
        have n2 := hR2.1.cell
        have n3 := hR2.1.free
        have t2 := hR2.2.1.cell
        have m2 := hoX.hm.cell
        have hNT : N ≠ T := by have := HN.out.2.2; omega
        have hTN : T ≠ N := by omega
        have hwr1 := HWE8.out.hm.lt
        have hNw : N ≠ w.heap.size + 1 := by have := HN.out.1; omega
        have hNw2 : w.heap.size + 1 ≠ N := by omega
        have g1 : decide ((k : Int) ≥ (nb : Int)) = false := decide_eq_false (by omega)
        have g2 : decide ((nb : Int) ≤ (k : Int)) = false := decide_eq_false (by omega)
        have g3 : decide (nb ≤ k) = false := decide_eq_false (by omega)
        have g4 : ¬ nb ≤ k := by omega
        have HK0 := Lib.hid hkn
        clear i1 i2 i3 i4 i5 hPU hKF hR2 hoX hr her HY hb2 hN2 ht2 hE2 hM2 hk hkn hl
        simp only [ovG]
        by_cases ht : turn = 0
        · have ht0 : (turn : Int) = 0 := by omega
          rw [ht0] at t2
          have HT := Lib.hid ht
          clear ht
          by_cases hmn : many ≤ (k : Int) + 1
          · have hmn2 : decide (many ≤ (k : Int) + 1) = true := decide_eq_true hmn
            gi_wp2
            refine ⟨HKF.out.1, rfl, HPU.out.1, HPU.out.2.1, HPU.out.2.2.1, HPU.out.2.2.2, HT.out, by omega, by omega, ?_⟩
            have := HR2.out.2.2.2.2 HT.out
            omega
          · have hmn2 : decide (many ≤ (k : Int) + 1) = false := decide_eq_false hmn
            gi_wp2
            exact ⟨HKF.out.1, HKF.out.2, HPU.out.1, HPU.out.2.1, HPU.out.2.2.1, HPU.out.2.2.2, fun _ => .inr (by omega)⟩
        · have ht1 : (turn : Int) = 1 := by omega
          rw [ht1] at t2
          gi_wp2
          exact ⟨HKF.out.1, HKF.out.2, HPU.out.1, HPU.out.2.1, HPU.out.2.2.1, HPU.out.2.2.2, fun h => absurd h ht⟩
      case done =>
        rintro D7 W7 hD7 ⟨i1, i2, i3, i4, i5⟩ hd7
        rw [enum_length, HDL.out] at i1 i5
        have hM7 := i4.cons (n1 := W2.heap.size) HE2.out hD7 HDs.out hd7
        have hO7 := HWE8.out.below i3
        have n7 := i1.cell
        have t7 := i2.cell
        have o7 : W7.cell? ⟨w.heap.size, 0, none⟩ = some (.int .i64 (nb : Int)) := cell_of_row W7 w.heap.size 0 _ 23 (0, 0) hO7.hg
        have m7 := hO7.hm.cell
        have HM7 := Lib.hid hM7
        have HB7 := Lib.hid i3
        have hOz : (nb : Int) ≤ 4096 := by have := HNBW.out; omega
        have hO2 : (2 : Int) ≤ (nb : Int) := by have := HNBW.out; omega
        clear i1 i2 i3 i4 hO7 hM7 hd7 hD7 HY hb2 hN2 ht2 hE2 hM2
        by_cases ht : turn = 0
        · have ht0 : (turn : Int) = 0 := by omega
          rw [ht0] at t7
          have hmin : min (nb : Int) (max 1 many) = (nb : Int) := by have := i5 ht; omega
          gi_wp2
          obtain ⟨g1, g2, g3, g4⟩ := ov_next (turn := turn) HB7.out HM7.out 1 (by omega)
          exact HKK.out (m - 1) _ _ _ (by have := HM.out; omega) (OvI.mk' (turn := turn + 1) (T := W7.heap.size) (Ds := D7 :: Ds) (by have := HM.out; omega) rfl rfl g1 g2 g3 g4)
        · have ht1 : (turn : Int) = 1 := by omega
          rw [ht1] at t7
          gi_wp2
          obtain ⟨g1, g2, g3, g4⟩ := ov_next (turn := turn) HB7.out HM7.out 2 (by omega)
          exact HKK.out (m - 1) _ _ _ (by have := HM.out; omega) (OvI.mk' (turn := turn + 1) (T := W7.heap.size) (Ds := D7 :: Ds) (by have := HM.out; omega) rfl rfl g1 g2 g3 g4)
      case stop =>
        rintro D7 cc k W7 hD7 hk ⟨rfl, i1, i2, i3, i4, ht, h1, h2, h3⟩ hd7
        rw [enum_length, HDL.out] at hk
        have hM7 := i4.cons (n1 := W2.heap.size) HE2.out hD7 HDs.out hd7
        have hO7 := HWE8.out.below i3
        have n7 := i1.cell
        have t7 := i2.cell
        have o7 : W7.cell? ⟨w.heap.size, 0, none⟩ = some (.int .i64 (nb : Int)) := cell_of_row W7 w.heap.size 0 _ 23 (0, 0) hO7.hg
        have m7 := hO7.hm.cell
        have HM7 := Lib.hid hM7
        have HB7 := Lib.hid i3
        have hOz : (nb : Int) ≤ 4096 := by have := HNBW.out; omega
        clear i1 i2 i3 i4 hO7 hM7 hd7 hD7 HY hb2 hN2 ht2 hE2 hM2
        have ht0 : (turn : Int) = 0 := by omega
        rw [ht0] at t7
        have hmin : min (nb : Int) (max 1 many) = (k : Int) := by omega
        gi_wp2
        all_goals
          obtain ⟨g1, g2, g3, g4⟩ := ov_next (turn := turn) HB7.out HM7.out 1 (by omega)
          exact HKK.out (m - 1) _ _ _ (by have := HM.out; omega) (OvI.mk' (turn := turn + 1) (T := W7.heap.size) (Ds := D7 :: Ds) (by have := HM.out; omega) rfl rfl g1 g2 g3 g4)
    · have htz : ¬ (turn : Int) < 2 := by omega
      clear hK hoW hbe hT hxT hmk hm
      gi_wp2
      go_wp2_with ((go_at_call 10; (with_reducible refine (HWK.out _).mono ?_)); rintro e W2 ⟨rfl, hb2⟩; have HW2 := Lib.hid hb2; have x2 := (HOW.out.hr.below hb2).cell; have y2 := (HOW.out.hr.below hb2).free; clear hb2)
      exact or_end (Ds := Ds) (((HMK.out.below HW2.out)).from (HWE8.out.hb.size)) (HOW.out.hb.trans (HW2.out.mono HOW.out.hb.size)) (HOW.out.hr.below HW2.out) (by omega) rfl
theorem wear_any (nb np sz en many : Int) (vl : Value) (L : List KA) (w : World) (hL : Acts w vl L) (hok : ∀ e ∈ L, KA.ok w e) : Calls Try.prog 5 #[.agg #[.int .i64 nb, .int .i64 np, .int .i64 sz, .int .i64 en], vl, .int .i64 many] w (RetB w (.bool true)) := by
  cases h1 : smB nb np sz en
  · exact wear_pre hL hok (.inl h1)
  cases h2 : fewB L 25
  · exact wear_pre hL hok (.inr (.inl ⟨h1, h2⟩))
  cases h3 : valB nb np sz en
  · exact wear_pre hL hok (.inr (.inr ⟨h1, h2, h3⟩))
  obtain ⟨a, b, c, rfl, rfl, rfl, _⟩ := valB_nat h3
  exact wear_main a b c en many vl L w hL hok h1 h2 h3
end Go.Proofs.Ytddejcoagcaidaa
