/- The walk of FlashPlays. Conditions stand in each theorem. -/
import Derived.Test.YtddejcoagcaidaaDO
import Derived.Test.YtddejcoagcaidaaDP
import Derived.Test.YtddejcoagcaidaaDR
import Derived.Test.YtddejcoagcaidaaAA
import Derived.Test.YtddejcoagcaidaaBC
import Derived.Deep.RegionHeld3
namespace Go.Proofs.Ytddejcoagcaidaa
open Go.RowKit
set_option linter.unusedVariables false
set_option maxHeartbeats 16000000
set_option maxRecDepth 100000
/-- What a walk of a law leaves. -/
def LwP (w : World) (e : Ending) (w' : World) : Prop := e = .returned (.bool true) ∧ Below w.heap.size w w'
theorem few_belowP {w : World} {vl : Value} {L : List KA} (most : Nat) (mi : Int) (hmi : mi = (most : Int)) (hm : most ≤ 100) (hL : Acts w vl L) (hok : ∀ e ∈ L, KA.ok w e) : ∀ W, Below w.heap.size w W → Calls Try.prog 9 #[vl, .int .i64 mi] W (OkB (fewB L most) W) := by
  subst hmi
  exact fun W hW => few_any vl L most W (hL.below hW) (fun e he => ⟨(hok e he).1.below hW, (hok e he).2.below hW⟩) hm
theorem plays_pre {nb np sz en : Int} {vf vl : Value} {xs : List Int} {L : List KA} {w : World} (hx : Ints w vf xs) (hL : Acts w vl L) (hok : ∀ e ∈ L, KA.ok w e)
    (hc : smB nb np sz en = false ∨ (smB nb np sz en = true ∧ ¬ xs.length ≤ 20) ∨ (smB nb np sz en = true ∧ xs.length ≤ 20 ∧ fewB L 40 = false)) : Calls Try.prog 3 #[.agg #[.int .i64 nb, .int .i64 np, .int .i64 sz, .int .i64 en], vf, vl] w (LwP w) := by
  have HSM := Lib.hid (fun W => small_any nb np sz en W)
  have HF := Lib.hid (few_belowP 40 40 rfl (by omega) hL hok)
  obtain ⟨Af, cf, ef, _⟩ := hx
  obtain ⟨Al, cl, el, _⟩ := hL
  subst ef
  subst el
  clear hok
  rcases hc with h1 | ⟨h1, h2⟩ | ⟨h1, h2, h3⟩
  · have HSB := Lib.hid h1
    clear h1 HF
    go_enter Try.func3, Try.ntmps3
    go_wp2_with (first
      | ((go_at_call 8; with_reducible refine (HSM.out _).mono ?_); rintro e w1 ⟨he, hb⟩; rw [HSB.out] at he; subst he; have HB1 := Lib.hid ((below_alloc w _).trans (hb.mono (by simp))); clear hb)
      | ((go_at_call 10; with_reducible refine (works_any _).mono ?_); rintro e w5 ⟨rfl, hb5⟩; have HB5 := Lib.hid hb5; clear hb5))
    go_ret
    exact ⟨rfl, HB1.out.trans (HB5.out.mono HB1.out.size)⟩
  · have HSB := Lib.hid h1
    have h20 : (20 : Int) < (xs.length : Int) := by omega
    have d20 : decide ((20 : Int) < (xs.length : Int)) = true := decide_eq_true h20
    clear h1 HF h2
    go_enter Try.func3, Try.ntmps3
    go_wp2_with (first
      | ((go_at_call 8; with_reducible refine (HSM.out _).mono ?_); rintro e w1 ⟨he, hb⟩; rw [HSB.out] at he; subst he; have HB1 := Lib.hid ((below_alloc w _).trans (hb.mono (by simp))); clear hb)
      | ((go_at_call 10; with_reducible refine (works_any _).mono ?_); rintro e w5 ⟨rfl, hb5⟩; have HB5 := Lib.hid hb5; clear hb5))
    go_ret
    exact ⟨rfl, HB1.out.trans (HB5.out.mono HB1.out.size)⟩
  · have HSB := Lib.hid h1
    have HFB := Lib.hid h3
    have h20 : ¬ (20 : Int) < (xs.length : Int) := by omega
    have hx20 : (xs.length : Int) ≤ 20 := by omega
    clear h1 h3 h2
    go_enter Try.func3, Try.ntmps3
    go_wp2_with (first
      | ((go_at_call 8; with_reducible refine (HSM.out _).mono ?_); rintro e w1 ⟨he, hb⟩; rw [HSB.out] at he; subst he; have HB1 := Lib.hid ((below_alloc w _).trans (hb.mono (by simp))); clear hb)
      | ((go_at_call 9; with_reducible refine (HF.out _ HB1.out).mono ?_); rintro e w' ⟨he, hw⟩; rw [HFB.out] at he; subst he; subst hw)
      | ((go_at_call 10; with_reducible refine (works_any _).mono ?_); rintro e w5 ⟨rfl, hb5⟩; have HB5 := Lib.hid hb5; clear hb5))
    go_ret
    exact ⟨rfl, HB1.out.trans (HB5.out.mono HB1.out.size)⟩
attribute [local go_sem ↓ 100000] loadX_eq storeX_eq
theorem r35zero : R35 #[.int .i64 0, .int .i64 0, .int .i64 0, .int .i64 0, .slice none 0 0, .slice none 0 0, .slice none 0 0, .int .i64 0, .int .i64 0, .int .i64 0, .bool false] := ⟨info35, by simp [Value.oneCell']⟩
/-- No device is made. -/
theorem plays_no {nb np sz en : Int} {vf vl : Value} {xs : List Int} {L : List KA} {w : World} (hx : Ints w vf xs) (hL : Acts w vl L) (hok : ∀ e ∈ L, KA.ok w e) (hs : smB nb np sz en = true) (hl : xs.length ≤ 20) (hf : fewB L 40 = true)
    (hn : ∀ W, Below w.heap.size w W → Calls Try.prog 11 #[.agg #[.int .i64 nb, .int .i64 np, .int .i64 sz, .int .i64 en], vf] W fun e w' => e = .returned (.tuple #[.pointer none, .int .i64 2]) ∧ Below W.heap.size W w')
    (hm : ∀ W, Below w.heap.size w W → Calls Try.prog 12 #[.agg #[.int .i64 nb, .int .i64 np, .int .i64 sz, .int .i64 en], vf] W fun e w' => e = .returned (.tuple #[.agg #[.int .i64 0, .int .i64 0, .int .i64 0, .int .i64 0, .slice none 0 0, .slice none 0 0, .slice none 0 0, .int .i64 0, .int .i64 0, .int .i64 0, .bool false], .int .i64 2]) ∧ Below W.heap.size W w') : Calls Try.prog 3 #[.agg #[.int .i64 nb, .int .i64 np, .int .i64 sz, .int .i64 en], vf, vl] w (LwP w) := by
  have HSM := Lib.hid (fun W => small_any nb np sz en W)
  have HF := Lib.hid (few_belowP 40 40 rfl (by omega) hL hok)
  have HN := Lib.hid hn
  have HM := Lib.hid hm
  have HSB := Lib.hid hs
  have HFB := Lib.hid hf
  obtain ⟨Af, cf, ef, _⟩ := hx
  obtain ⟨Al, cl, el, _⟩ := hL
  subst ef
  subst el
  have h20 : ¬ (20 : Int) < (xs.length : Int) := by omega
  have hx20 : (xs.length : Int) ≤ 20 := by omega
  have hll : (0 : Int) ≤ (L.length : Int) := by omega
  have HLL : Hid (L.length ≤ 40) := Lib.hid (by
    unfold fewB at hf
    rw [Bool.and_eq_true] at hf
    exact of_decide_eq_true hf.1)
  have hl40 : (L.length : Int) ≤ 40 := by have := HLL.out; omega
  clear hok hn hm hs hf hl
  go_enter Try.func3, Try.ntmps3
  go_wp2_with (first
    | ((go_at_call 8; with_reducible refine (HSM.out _).mono ?_); rintro e w1 ⟨he, hb⟩; rw [HSB.out] at he; subst he; obtain ⟨⟨k0, k1, k2, k3⟩, hwl, hbb⟩ := geo_cells hb; have HB1 := Lib.hid hbb; have HBX := Lib.hid ((hb.block w.heap.size (by simp)).trans (heap_alloc_new w _)); clear hb hbb)
    | ((go_at_call 9; with_reducible refine (HF.out _ HB1.out).mono ?_); rintro e w' ⟨he, hw⟩; rw [HFB.out] at he; subst he; subst hw)
    | ((go_at_call 11; with_reducible refine (HN.out _ HB1.out).mono ?_); rintro e w2 ⟨rfl, hb2⟩; have HB2 := Lib.hid (HB1.out.trans (hb2.mono HB1.out.size)); have q0 := (hb2.cell (p := ⟨w.heap.size, 0, none⟩) hwl).trans k0; have q1 := (hb2.cell (p := ⟨w.heap.size, 1, none⟩) hwl).trans k1; have q2 := (hb2.cell (p := ⟨w.heap.size, 2, none⟩) hwl).trans k2; have q3 := (hb2.cell (p := ⟨w.heap.size, 3, none⟩) hwl).trans k3; clear hb2)
    | ((go_at_call 12; with_reducible refine (HM.out _ HB2.out).mono ?_); rintro e w3 ⟨rfl, hb3⟩; have HB3 := Lib.hid (HB2.out.trans (hb3.mono HB2.out.size)); have V3 := r35zero.store (heap_alloc_new w3 (.cells #[.int .i64 0, .int .i64 0, .int .i64 0, .int .i64 0, .slice none 0 0, .slice none 0 0, .slice none 0 0, .int .i64 0, .int .i64 0, .int .i64 0, .bool false] 35)) rfl; clear hb3)
    | ((go_at_call 13; with_reducible refine (num_any _ _).mono ?_); rintro e w' ⟨rfl, rfl⟩)
    | ((go_at_call 10; with_reducible refine (works_any _).mono ?_); rintro e w5 ⟨rfl, hb5⟩; have HB5 := Lib.hid hb5; clear hb5))
  obtain ⟨W4, hW4⟩ : ∃ W4, W4 = (w3.alloc (.cells #[.int .i64 0, .int .i64 0, .int .i64 0, .int .i64 0, .slice none 0 0, .slice none 0 0, .slice none 0 0, .int .i64 0, .int .i64 0, .int .i64 0, .bool false] 35)).setRow w3.heap.size #[.int .i64 0, .int .i64 0, .int .i64 0, .int .i64 0, .slice none 0 0, .slice none 0 0, .slice none 0 0, .int .i64 0, .int .i64 0, .int .i64 0, .bool false] := ⟨_, rfl⟩
  have hb4 : Below w.heap.size w W4 := by rw [hW4]; exact setRow_below (HB3.out.alloc HB3.out.size _) HB3.out.size
  have HB4 := Lib.hid hb4
  rw [← hW4]
  clear hW4 hb4 V3 q0 q1 q2 q3 k0 k1 k2 k3
  go_loopw [11] (fun v wr => v = .int .i64 0 ∧ wr = W4) (fun v _ => 0)
  case atStart => exact ⟨rfl, rfl⟩
  case round =>
    obtain ⟨rfl, rfl⟩ := hrel
    by_cases h0 : (0 : Int) < (L.length : Int)
    · go_wp2_with ((go_at_call 10; with_reducible refine (works_any _).mono ?_); rintro e w5 ⟨rfl, hb5⟩; have HB5 := Lib.hid hb5; clear hb5)
      (try simp only [Exit.inBlock, Exit.then])
      go_ret
      exact ⟨rfl, HB4.out.trans (HB5.out.mono HB4.out.size)⟩
    · go_wp2_with ((go_at_call 10; with_reducible refine (works_any _).mono ?_); rintro e w5 ⟨rfl, hb5⟩; have HB5 := Lib.hid hb5; clear hb5)
      (try simp only [Exit.inBlock, Exit.then])
      go_ret
      exact ⟨rfl, HB4.out.trans (HB5.out.mono HB4.out.size)⟩
/-- A device and its reference after k calls; the reference's value lies in the block D. -/
def PS (w : World) (b g m D : Nat) (xs : List Int) (k : Nat) (W : World) : Prop := ∃ V s vf vp ve pb, Dv W w.heap.size b g m V s ∧ Gd s ∧ Rd W xs s vf vp ve pb ∧ s.n ≤ (k : Int) ∧ W.heap[D]? = some (.cells (rdv s vf vp ve pb) 35 (0, 0))
theorem Dv.rebase2 {w : World} {base base' b g m : Nat} {V : Nat → Value} {s : Dev} (h : Dv w base b g m V s) (hb : base' ≤ base) : Dv w base' b g m V s :=
  ⟨h.blk, Nat.le_trans hb h.hb, Nat.le_trans hb h.hg, Nat.le_trans hb h.hm, h.grid, fun i hi => by
    obtain ⟨xs, h1, h2⟩ := h.row i hi
    exact ⟨xs, own_base h1 hb, h2⟩, h.apart, h.flt⟩
theorem Dv.setRow35 {W : World} {base b g m q : Nat} {V : Nat → Value} {s : Dev} (h : Dv W base b g m V s) {old cs : Array Value} (hq : W.heap[q]? = some (.cells old 35 (0, 0))) : Dv (W.setRow q cs) base b g m V s := by
  have hc : Chg (· = q) W (W.setRow q cs) := ⟨rfl, rfl, rfl, by rw [size_setRow]; exact Nat.le_refl _, fun k _ hk => setRow_other W q k cs hk⟩
  refine h.chg hc (fun k hk e => ?_) (fun k hk e cs' fr e2 => ?_)
  · subst e
    exact h.off_ty hq (by decide) (by decide) (by decide) hk
  · subst e
    exact absurd (ty_ne hq e2) (by decide)
theorem ps_rel {w F : World} {bb gg mm q D : Nat} {xs : List Int} {S1 : Dev} {vf1 vp1 ve1 : Value} {pb1 : Int} {V1 : Nat → Value} {R5 R0 : Array Value} (hq : F.heap[q]? = some (.cells #[.int .i64 0, .int .i64 0, .int .i64 0, .int .i64 0, .slice none 0 0, .slice none 0 0, .slice none 0 0, .int .i64 0, .int .i64 0, .int .i64 0, .bool false] 35 (0, 0))) (hw : w.heap.size ≤ q) (hne : q ≠ D) (hR : R5 = rdv S1 vf1 vp1 ve1 pb1) (hr : Rd F xs S1 vf1 vp1 ve1 pb1) (hv : Dv F w.heap.size bb gg mm V1 S1) (hD : F.heap[D]? = some (.cells R0 35 (0, 0))) (hB : Below w.heap.size w F) (a b : Value) (ha : a = .pointer (some ⟨q, 0, none⟩)) (hb : b = .bool true) (wx : World) (hwx : wx = F.setRow q R5) :
    ∃ (Y : Nat) (R3 : Array Value) (vf1 vp1 ve1 : Value) (pb1 : Int), a = .pointer (some ⟨Y, 0, none⟩) ∧ b = .bool true ∧ Hid (wx.heap[Y]? = some (.cells R3 35 (0, 0))) ∧ Hid (R3 = rdv S1 vf1 vp1 ve1 pb1 ∧ Rd wx xs S1 vf1 vp1 ve1 pb1) ∧ Hid (∃ V', Dv wx w.heap.size bb gg mm V' S1) ∧ Hid (wx.heap[D]? = some (.cells R0 35 (0, 0))) ∧ Hid (Below w.heap.size w wx) ∧ Hid (Y ≠ D ∧ w.heap.size ≤ Y) := by
  subst hwx
  exact ⟨q, R5, vf1, vp1, ve1, pb1, ha, hb, Lib.hid (setRow_at hq), Lib.hid ⟨hR, hr.kt (setRow_kt hq)⟩, Lib.hid ⟨V1, hv.setRow35 hq⟩, Lib.hid ((setRow_other F q D _ hne.symm).trans hD), Lib.hid (setRow_below hB hw), Lib.hid ⟨hne, hw⟩⟩
/-- What act leaves, told of the law's world. -/
def AcM (w0 w : World) (b g m : Nat) (fs : List Int) (s' : Dev) (e : Ending) (w' : World) : Prop := ∃ vf vp ve pb V', e = .returned (.tuple #[.agg (rdv s' vf vp ve pb), .bool true]) ∧ Rd w' fs s' vf vp ve pb ∧ Dv w' w0.heap.size b g m V' s' ∧ Below w0.heap.size w0 w' ∧ (∀ (k : Nat) (cs : Array Value), w.heap[k]? = some (.cells cs 35 (0, 0)) → w'.heap[k]? = some (.cells cs 35 (0, 0))) ∧ w.heap.size ≤ w'.heap.size
theorem act_more {w0 w : World} {b g m : Nat} {V : Nat → Value} {fs : List Int} {s s' : Dev} {args : Array Value} (h : Dv w w0.heap.size b g m V s) (hb : Below w0.heap.size w0 w) (hc : Calls Try.prog 14 args w (ActPost w w0.heap.size b g m V fs s s')) : Calls Try.prog 14 args w (AcM w0 w b g m fs s') :=
  hc.mono fun e w' ⟨vf, vp, ve, pb, h1, h2, V', h3, h4, _⟩ => ⟨vf, vp, ve, pb, V', h1, h2, h3, hb.trans (h4.below hb.size (fun i hi => h.foot_ge hi)), fun k cs hk => (h4.block k (Array.getElem?_eq_some_iff.1 hk).1 (h.off_ty hk (by decide) (by decide) (by decide))).trans hk, h4.size⟩
theorem plays_main (nb np sz : Nat) (en : Int) (vf vl : Value) (xs : List Int) (L : List KA) (w : World) (hx : Ints w vf xs) (hR : ∀ x ∈ xs, I64 x) (hL : Acts w vl L) (hok : ∀ e ∈ L, KA.ok w e)
    (hs : smB nb np sz en = true) (hl : xs.length ≤ 20) (hf : fewB L 40 = true) (hv : valB nb np sz en = true) (hpos : posB xs = true) : Calls Try.prog 3 #[.agg #[.int .i64 (nb : Int), .int .i64 (np : Int), .int .i64 (sz : Int), .int .i64 en], vf, vl] w (LwP w) := by
  have hfew : L.length ≤ 40 ∧ ∀ e ∈ L, e.x.length ≤ 100 ∧ e.y.length ≤ 100 := by
    unfold fewB at hf
    rw [Bool.and_eq_true] at hf
    refine ⟨of_decide_eq_true hf.1, fun e he => ?_⟩
    have h2 := List.all_eq_true.1 hf.2 e he
    unfold fewE at h2
    rw [Bool.and_eq_true] at h2
    exact ⟨of_decide_eq_true h2.1, of_decide_eq_true h2.2⟩
  have HFW := Lib.hid hfew
  have HSM := Lib.hid (fun W => small_any (nb : Int) np sz en W)
  have HF := Lib.hid (few_belowP 40 40 rfl (by omega) hL hok)
  obtain ⟨a, b, c, e1, e2, e3, hv1, hv2, hv3, hv4, hv5, hv6, hv7, hv8⟩ := valB_nat hv
  have HG : Hid (∀ F, Gd (Dev.new nb np sz en F)) := Lib.hid fun F => gd_new (by omega)
  have HN := Lib.hid (fun W (hW : Below w.heap.size w W) => New_ok nb np sz en vf xs W hv (hx.below' hW) hR (by omega))
  have HM := Lib.hid (fun W (hW : Below w.heap.size w W) => rNew_ok nb np sz en vf xs W hv (hx.below' hW) (by omega))
  have HSB := Lib.hid hs
  have HFB := Lib.hid hf
  have HP := Lib.hid hpos
  have HOK := Lib.hid hok
  have HL := Lib.hid hL
  obtain ⟨Af, cf, ef, _⟩ := hx
  obtain ⟨Al, cl, el, _⟩ := hL
  subst ef
  subst el
  have h20 : ¬ (20 : Int) < (xs.length : Int) := by omega
  have hx20 : (xs.length : Int) ≤ 20 := by omega
  have hll : (0 : Int) ≤ (L.length : Int) := by omega
  have hl40 : (L.length : Int) ≤ 40 := by have := HFW.out.1; omega
  have HX20 := Lib.hid hl
  clear hok hs hf hl hR hv hpos hfew e1 e2 e3 hv1 hv2 hv3 hv4 hv5 hv6 hv7 hv8
  go_enter Try.func3, Try.ntmps3
  go_wp2_with (first
    | ((go_at_call 8; with_reducible refine (HSM.out _).mono ?_); rintro e w1 ⟨he, hb⟩; rw [HSB.out] at he; subst he; obtain ⟨⟨k0, k1, k2, k3⟩, hwl, hbb⟩ := geo_cells hb; have HB1 := Lib.hid hbb; clear hb hbb)
    | ((go_at_call 9; with_reducible refine (HF.out _ HB1.out).mono ?_); rintro e w' ⟨he, hw⟩; rw [HFB.out] at he; subst he; subst hw)
    | ((go_at_call 11; with_reducible refine (HN.out _ HB1.out).mono ?_); rintro e w2 hpost; rw [NewPost, HP.out] at hpost; obtain ⟨bb, gg, mm, rfl, hd, hb2⟩ := (hpost.resolve_left (fun h => by cases h.1)).2; have HD := Lib.hid (hd.rebase2 HB1.out.size); have HB2 := Lib.hid (HB1.out.trans (hb2.mono HB1.out.size)); have q0 := (hb2.cell (p := ⟨w.heap.size, 0, none⟩) hwl).trans k0; have q1 := (hb2.cell (p := ⟨w.heap.size, 1, none⟩) hwl).trans k1; have q2 := (hb2.cell (p := ⟨w.heap.size, 2, none⟩) hwl).trans k2; have q3 := (hb2.cell (p := ⟨w.heap.size, 3, none⟩) hwl).trans k3; clear hpost hd hb2)
    | ((go_at_call 12; with_reducible refine (HM.out _ HB2.out).mono ?_); rintro e w3 hpost; rw [RNPost, HP.out] at hpost; obtain ⟨vf1, vp1, ve1, rfl, hr3, hb3⟩ := (hpost.resolve_left (fun h => by cases h.1)).2; have HD3 := Lib.hid (HD.out.below hb3); have HB3 := Lib.hid (HB2.out.trans (hb3.mono HB2.out.size)); obtain ⟨R3, hR3⟩ : ∃ R3, R3 = rdv (Dev.new nb np sz en xs.reverse) vf1 vp1 ve1 0 := ⟨_, rfl⟩; rw [← hR3]; have HR3 := Lib.hid (hR3 ▸ R35.rd hr3); have HRD3 := Lib.hid (And.intro hr3 hR3); have V3 := HR3.out.store (heap_alloc_new w3 (.cells #[.int .i64 0, .int .i64 0, .int .i64 0, .int .i64 0, .slice none 0 0, .slice none 0 0, .slice none 0 0, .int .i64 0, .int .i64 0, .int .i64 0, .bool false] 35)) rfl; clear hpost hb3 hr3 hR3)
    | ((go_at_call 13; with_reducible refine (num_any _ _).mono ?_); rintro e w' ⟨rfl, rfl⟩))
  obtain ⟨D, hD⟩ : ∃ D, D = w3.heap.size := ⟨_, rfl⟩
  obtain ⟨W4, hW4⟩ : ∃ W4, W4 = (w3.alloc (.cells #[.int .i64 0, .int .i64 0, .int .i64 0, .int .i64 0, .slice none 0 0, .slice none 0 0, .slice none 0 0, .int .i64 0, .int .i64 0, .int .i64 0, .bool false] 35)).setRow w3.heap.size R3 := ⟨_, rfl⟩
  have hb4 : Below w.heap.size w W4 := by rw [hW4]; exact setRow_below (HB3.out.alloc HB3.out.size _) HB3.out.size
  have hb34 : Below w3.heap.size w3 W4 := by rw [hW4]; exact setRow_below (balloc w3 _) (Nat.le_refl _)
  have HB4 := Lib.hid hb4
  have HDl : Hid (w.heap.size ≤ D) := Lib.hid (by rw [hD]; exact HB3.out.size)
  have HPS : Hid (PS w bb gg mm D xs 0 W4) := Lib.hid ⟨_, _, _, _, _, _, HD3.out.below hb34, HG.out _, HRD3.out.1.below hb34, Int.le_refl _, by rw [hD, hW4, ← HRD3.out.2]; exact setRow_at (heap_alloc_new w3 _)⟩
  rw [← hW4, ← hD]
  clear hW4 hb4 hb34 V3 q0 q1 q2 q3 k0 k1 k2 k3 hD HD HD3 HR3 HRD3 HB1 HB2 HB3 hwl
  go_loopw [11] (fun v wr => ∃ k : Nat, k ≤ L.length ∧ v = .int .i64 k ∧ Hid (PS w bb gg mm D xs k wr) ∧ Hid (Below w.heap.size w wr)) (fun v _ => L.length - (RowKit.intOf v).toNat)
  case atStart => exact ⟨0, Nat.zero_le _, rfl, HPS, HB4⟩
  case round =>
    obtain ⟨k, hk, rfl, HPk, HBk⟩ := hrel
    clear HPS HB4
    by_cases hlt : k < L.length
    · have kk : (k : Int) < (L.length : Int) := by omega
      have k00 : (0 : Int) ≤ (k : Int) := by omega
      obtain ⟨_, _, ee, hr⟩ := HL.out
      simp only [Value.slice.injEq] at ee
      obtain ⟨rfl, _, rfl⟩ := ee
      obtain ⟨ga, oa, rfl, hga, hcell⟩ := hr (by omega)
      obtain ⟨c0, c1, c2, c3, c4⟩ := hcell k hlt
      obtain ⟨V, s, vf, vp, ve, pb, hdv, hgd, hrd, hsn, hbx⟩ := HPk.out
      obtain ⟨X, hX⟩ : ∃ X, X = L[k] := ⟨_, rfl⟩
      have hXk := HOK.out _ (List.getElem_mem hlt)
      have hX1 := HFW.out.2 _ (List.getElem_mem hlt)
      rw [← hX] at c0 c1 c2 c3 c4 hXk hX1
      have HAC := Lib.hid (fun W (hW : Below wr.heap.size wr W) => act_more (hdv.below hW) (HBk.out.trans (hW.mono HBk.out.size)) (act_any (hdv.below hW) hgd (hrd.below hW) (by have := HFW.out.1; omega) (by have := HX20.out; omega) X ⟨hXk.1.below (HBk.out.trans (hW.mono HBk.out.size)), hXk.2.below (HBk.out.trans (hW.mono HBk.out.size))⟩ (by omega) (by omega) (hXk.1.off (fun q hq => by rw [hq]; exact hdv.hb)) (hXk.2.off (fun q hq => by rw [hq]; exact hdv.hb))))
      have HDV := Lib.hid hdv
      have HGD := Lib.hid (gd_act hgd X)
      have HSN : Hid ((actS s X).n ≤ ((k + 1 : Nat) : Int)) := Lib.hid (by have := n_act s X; omega)
      obtain ⟨R0, hR0⟩ : ∃ R0, R0 = rdv s vf vp ve pb := ⟨_, rfl⟩
      have HR0 := Lib.hid (hR0 ▸ R35.rd hrd)
      rw [← hR0] at HAC hbx
      unfold KA.enc at HAC
      have HLEN : Hid (R0.size = 11) := Lib.hid HR0.out.len
      have HBX := Lib.hid hbx
      obtain ⟨S1, hS1⟩ : ∃ S1, S1 = actS s X := ⟨_, rfl⟩
      rw [← hS1] at HAC HGD HSN
      obtain ⟨wh, bl, pg, vd, vs, x, y⟩ := X
      simp only at c0 c1 c2 c3 c4 HAC
      clear hr hcell hdv hgd hrd hsn hbx hX hXk hX1 hR0 hS1 HPk
      have C0 := Lib.hid (And.intro c0 (And.intro c1 (And.intro c2 (And.intro c3 c4))))
      clear c0 c1 c2 c3 c4
      go_upto_region 10 with fail
      go_cut [12, 13] from 61 to 70 (fun a b wx => ∃ (Y : Nat) (R3 : Array Value) (vf1 vp1 ve1 : Value) (pb1 : Int), a = .pointer (some ⟨Y, 0, none⟩) ∧ b = .bool true ∧ Hid (wx.heap[Y]? = some (.cells R3 35 (0, 0))) ∧ Hid (R3 = rdv S1 vf1 vp1 ve1 pb1 ∧ Rd wx xs S1 vf1 vp1 ve1 pb1) ∧ Hid (∃ V', Dv wx w.heap.size bb gg mm V' S1) ∧ Hid (wx.heap[D]? = some (.cells R0 35 (0, 0))) ∧ Hid (Below w.heap.size w wx) ∧ Hid (Y ≠ D ∧ w.heap.size ≤ Y))
      case first =>
        have SC : Hid (∀ W, W.heap[D]? = some (.cells R0 35 (0, 0)) → Below w.heap.size w W → (loadX ⟨D, 0, none⟩).run Try.prog W = .ok (.agg R0) W ∧ W.cell? ⟨ga, oa + k * 5, none⟩ = some (.int .i64 wh) ∧ W.cell? ⟨ga, oa + k * 5 + 1, none⟩ = some (.int .i64 bl) ∧ W.cell? ⟨ga, oa + k * 5 + 2, none⟩ = some (.int .i64 pg) ∧ W.cell? ⟨ga, oa + k * 5 + 3, none⟩ = some vd ∧ W.cell? ⟨ga, oa + k * 5 + 4, none⟩ = some vs) := Lib.hid (fun W hD hB => by
          obtain ⟨c0, c1, c2, c3, c4⟩ := C0.out
          have hBd : ∀ j, W.cell? ⟨ga, j, none⟩ = w.cell? ⟨ga, j, none⟩ := fun j => hB.cell (p := ⟨ga, j, none⟩) hga
          exact ⟨HR0.out.load hD, (hBd _).trans c0, (hBd _).trans c1, (hBd _).trans c2, (hBd _).trans c3, (hBd _).trans c4⟩)
        have HBd : Hid (Below w.heap.size w wr.drew) := Lib.hid HBk.out.drew
        have HDd : Hid (wr.drew.heap[D]? = some (.cells R0 35 (0, 0))) := Lib.hid HBX.out
        have hDl := (Array.getElem?_eq_some_iff.1 HBX.out).1
        have HDl2 := Lib.hid hDl
        clear hDl
        go_region_held3 (fun W => (loadX ⟨D, 0, none⟩).run Try.prog W = .ok (.agg R0) W ∧ W.cell? ⟨ga, oa + k * 5, none⟩ = some (.int .i64 wh) ∧ W.cell? ⟨ga, oa + k * 5 + 1, none⟩ = some (.int .i64 bl) ∧ W.cell? ⟨ga, oa + k * 5 + 2, none⟩ = some (.int .i64 pg) ∧ W.cell? ⟨ga, oa + k * 5 + 3, none⟩ = some vd ∧ W.cell? ⟨ga, oa + k * 5 + 4, none⟩ = some vs)
          (first
          | assumption
          | exact SC.out _ HDd.out HBd.out
          | exact SC.out _ ((heap_alloc_old _ _ HDl2.out).trans HDd.out) (HBd.out.alloc HBd.out.size _)
          | exact SC.out _ ((heap_alloc_old _ _ HDl2.out).trans HDd.out) (HBk.out.alloc HBk.out.size _).drew
          | exact SC.out _ HD5.out HB5.out
          | exact SC.out _ ((heap_alloc_old _ _ (Array.getElem?_eq_some_iff.1 HD5.out).1).trans HD5.out) (HB5.out.alloc HB5.out.size _)
          | exact SC.out _ ((setRow_other _ _ _ _ (by have := HDl2.out; have := HZ5.out; omega)).trans HD5.out) (setRow_below HB5.out (by have := HBk.out.size; have := HZ5.out; omega))
          | exact SC.out _ ((setRow_other _ _ _ _ (by have := HDl2.out; have := HZ5.out; omega)).trans ((heap_alloc_old _ _ (Array.getElem?_eq_some_iff.1 HD5.out).1).trans HD5.out)) (setRow_below (HB5.out.alloc HB5.out.size _) (by have := HBk.out.size; have := HZ5.out; omega)))
          (first
          | ((go_at_call 14; with_reducible refine (HAC.out _ (by first | exact (Below.refl _ _).drew | exact (balloc _ _).drew | exact ((Below.refl _ _).drew).alloc (Nat.le_refl _) _)).mono ?_); rintro e W5 ⟨vf1, vp1, ve1, pb1, V1, rfl, hr5, hv5, hb5, h35, hz5⟩; obtain ⟨R5, hR5⟩ : ∃ R5, R5 = rdv S1 vf1 vp1 ve1 pb1 := ⟨_, rfl⟩; rw [← hR5]; have HR5 := Lib.hid (hR5 ▸ R35.rd hr5); have HRD5 := Lib.hid (And.intro hR5 hr5); have HV5 := Lib.hid hv5; have HB5 := Lib.hid hb5; have HD5 : Hid (W5.heap[D]? = some (.cells R0 35 (0, 0))) := Lib.hid (h35 D R0 (by first | exact HDd.out | exact (heap_alloc_old _ _ HDl2.out).trans HBX.out)); have HZ5 : Hid (wr.heap.size ≤ W5.heap.size) := Lib.hid (Nat.le_trans (by first | exact Nat.le_refl _ | (simp <;> omega)) hz5); have VB := HR5.out.store (heap_alloc_new W5 (.cells #[.int .i64 0, .int .i64 0, .int .i64 0, .int .i64 0, .slice none 0 0, .slice none 0 0, .slice none 0 0, .int .i64 0, .int .i64 0, .int .i64 0, .bool false] 35)) rfl; (first | (have hq5 := h35 wr.heap.size #[.int .i64 0, .int .i64 0, .int .i64 0, .int .i64 0, .slice none 0 0, .slice none 0 0, .slice none 0 0, .int .i64 0, .int .i64 0, .int .i64 0, .bool false] (heap_alloc_new wr _); have VA := HR5.out.store hq5 rfl; have HQ5 := Lib.hid hq5; clear hq5) | skip); clear hr5 hv5 hb5 h35 hz5 hR5))
        all_goals
          go_wp2
          go_meet
          case rel => first
            | exact ps_rel HQ5.out HBk.out.size (by have := HDl2.out; omega) HRD5.out.1 HRD5.out.2 HV5.out HD5.out HB5.out _ _ rfl rfl _ rfl
            | exact ps_rel (heap_alloc_new W5 _) HB5.out.size (by have := HDl2.out; have := HZ5.out; omega) HRD5.out.1 (HRD5.out.2.kt (KT.below (balloc W5 _))) (HV5.out.below (balloc W5 _)) ((heap_alloc_old W5 _ (Array.getElem?_eq_some_iff.1 HD5.out).1).trans HD5.out) (HB5.out.alloc HB5.out.size _) _ _ rfl rfl _ rfl
      case rest =>
        obtain ⟨Y, R3, vf1, vp1, ve1, pb1, rfl, rfl, HY, HRD, HV, HDc, HBc, HYD⟩ := hcut
        obtain ⟨W8, hW8⟩ : ∃ W8, W8 = wc := ⟨_, rfl⟩
        subst hW8
        clear HBX HAC HDV HBk HR0 C0
        obtain ⟨hR3, hrd⟩ := HRD.out
        obtain ⟨V1, hv⟩ := HV.out
        have HR3 := Lib.hid (hR3 ▸ R35.rd hrd)
        have l1 := HR3.out.load HY.out
        have V2 := HR3.out.store HDc.out HLEN.out
        have l2 := HR3.out.load (W := W8.setRow D R3) (setRow_at HDc.out)
        have hv9 := hv.setRow35 (cs := R3) HDc.out
        have hr9 := hrd.kt (setRow_kt (cs := R3) HDc.out)
        have HIS : Hid (Calls Try.prog 15 #[.pointer (some ⟨bb, 0, none⟩), .agg R3] (W8.setRow D R3) (RetB (W8.setRow D R3) (.bool true))) := Lib.hid (by rw [hR3] at hv9 hr9 ⊢; exact is_any hv9 HGD.out hr9)
        have HB9 : Hid (Below w.heap.size w (W8.setRow D R3)) := Lib.hid (setRow_below HBc.out HDl.out)
        have HPN : Hid (∀ W', Below (W8.setRow D R3).heap.size (W8.setRow D R3) W' → PS w bb gg mm D xs (k + 1) W') := Lib.hid (fun W' hb => ⟨V1, S1, vf1, vp1, ve1, pb1, hv9.below hb, HGD.out, hr9.kt (KT.below hb), HSN.out, by rw [← hR3]; exact (hb.block D (by rw [size_setRow]; exact (Array.getElem?_eq_some_iff.1 HDc.out).1)).trans (setRow_at HDc.out)⟩)
        clear hR3 hrd hv hv9 hr9
        go_wp2_with ((go_at_call 15; with_reducible refine HIS.out.mono ?_); rintro e w10 ⟨rfl, hb10⟩; have HB10 := Lib.hid hb10; clear hb10)
        go_roundw
        case rel => exact ⟨k + 1, by omega, by go_num, Lib.hid (HPN.out _ HB10.out), Lib.hid (HB9.out.trans (HB10.out.mono HB9.out.size))⟩
        case measure => simp [RowKit.intOf]; omega
    · go_wp2_with ((go_at_call 10; with_reducible refine (works_any _).mono ?_); rintro e w5 ⟨rfl, hb5⟩; have HB5 := Lib.hid hb5; clear hb5)
      (try simp only [Exit.inBlock, Exit.then])
      go_ret
      exact ⟨rfl, HBk.out.trans (HB5.out.mono HBk.out.size)⟩
theorem plays_any (nb np sz en : Int) (vf vl : Value) (xs : List Int) (L : List KA) (w : World) (hx : Ints w vf xs) (hR : ∀ x ∈ xs, I64 x) (hL : Acts w vl L) (hok : ∀ e ∈ L, KA.ok w e) : Calls Try.prog 3 #[.agg #[.int .i64 nb, .int .i64 np, .int .i64 sz, .int .i64 en], vf, vl] w (LwP w) := by
  cases h1 : smB nb np sz en
  · exact plays_pre hx hL hok (.inl h1)
  by_cases h2 : xs.length ≤ 20
  · cases h3 : fewB L 40
    · exact plays_pre hx hL hok (.inr (.inr ⟨h1, h2, h3⟩))
    cases hv : valB nb np sz en
    · exact plays_no hx hL hok h1 h2 h3 (fun W hW => New_bad nb np sz en vf W hv) (fun W hW => rNew_bad nb np sz en vf W hv)
    · obtain ⟨a, b, c, rfl, rfl, rfl, _⟩ := valB_nat hv
      cases hp : posB xs
      · refine plays_no hx hL hok h1 h2 h3 (fun W hW => (New_ok a b c en vf xs W hv (hx.below' hW) hR (by omega)).mono ?_) (fun W hW => (rNew_ok a b c en vf xs W hv (hx.below' hW) (by omega)).mono ?_)
        · rintro e w' h
          rw [NewPost, hp] at h
          exact (h.resolve_right (fun h => by cases h.1)).2
        · rintro e w' h
          rw [RNPost, hp] at h
          exact (h.resolve_right (fun h => by cases h.1)).2
      · exact plays_main a b c en vf vl xs L w hx hR hL hok h1 h2 h3 hv hp
  · exact plays_pre hx hL hok (.inr (.inl ⟨h1, h2⟩))
end Go.Proofs.Ytddejcoagcaidaa
