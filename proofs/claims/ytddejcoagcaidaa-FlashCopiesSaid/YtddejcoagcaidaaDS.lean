/- The walk of FlashPlays. Conditions stand in each theorem. -/
import Derived.Test.YtddejcoagcaidaaDO
import Derived.Test.YtddejcoagcaidaaDP
import Derived.Test.YtddejcoagcaidaaDR
import Derived.Test.YtddejcoagcaidaaAA
import Derived.Test.YtddejcoagcaidaaBC
import Derived.Deep.RegionHeld3
namespace Go.Proofs.Ytddejcoagcaidaa
open Go.RowKit
set_option linter.unusedVariables false
set_option maxHeartbeats 16000000
set_option maxRecDepth 100000
/-- What a walk of a law leaves. -/
def LwP (w : World) (e : Ending) (w' : World) : Prop := e = .returned (.bool true) ∧ Below w.heap.size w w'
theorem few_belowP {w : World} {vl : Value} {L : List KA} (most : Nat) (mi : Int) (hmi : mi = (most : Int)) (hm : most ≤ 100) (hL : Acts w vl L) (hok : ∀ e ∈ L, KA.ok w e) : ∀ W, Below w.heap.size w W → Calls Try.prog 9 #[vl, .int .i64 mi] W (OkB (fewB L most) W) := by
  subst hmi
  exact fun W hW => few_any vl L most W (hL.below hW) (fun e he => ⟨(hok e he).1.below hW, (hok e he).2.below hW⟩) hm
attribute [local go_sem ↓ 100000] loadX_eq storeX_eq
theorem r35zero : R35 #[.int .i64 0, .int .i64 0, .int .i64 0, .int .i64 0, .slice none 0 0, .slice none 0 0, .slice none 0 0, .int .i64 0, .int .i64 0, .int .i64 0, .bool false] := ⟨info35, by simp [Value.oneCell']⟩
/-- A device and its reference after k calls; the reference's value lies in the block D. -/
def PS (w : World) (b g m D : Nat) (xs : List Int) (k : Nat) (W : World) : Prop := ∃ V s vf vp ve pb, Dv W w.heap.size b g m V s ∧ Gd s ∧ Rd W xs s vf vp ve pb ∧ s.n ≤ (k : Int) ∧ W.heap[D]? = some (.cells (rdv s vf vp ve pb) 35 (0, 0))
theorem Dv.rebase2 {w : World} {base base' b g m : Nat} {V : Nat → Value} {s : Dev} (h : Dv w base b g m V s) (hb : base' ≤ base) (hlb : s.lo ≤ base') : Dv w base' b g m V s :=
  ⟨h.blk, Nat.le_trans hb h.hb, Nat.le_trans hb h.hg, Nat.le_trans hb h.hm, h.grid, fun i hi => by
    obtain ⟨xs, h1, h2⟩ := h.row i hi
    exact ⟨xs, own_base h1 hb, h2⟩, h.apart, h.flt, hlb⟩
theorem Dv.setRow35 {W : World} {base b g m q : Nat} {V : Nat → Value} {s : Dev} (h : Dv W base b g m V s) {old cs : Array Value} (hq : W.heap[q]? = some (.cells old 35 (0, 0))) : Dv (W.setRow q cs) base b g m V s := by
  have hc : Chg (· = q) W (W.setRow q cs) := ⟨rfl, rfl, rfl, by rw [size_setRow]; exact Nat.le_refl _, fun k _ hk => setRow_other W q k cs hk⟩
  refine h.chg hc (fun k hk e => ?_) (fun k hk e cs' fr e2 => ?_)
  · subst e
    exact h.off_ty hq (by decide) (by decide) (by decide) hk
  · subst e
    exact absurd (ty_ne hq e2) (by decide)
theorem ps_rel {w F : World} {bb gg mm q D : Nat} {xs : List Int} {S1 : Dev} {vf1 vp1 ve1 : Value} {pb1 : Int} {V1 : Nat → Value} {R5 R0 : Array Value} (hq : F.heap[q]? = some (.cells #[.int .i64 0, .int .i64 0, .int .i64 0, .int .i64 0, .slice none 0 0, .slice none 0 0, .slice none 0 0, .int .i64 0, .int .i64 0, .int .i64 0, .bool false] 35 (0, 0))) (hw : w.heap.size ≤ q) (hne : q ≠ D) (hR : R5 = rdv S1 vf1 vp1 ve1 pb1) (hr : Rd F xs S1 vf1 vp1 ve1 pb1) (hv : Dv F w.heap.size bb gg mm V1 S1) (hD : F.heap[D]? = some (.cells R0 35 (0, 0))) (hB : Below w.heap.size w F) (a b : Value) (ha : a = .pointer (some ⟨q, 0, none⟩)) (hb : b = .bool true) (wx : World) (hwx : wx = F.setRow q R5) :
    ∃ (Y : Nat) (R3 : Array Value) (vf1 vp1 ve1 : Value) (pb1 : Int), a = .pointer (some ⟨Y, 0, none⟩) ∧ b = .bool true ∧ Hid (wx.heap[Y]? = some (.cells R3 35 (0, 0))) ∧ Hid (R3 = rdv S1 vf1 vp1 ve1 pb1 ∧ Rd wx xs S1 vf1 vp1 ve1 pb1) ∧ Hid (∃ V', Dv wx w.heap.size bb gg mm V' S1) ∧ Hid (wx.heap[D]? = some (.cells R0 35 (0, 0))) ∧ Hid (Below w.heap.size w wx) ∧ Hid (Y ≠ D ∧ w.heap.size ≤ Y) := by
  subst hwx
  exact ⟨q, R5, vf1, vp1, ve1, pb1, ha, hb, Lib.hid (setRow_at hq), Lib.hid ⟨hR, hr.kt (setRow_kt hq)⟩, Lib.hid ⟨V1, hv.setRow35 hq⟩, Lib.hid ((setRow_other F q D _ hne.symm).trans hD), Lib.hid (setRow_below hB hw), Lib.hid ⟨hne, hw⟩⟩
/-- What act leaves, told of the law's world. -/
def AcM (w0 w : World) (b g m : Nat) (fs : List Int) (s' : Dev) (e : Ending) (w' : World) : Prop := ∃ vf vp ve pb V', e = .returned (.tuple #[.agg (rdv s' vf vp ve pb), .bool true]) ∧ Rd w' fs s' vf vp ve pb ∧ Dv w' w0.heap.size b g m V' s' ∧ Below w0.heap.size w0 w' ∧ (∀ (k : Nat) (cs : Array Value), w.heap[k]? = some (.cells cs 35 (0, 0)) → w'.heap[k]? = some (.cells cs 35 (0, 0))) ∧ w.heap.size ≤ w'.heap.size
theorem act_more {w0 w : World} {b g m : Nat} {V : Nat → Value} {fs : List Int} {s s' : Dev} {args : Array Value} (h : Dv w w0.heap.size b g m V s) (hb : Below w0.heap.size w0 w) (hc : Calls Try.prog 14 args w (ActPost w w0.heap.size b g m V fs s s')) : Calls Try.prog 14 args w (AcM w0 w b g m fs s') :=
  hc.mono fun e w' ⟨vf, vp, ve, pb, h1, h2, V', h3, h4, _⟩ => ⟨vf, vp, ve, pb, V', h1, h2, h3, hb.trans (h4.below hb.size (fun i hi => h.foot_ge hi)), fun k cs hk => (h4.block k (Array.getElem?_eq_some_iff.1 hk).1 (h.off_ty hk (by decide) (by decide) (by decide))).trans hk, h4.size⟩
end Go.Proofs.Ytddejcoagcaidaa
