/- The state of FlashHolds between two calls. Conditions stand in each theorem. -/
import Derived.Test.YtddejcoagcaidaaBC
namespace Go.Proofs.Ytddejcoagcaidaa
open Go.RowKit
set_option linter.unusedVariables false
set_option maxHeartbeats 2000000
set_option maxRecDepth 100000
/-- A kept call: its bytes came in, it was made for block i, and its page holds them. -/
def EOk (w : World) (s : Dev) (i : Nat) (e : KA) : Prop := KA.ok w e ∧ e.bl = (i : Int) ∧ ∃ j : Nat, e.pg = (j : Int) ∧ s.holds i j e.x e.y
/-- The state of FlashHolds: the device, the kept calls in block gk, the geometry's box. Of the blocks of X nothing is said. -/
structure HJ (w : World) (b g m gk nb M : Nat) (X : Nat → Prop) (V : Nat → Value) (s : Dev) (K : Nat → Value) (LL : Nat → List KA) (W : World) : Prop where
  dev : Dv W w.heap.size b g m V s
  gd : Gd s
  enb : s.nb = nb
  n : s.n ≤ (M : Int)
  grid : ∃ KG : Array Value, W.heap[gk]? = some (.cells KG 25 (0, 0)) ∧ KG.size = nb ∧ ∀ i, i < nb → KG[i]? = some (K i)
  row : ∀ i, i < nb → Acts W (K i) (LL i)
  ty : ∀ i, i < nb → 0 < (LL i).length → ∀ k, (K i).ownBlock = some k → ∃ cs fr, W.heap[k]? = some (.cells cs 43 fr)
  len : ∀ i, i < nb → (LL i).length ≤ M
  ok : ∀ i, i < nb → ¬ X i → ∀ e ∈ LL i, EOk w s i e
  one : ∀ i, i < nb → ∀ e ∈ LL i, e.one
  below : Below w.heap.size w W
  box : ∃ cs, W.heap[w.heap.size]? = some (.cells cs 23 (0, 0)) ∧ cs[0]? = some (.int .i64 (nb : Int))
  hgk : w.heap.size ≤ gk
section
variable {w W W' : World} {b g m gk nb M : Nat} {X : Nat → Prop} {V : Nat → Value} {s : Dev} {K : Nat → Value} {LL : Nat → List KA}
theorem HJ.nb_cell (h : HJ w b g m gk nb M X V s K LL W) : W.cell? ⟨w.heap.size, 0, none⟩ = some (.int .i64 (nb : Int)) := by
  obtain ⟨cs, h1, h2⟩ := h.box
  rw [cell_of_row W w.heap.size 0 cs 23 (0, 0) h1]
  exact h2
theorem HJ.gk_cell (h : HJ w b g m gk nb M X V s K LL W) {i : Nat} (hi : i < nb) : W.cell? ⟨gk, i, none⟩ = some (K i) ∧ W.frozen? ⟨gk, i, none⟩ = false := by
  obtain ⟨KG, h1, _, h2⟩ := h.grid
  exact ⟨by rw [cell_of_row W gk i KG 25 (0, 0) h1]; exact h2 i hi, frozen_of_row W gk i KG 25 h1⟩
theorem Acts.keep {v : Value} {L : List KA} (h : Acts W v L) (hs : W.heap.size ≤ W'.heap.size) (hk : 0 < L.length → ∀ k, v.ownBlock = some k → W'.heap[k]? = W.heap[k]?) : Acts W' v L := by
  obtain ⟨A, c, rfl, hr⟩ := h
  refine ⟨A, c, rfl, fun h0 => ?_⟩
  obtain ⟨g, o, rfl, hg, hc⟩ := hr h0
  refine ⟨g, o, rfl, Nat.lt_of_lt_of_le hg hs, fun j hj => ?_⟩
  obtain ⟨a0, a1, a2, a3, a4⟩ := hc j hj
  have e : ∀ t, W'.cell? ⟨g, t, none⟩ = W.cell? ⟨g, t, none⟩ := fun t => World.cell?_of_block (w := W) (hk h0 g rfl)
  exact ⟨(e _).trans a0, (e _).trans a1, (e _).trans a2, (e _).trans a3, (e _).trans a4⟩
/-- All but the device stays where only blocks of other types have changed. -/
theorem HJ.rest (h : HJ w b g m gk nb M X V s K LL W) {S : Nat → Prop} (hc : Chg S W W') (h25 : ¬ S gk) (h43 : ∀ k cs fr, W.heap[k]? = some (.cells cs 43 fr) → ¬ S k) (h23 : ¬ S w.heap.size) (hb : ∀ k, S k → w.heap.size ≤ k)
    {X' : Nat → Prop} {V' : Nat → Value} {s' : Dev} {M' : Nat} (hd : Dv W' w.heap.size b g m V' s') (hg : Gd s') (hnb : s'.nb = nb) (hn : s'.n ≤ (M' : Int)) (hM : M ≤ M') (hok : ∀ i, i < nb → ¬ X' i → ∀ e ∈ LL i, EOk w s' i e) :
    HJ w b g m gk nb M' X' V' s' K LL W' := by
  have e : ∀ {k : Nat} {o : Obj}, W.heap[k]? = some o → ¬ S k → W'.heap[k]? = some o := fun {k o} hk hn => (hc.block k (Array.getElem?_eq_some_iff.1 hk).1 hn).trans hk
  obtain ⟨KG, h1, h2⟩ := h.grid
  obtain ⟨cs, h3, h4⟩ := h.box
  refine ⟨hd, hg, hnb, hn, ⟨KG, e h1 h25, h2⟩, fun i hi => (h.row i hi).keep hc.size (fun h0 k hk => ?_), fun i hi h0 k hk => ?_, fun i hi => Nat.le_trans (h.len i hi) hM, hok, h.one, h.below.trans (hc.below h.below.size hb), ⟨cs, e h3 h23, h4⟩, h.hgk⟩
  · obtain ⟨cs', fr, h5⟩ := h.ty i hi h0 k hk
    exact hc.block k (Array.getElem?_eq_some_iff.1 h5).1 (h43 k cs' fr h5)
  · obtain ⟨cs', fr, h5⟩ := h.ty i hi h0 k hk
    exact ⟨cs', fr, e h5 (h43 k cs' fr h5)⟩
theorem HJ.later (h : HJ w b g m gk nb M X V s K LL W) (hb : Below W.heap.size W W') : HJ w b g m gk nb M X V s K LL W' :=
  h.rest (S := fun _ => False) (Chg.of_below hb) (fun h => h) (fun _ _ _ _ h => h) (fun h => h) (fun _ h => h.elim) (h.dev.below hb) h.gd h.enb h.n (Nat.le_refl _) h.ok
theorem HJ.foots (h : HJ w b g m gk nb M X V s K LL W) : ¬ Foot s b g m V gk ∧ (∀ k cs fr, W.heap[k]? = some (.cells cs 43 fr) → ¬ Foot s b g m V k) ∧ ¬ Foot s b g m V w.heap.size := by
  obtain ⟨KG, h1, _⟩ := h.grid
  obtain ⟨cs, h3, _⟩ := h.box
  exact ⟨h.dev.off_ty h1 (by decide) (by decide) (by decide), fun k cs fr hk => h.dev.off_ty hk (by decide) (by decide) (by decide), h.dev.off_ty h3 (by decide) (by decide) (by decide)⟩
/-- The device has changed. -/
theorem HJ.step (h : HJ w b g m gk nb M X V s K LL W) {s' : Dev} (hs : Step W w.heap.size b g m V s s' W') {X' : Nat → Prop} {M' : Nat} (hg : Gd s') (hnb : s'.nb = nb) (hn : s'.n ≤ (M' : Int)) (hM : M ≤ M') (hok : ∀ i, i < nb → ¬ X' i → ∀ e ∈ LL i, EOk w s' i e) : ∃ V', HJ w b g m gk nb M' X' V' s' K LL W' := by
  obtain ⟨V', h1, h2, _⟩ := hs
  obtain ⟨a, c, d⟩ := h.foots
  exact ⟨V', h.rest h2 a c d (fun k hk => h.dev.foot_ge hk) h1 hg hnb hn hM hok⟩
theorem HJ.head (h : HJ w b g m gk nb M X V s K LL W) {s' : Dev} (hd : Dv W' w.heap.size b g m V s') (hc : Chg (· = b) W W') (hg : Gd s') (hnb : s'.nb = nb) (hn : s'.n ≤ (M : Int)) (hok : ∀ i, i < nb → ¬ X i → ∀ e ∈ LL i, EOk w s' i e) : HJ w b g m gk nb M X V s' K LL W' := by
  obtain ⟨a, c, d⟩ := h.foots
  exact h.rest (hc.mono (T := Foot s b g m V) (fun k hk => .inl hk)) a c d (fun k hk => h.dev.foot_ge hk) hd hg hnb hn (Nat.le_refl _) hok
/-- One row of kept calls is another one. -/
theorem HJ.rekeep (h : HJ w b g m gk nb M X V s K LL W) (hb : Below W.heap.size W W') {i : Nat} (hi : i < nb) {v : Value} {L : List KA} (hv : Acts W' v L) (hty : 0 < L.length → ∀ k, v.ownBlock = some k → ∃ cs fr, W'.heap[k]? = some (.cells cs 43 fr)) {X' : Nat → Prop} {M' : Nat} (hM : M ≤ M') (hl : L.length ≤ M')
    (hok : ∀ e ∈ L, EOk w s i e) (hone : ∀ e ∈ L, e.one) (hX : ∀ j, X j → j ≠ i → X' j) : HJ w b g m gk nb M' X' V s (upd K i v) (upd LL i L) (W'.setCell ⟨gk, i, none⟩ v) := by
  have h1 := h.later hb
  obtain ⟨KG, g1, g2, g3⟩ := h1.grid
  obtain ⟨cs, b1, b2⟩ := h1.box
  have hc : Chg (· = gk) W' (W'.setCell ⟨gk, i, none⟩ v) := (Chg.refl (· = gk) W').setCell rfl v
  have hne43 : ∀ k cs fr, W'.heap[k]? = some (.cells cs 43 fr) → k ≠ gk := fun k cs fr hk e => by
    subst e
    exact absurd (ty_ne g1 hk) (by decide)
  have hnw : w.heap.size ≠ gk := fun e => by
    rw [← e] at g1
    exact absurd (ty_ne g1 b1) (by decide)
  have hNB : NoBytes (· = gk) W' := fun k hk e cs fr e2 => by
    subst e
    exact absurd (ty_ne g1 e2) (by decide)
  have hkeep : ∀ {u : Value} {L' : List KA}, Acts W' u L' → (0 < L'.length → ∀ k, u.ownBlock = some k → ∃ cs fr, W'.heap[k]? = some (.cells cs 43 fr)) → Acts (W'.setCell ⟨gk, i, none⟩ v) u L' := fun ha ht => ha.keep hc.size fun h0 k hk => by
    obtain ⟨cs', fr, h5⟩ := ht h0 k hk
    exact hc.block k (Array.getElem?_eq_some_iff.1 h5).1 (hne43 k cs' fr h5)
  have hkty : ∀ {u : Value} {L' : List KA}, (0 < L'.length → ∀ k, u.ownBlock = some k → ∃ cs fr, W'.heap[k]? = some (.cells cs 43 fr)) → 0 < L'.length → ∀ k, u.ownBlock = some k → ∃ cs fr, (W'.setCell ⟨gk, i, none⟩ v).heap[k]? = some (.cells cs 43 fr) := fun ht h0 k hk => by
    obtain ⟨cs', fr, h5⟩ := ht h0 k hk
    exact ⟨cs', fr, (hc.block k (Array.getElem?_eq_some_iff.1 h5).1 (hne43 k cs' fr h5)).trans h5⟩
  refine ⟨h1.dev.chg hc (fun k hk e => by rw [e] at hk; exact h1.foots.1 hk) hNB, h1.gd, h1.enb, by have := h1.n; omega, ⟨KG.setIfInBounds i v, heap_setCell_same W' gk i KG 25 v g1, by rw [Array.size_setIfInBounds]; exact g2, fun j hj => ?_⟩, fun j hj => ?_, fun j hj => ?_, fun j hj => ?_, fun j hj hx => ?_, fun j hj => ?_, h1.below.trans (hc.below h1.below.size (fun k hk => by rw [hk]; exact h1.hgk)), ⟨cs, (hc.block _ (Array.getElem?_eq_some_iff.1 b1).1 hnw).trans b1, b2⟩, h1.hgk⟩
  · by_cases e : j = i
    · subst e
      rw [Array.getElem?_setIfInBounds_self_of_lt (by omega), upd_same]
    · rw [Array.getElem?_setIfInBounds_ne (fun h => e h.symm), upd_ne _ _ e]
      exact g3 j hj
  · by_cases e : j = i
    · rw [e, upd_same, upd_same]; exact hkeep hv hty
    · rw [upd_ne _ _ e, upd_ne _ _ e]; exact hkeep (h1.row j hj) (h1.ty j hj)
  · by_cases e : j = i
    · rw [e, upd_same, upd_same]; exact hkty hty
    · rw [upd_ne _ _ e, upd_ne _ _ e]; exact hkty (h1.ty j hj)
  · by_cases e : j = i
    · rw [e, upd_same]; exact hl
    · rw [upd_ne _ _ e]; exact Nat.le_trans (h1.len j hj) hM
  · by_cases e : j = i
    · rw [e, upd_same]; exact hok
    · rw [upd_ne _ _ e]; exact h1.ok j hj (fun hxj => hx (hX j hxj e))
  · by_cases e : j = i
    · rw [e, upd_same]; exact hone
    · rw [upd_ne _ _ e]; exact h1.one j hj
end
/-- The state, of which nothing more is told. -/
def HI (w : World) (b g m gk nb M : Nat) (off : Bool → Prop) (W : World) : Prop := ∃ V s K LL, HJ w b g m gk nb M (fun _ => False) V s K LL W ∧ off s.off
end Go.Proofs.Ytddejcoagcaidaa
