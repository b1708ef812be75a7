/- A page is added to a block: the mathematics. Conditions stand in each theorem. -/
import Derived.Test.YtddejcoagcaidaaG
namespace Go.Proofs.Ytddejcoagcaidaa
open Go.RowKit
set_option linter.unusedVariables false
set_option maxHeartbeats 1000000
set_option maxRecDepth 100000
/-- The state with other contents of a block. -/
def Dev.put (s : Dev) (i : Nat) (k : Bk) : Dev := { s with bk := upd s.bk i k }
/-- What a call leaves that changes a device. -/
def Step (w : World) (base b g m : Nat) (V : Nat → Value) (s s' : Dev) (w' : World) : Prop :=
  ∃ V', Dv w' base b g m V' s' ∧ Chg (Foot s b g m V) w w' ∧ ∀ k, Foot s' b g m V' k → Foot s b g m V k ∨ w.heap.size ≤ k
theorem ty_ne {w : World} {k : Nat} {cs cs' : Array Value} {t t' : TypeId} {fr fr' : Nat × Nat} (h : w.heap[k]? = some (.cells cs t fr)) (h' : w.heap[k]? = some (.cells cs' t' fr')) : t = t' := by
  rw [h] at h'
  injection h' with h'
  injection h'
section
variable {w : World} {base b g m : Nat} {V : Nat → Value} {s : Dev}
theorem Dv.rowAt (h : Dv w base b g m V s) {i k : Nat} (hi : i < s.nb) (hk : (V i).ownBlock = some k) : ∃ cs, w.heap[k]? = some (.cells cs 91 (0, 0)) := by
  obtain ⟨xs, ho, _⟩ := h.row i hi
  rcases ho.2 with ⟨e0, _⟩ | ⟨p, cap, cur, e0, _, hp, _⟩
  · rw [e0] at hk; cases hk
  · rw [e0] at hk
    simp only [Value.ownBlock, Option.some.injEq] at hk
    subst hk
    exact ⟨_, hp⟩
theorem Dv.ne_gb (h : Dv w base b g m V s) : g ≠ b := by
  rintro rfl
  obtain ⟨G, hG, _⟩ := h.grid
  exact absurd (ty_ne h.blk hG) (by decide)
theorem Dv.ne_mb (h : Dv w base b g m V s) : m ≠ b := by
  rintro rfl
  obtain ⟨es, c, hm⟩ := h.flt.isMap
  rw [h.blk] at hm
  cases hm
theorem Dv.ne_mg (h : Dv w base b g m V s) : m ≠ g := by
  rintro rfl
  obtain ⟨G, hG, _⟩ := h.grid
  obtain ⟨es, c, hm⟩ := h.flt.isMap
  rw [hG] at hm
  cases hm
theorem Dv.row_b (h : Dv w base b g m V s) {i : Nat} (hi : i < s.nb) : (V i).ownBlock ≠ some b := fun e => by
  obtain ⟨cs, hc⟩ := h.rowAt hi e
  exact absurd (ty_ne h.blk hc) (by decide)
theorem Dv.row_g (h : Dv w base b g m V s) {i : Nat} (hi : i < s.nb) : (V i).ownBlock ≠ some g := fun e => by
  obtain ⟨cs, hc⟩ := h.rowAt hi e
  obtain ⟨G, hG, _⟩ := h.grid
  exact absurd (ty_ne hG hc) (by decide)
theorem Dv.row_m (h : Dv w base b g m V s) {i : Nat} (hi : i < s.nb) : (V i).ownBlock ≠ some m := fun e => by
  obtain ⟨cs, hc⟩ := h.rowAt hi e
  obtain ⟨es, c, hm⟩ := h.flt.isMap
  rw [hc] at hm
  cases hm
theorem Dv.glt (h : Dv w base b g m V s) : g < w.heap.size := h.foot_lt (.inr (.inl rfl))
end
theorem Rws.chg_of {lb : Nat} {S : Nat → Prop} {w w' : World} {xs : List Value} {ps : List Pg} (h : Rws lb w xs ps) (hc : Chg S w w') (hS : NoBytes S w) : Rws lb w' xs ps := Rws.chg hc hS xs ps h
theorem set_cells (G : Array Value) (n i : Nat) (hi : i < n) (hs : G.size = n * 2) (v : Value) (j : Nat) (hj : j < n) :
    (G.setIfInBounds (i * 2 + 1) v)[j * 2]? = G[j * 2]? ∧ (G.setIfInBounds (i * 2 + 1) v)[j * 2 + 1]? = if j = i then some v else G[j * 2 + 1]? := by
  constructor
  · rw [Array.getElem?_setIfInBounds_ne (by omega)]
  · by_cases e : j = i
    · subst e
      rw [if_pos rfl, Array.getElem?_setIfInBounds_self_of_lt (by omega)]
    · rw [if_neg e, Array.getElem?_setIfInBounds_ne (by omega)]
/-- A block has other pages: its row is another one, and its head is written. -/
theorem Dv.repage {w w2 : World} {base b g m : Nat} {V : Nat → Value} {s : Dev} (h : Dv w base b g m V s) {i : Nat} (hi : i < s.nb) {v : Value} {ps : List Pg} {xs : List Value}
    (ho : w2.ownsRow base 91 3 v ps.length xs) (hr : Rws s.lo w2 xs ps) (hc : Chg (fun k => (V i).ownBlock = some k) w w2) (hl : ∀ k, v.ownBlock = some k → (V i).ownBlock = some k ∨ w.heap.size ≤ k) :
    Step w base b g m V s (s.put i ⟨(s.bk i).er, ps⟩) (w2.setCell ⟨g, i * 2 + 1, none⟩ v) := by
  have hg2 : w2.heap[g]? = w.heap[g]? := hc.block g h.glt (h.row_g hi)
  have hNB : NoBytes (fun k => (V i).ownBlock = some k) w := fun k hk e cs fr e2 => by
    obtain ⟨cs', h'⟩ := h.rowAt hi e
    exact absurd (ty_ne h' e2) (by decide)
  obtain ⟨G, hG, hGs, hGc⟩ := h.grid
  have hG2 := hg2.trans hG
  have hgg : Chg (· = g) w2 (w2.setCell ⟨g, i * 2 + 1, none⟩ v) := (Chg.refl (· = g) w2).setCell rfl v
  have hNG : NoBytes (· = g) w2 := fun k hk e cs fr e2 => by
    subst e
    exact absurd (ty_ne hG2 e2) (by decide)
  have hvg : v.ownBlock ≠ some g := fun e => by
    rcases hl g e with h1 | h1
    · exact h.row_g hi h1
    · have := h.glt; omega
  have hown : ∀ (u : Value) (n : Nat) (ys : List Value), w2.ownsRow base 91 3 u n ys → u.ownBlock ≠ some g → (w2.setCell ⟨g, i * 2 + 1, none⟩ v).ownsRow base 91 3 u n ys := fun u n ys hu hne =>
    hu.kept (row := some g) ⟨hgg.os, hgg.tape, hgg.output, hgg.size, fun k hk hkb => hgg.block k hk (fun e => hkb (by rw [e]))⟩ (by cases e : u.ownBlock; exact .inl rfl; right; rw [← e]; exact hne)
  have hfar : ∀ j, j < s.nb → j ≠ i → ∀ k, (V j).ownBlock = some k → (V i).ownBlock ≠ some k := fun j hj hne k e1 e2 => by
    rcases h.apart j i hj hi hne with h0 | h0
    · rw [e1] at h0; cases h0
    · exact h0 (e1.trans e2.symm)
  have hfresh : ∀ j, j < s.nb → j ≠ i → ∀ k, (V j).ownBlock = some k → v.ownBlock ≠ some k := fun j hj hne k e1 e2 => by
    rcases hl k e2 with h1 | h1
    · exact hfar j hj hne k e1 h1
    · have := h.foot_lt (.inr (.inr (.inr ⟨j, hj, e1⟩))); omega
  have hall : Chg (Foot s b g m V) w (w2.setCell ⟨g, i * 2 + 1, none⟩ v) := (hc.mono (fun k hk => .inr (.inr (.inr ⟨i, hi, hk⟩)))).trans (hgg.mono (T := Foot s b g m V) (fun k hk => .inr (.inl hk))) (fun _ h _ => h)
  refine ⟨upd V i v, ⟨?_, h.hb, h.hg, h.hm, ?_, fun j hj => ?_, fun j1 j2 hj1 hj2 hne => ?_, ?_, h.lw⟩, hall, ?_⟩
  · exact (hgg.block b (Nat.lt_of_lt_of_le h.lt hc.size) (fun e => h.ne_gb e.symm)).trans ((hc.block b h.lt (h.row_b hi)).trans h.blk)
  · refine ⟨G.setIfInBounds (i * 2 + 1) v, heap_setCell_same w2 g (i * 2 + 1) G 94 v hG2, by rw [Array.size_setIfInBounds]; exact hGs, fun j hj => ?_⟩
    obtain ⟨e1, e2⟩ := set_cells G s.nb i hi hGs v j hj
    rw [e1, e2]
    unfold Dev.put upd
    by_cases e : j = i
    · subst e
      simp only [if_true]
      exact ⟨(hGc j hj).1, trivial⟩
    · simp only [if_neg e]
      exact hGc j hj
  · by_cases e : j = i
    · subst e
      simp only [Dev.put, upd_same]
      exact ⟨xs, hown _ _ _ ho hvg, hr.chg_of hgg hNG⟩
    · simp only [Dev.put, upd_ne _ _ e]
      obtain ⟨ys, hy1, hy2⟩ := h.row j hj
      refine ⟨ys, hown _ _ _ ⟨hy1.1, ?_⟩ (h.row_g hj), (hy2.chg_of hc hNB).chg_of hgg hNG⟩
      rcases hy1.2 with h0 | ⟨p, cap, cur, e0, hp, hh, r⟩
      · exact .inl h0
      · exact .inr ⟨p, cap, cur, e0, hp, (hc.block p (Array.getElem?_eq_some_iff.1 hh).1 (hfar j hj e p (by rw [e0]; rfl))).trans hh, r⟩
  · have hj1' : j1 < s.nb := hj1
    have hj2' : j2 < s.nb := hj2
    by_cases e1 : j1 = i <;> by_cases e2 : j2 = i
    · omega
    · rw [e1, upd_same, upd_ne _ _ e2]
      cases ev : v.ownBlock with
      | none => exact .inl rfl
      | some k => right; intro e; exact hfresh j2 hj2' e2 k e.symm ev
    · rw [e2, upd_same, upd_ne _ _ e1]
      cases ev : (V j1).ownBlock with
      | none => exact .inl rfl
      | some k => right; intro e; exact hfresh j1 hj1' e1 k ev e.symm
    · rw [upd_ne _ _ e1, upd_ne _ _ e2]
      exact h.apart j1 j2 hj1' hj2' hne
  · exact h.flt.kept ((hgg.block m (Nat.lt_of_lt_of_le h.flt.lt hc.size) h.ne_mg).trans (hc.block m h.flt.lt (h.row_m hi)))
  · intro k hk
    rcases hk with h1 | h1 | h1 | ⟨j, hj, h1⟩
    · exact .inl (.inl h1)
    · exact .inl (.inr (.inl h1))
    · exact .inl (.inr (.inr (.inl h1)))
    · by_cases e : j = i
      · rw [e, upd_same] at h1
        rcases hl k h1 with h2 | h2
        · exact .inl (.inr (.inr (.inr ⟨i, hi, h2⟩)))
        · exact .inr h2
      · rw [upd_ne _ _ e] at h1
        exact .inl (.inr (.inr (.inr ⟨j, hj, h1⟩)))
end Go.Proofs.Ytddejcoagcaidaa
