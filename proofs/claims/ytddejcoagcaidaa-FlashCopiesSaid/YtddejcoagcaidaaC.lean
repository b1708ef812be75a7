/- The contracts of Restart, Cut, same, slices.Clone at bytes. Conditions stand in each theorem. -/
import Derived.Test.YtddejcoagcaidaaB
namespace Go.Proofs.Ytddejcoagcaidaa
open Go.RowKit
set_option linter.unusedVariables false
set_option maxHeartbeats 400000
set_option maxRecDepth 100000
/-- The state with another pending cut, number of operations, power. -/
def Dev.ctl (s : Dev) (po pb n : Int) (off : Bool) : Dev := { s with po := po, pb := pb, n := n, off := off }
theorem Dv.only {w : World} {base b g m : Nat} {V : Nat → Value} {s : Dev} (h : Dv w base b g m V s) {k : Nat} (hf : Foot s b g m V k) (hk : ∃ cs fr, w.heap[k]? = some (.cells cs 64 fr)) : k = b := by
  obtain ⟨cs0, fr0, e⟩ := hk
  have key : ∀ {cs' : Array Value} {t : TypeId} {fr'}, w.heap[k]? = some (.cells cs' t fr') → t ≠ 64 → False := fun e' ht => by
    rw [e'] at e
    injection e with e
    injection e with _ e1
    exact ht e1
  rcases hf with rfl | rfl | rfl | ⟨i, hi, hv⟩
  · rfl
  · obtain ⟨G, hG, _⟩ := h.grid
    exact (key hG (by decide)).elim
  · obtain ⟨es, c, hm⟩ := h.flt.isMap
    rw [hm] at e
    cases e
  · obtain ⟨xs, ho, _⟩ := h.row i hi
    rcases ho.2 with ⟨e0, _⟩ | ⟨p, cap, cur, e0, _, hp, _⟩
    · rw [e0] at hv; cases hv
    · rw [e0] at hv
      simp only [Value.ownBlock, Option.some.injEq] at hv
      subst hv
      exact (key hp (by decide)).elim
theorem noBytes_dev {w : World} {base b g m : Nat} {V : Nat → Value} {s : Dev} (h : Dv w base b g m V s) : NoBytes (· = b) w := fun k hk hf => h.noBytes k hk (.inl hf)
/-- The head of a device has been written. -/
theorem Dv.rehead {w w' : World} {base b g m : Nat} {V : Nat → Value} {s : Dev} (h : Dv w base b g m V s) (hc : Chg (· = b) w w') {po pb n : Int} {off : Bool} (hb : w'.heap[b]? = some (.cells (devCells (s.ctl po pb n off) g m) 64 (0, 0))) : Dv w' base b g m V (s.ctl po pb n off) := by
  have hx : ∀ k, Foot s b g m V k → k ≠ b → w'.heap[k]? = w.heap[k]? := fun k hk hn => hc.block k (h.foot_lt hk) hn
  have hgb : g ≠ b := by
    rintro rfl
    obtain ⟨G, hG, _⟩ := h.grid
    rw [h.blk] at hG
    injection hG with hG
    injection hG with _ ht
    exact absurd ht (by decide)
  have hmb : m ≠ b := by
    rintro rfl
    obtain ⟨es, c, hm⟩ := h.flt.isMap
    rw [h.blk] at hm
    cases hm
  refine ⟨hb, h.hb, h.hg, h.hm, ?_, fun i hi => ?_, h.apart, h.flt.kept (hx m (.inr (.inr (.inl rfl))) hmb), h.lw⟩
  · obtain ⟨G, hG, r⟩ := h.grid
    exact ⟨G, (hx g (.inr (.inl rfl)) hgb).trans hG, r⟩
  · obtain ⟨xs, ho, hr⟩ := h.row i hi
    refine ⟨xs, ⟨ho.1, ?_⟩, Rws.chg hc (noBytes_dev h) _ _ hr⟩
    rcases ho.2 with h0 | ⟨p, cap, cur, e, hp, hh, r⟩
    · exact .inl h0
    · refine .inr ⟨p, cap, cur, e, hp, (hx p (.inr (.inr (.inr ⟨i, hi, by rw [e]; rfl⟩))) ?_).trans hh, r⟩
      rintro rfl
      rw [h.blk] at hh
      injection hh with hh
      injection hh with _ ht
      exact absurd ht (by decide)
section
variable {w : World} {base b g m : Nat} {V : Nat → Value} {s : Dev}
/-- What a call leaves that only writes the head of a device. -/
def HeadPost (w : World) (base b g m : Nat) (V : Nat → Value) (s' : Dev) (k : Int) (e : Ending) (w' : World) : Prop := e = .returned (.int .i64 k) ∧ Dv w' base b g m V s' ∧ Chg (· = b) w w'
theorem Restart_any (h : Dv w base b g m V s) : Calls Try.prog 21 #[.pointer (some ⟨b, 0, none⟩)] w (HeadPost w base b g m V (s.ctl (-1) 0 s.n false) 0) := by
  have k4 := h.c4
  have k6 := h.c6
  have k7 := h.c7
  have k9 := h.c9
  have f6 := h.free 6
  have f7 := h.free 7
  have f9 := h.free 9
  have H := Lib.hid h
  clear h
  go_enter Try.func21, Try.ntmps21
  go_wp2_with (((go_at_call 46; with_reducible refine (missing_not _ g _ _ k4).mono ?_); rintro e w' ⟨rfl, rfl⟩))
  go_ret
  have hc : Chg (· = b) w (((w.setCell ⟨b, 6, none⟩ (.int .i64 (-1))).setCell ⟨b, 7, none⟩ (.int .i64 0)).setCell ⟨b, 9, none⟩ (.bool false)) := (((Chg.refl (· = b) w).setCell rfl _).setCell rfl _).setCell rfl _
  exact ⟨rfl, H.out.rehead hc (heap_setCell_same _ b 9 _ 64 _ (heap_setCell_same _ b 7 _ 64 _ (heap_setCell_same _ b 6 _ 64 _ H.out.blk))), hc⟩
theorem run_string {P : Program} (src dst e : TypeId) (hs : P.underlying src = some (.slice e)) (he : P.underlying e = some (.int .u8)) (hd : P.underlying dst = some .string)
    {w : World} {v : Value} {l : List UInt8} (h : Byt w v l) : (convert src dst v).run P w = .ok (.string ⟨l.toArray⟩) w := by
  obtain ⟨A, c, rfl, _, hr⟩ := h
  rcases Nat.eq_zero_or_pos l.length with h0 | h0
  · have hl : l = [] := List.eq_nil_of_length_eq_zero h0
    subst hl
    rcases A with _ | a
    · exact run_convert_bytes_nil w src e hs he _ c dst hd
    · exact run_convert_bytes_back w src dst e a c [] hs he hd (fun j hj => absurd hj (by simp))
  · obtain ⟨g, o, rfl, _, hc⟩ := hr h0
    exact run_convert_bytes_back w src dst e _ c l hs he hd (fun j hj => by rw [add_plain]; exact hc j hj)
end
theorem same_any (v1 v2 : Value) (x y : List UInt8) (w : World) (h1 : Byt w v1 x) (h2 : Byt w v2 y) : Calls Try.prog 31 #[v1, v2] w fun e w' => e = .returned (.bool (decide (x = y))) ∧ w = w' := by
  have r1 := run_string (P := Try.prog) 41 9 5 Try.underlying41 Try.underlying5 Try.underlying9 h1
  have r2 := run_string (P := Try.prog) 41 9 5 Try.underlying41 Try.underlying5 Try.underlying9 h2
  clear h1 h2
  go_enter Try.func31, Try.ntmps31
  go_wp2
  go_ret
  refine ⟨?_, rfl⟩
  show Ending.returned (.bool (x == y)) = _
  by_cases h : x = y <;> simp [h]
end Go.Proofs.Ytddejcoagcaidaa
