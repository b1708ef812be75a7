/- The contracts of erase and Erase. Conditions stand in each theorem. -/
import Derived.Test.YtddejcoagcaidaaS
namespace Go.Proofs.Ytddejcoagcaidaa
open Go.RowKit
set_option linter.unusedVariables false
set_option maxHeartbeats 2000000
set_option maxRecDepth 100000
theorem Step.pre {w W w' : World} {base b g m : Nat} {V : Nat → Value} {s s1 s' : Dev} (h : Step W base b g m V s1 s' w') (hc : Chg (Foot s b g m V) w W) (e : s1.nb = s.nb) : Step w base b g m V s s' w' := by
  obtain ⟨V', h1, h2, h3⟩ := h
  have hf : ∀ k, Foot s1 b g m V k → Foot s b g m V k := fun k hk => by unfold Foot at *; rw [e] at hk; exact hk
  exact ⟨V', h1, hc.also (h2.mono hf), fun k hk => (h3 k hk).imp (hf k) fun h => Nat.le_trans hc.size h⟩
theorem set_cells0 (G : Array Value) (n i : Nat) (hi : i < n) (hs : G.size = n * 2) (v : Value) (j : Nat) (hj : j < n) :
    (G.setIfInBounds (i * 2) v)[j * 2]? = (if j = i then some v else G[j * 2]?) ∧ (G.setIfInBounds (i * 2) v)[j * 2 + 1]? = G[j * 2 + 1]? := by
  constructor
  · by_cases e : j = i
    · subst e
      rw [if_pos rfl, Array.getElem?_setIfInBounds_self_of_lt (by omega)]
    · rw [if_neg e, Array.getElem?_setIfInBounds_ne (by omega)]
  · rw [Array.getElem?_setIfInBounds_ne (by omega)]
section
variable {w : World} {base b g m : Nat} {V : Nat → Value} {s : Dev}
/-- A block's erase count has been written. -/
theorem Dv.recount (h : Dv w base b g m V s) {i : Nat} (hi : i < s.nb) (n : Int) : Dv (w.setCell ⟨g, i * 2, none⟩ (.int .i64 n)) base b g m V (s.put i ⟨n, (s.bk i).pg⟩) := by
  obtain ⟨G, hG, hGs, hGc⟩ := h.grid
  have hgg : Chg (· = g) w (w.setCell ⟨g, i * 2, none⟩ (.int .i64 n)) := (Chg.refl (· = g) w).setCell rfl _
  have hNG : NoBytes (· = g) w := fun k hk e cs fr e2 => by
    subst e
    exact absurd (ty_ne hG e2) (by decide)
  refine ⟨(hgg.block b h.lt (fun e => h.ne_gb e.symm)).trans h.blk, h.hb, h.hg, h.hm, ?_, fun j hj => ?_, h.apart, h.flt.kept (hgg.block m h.flt.lt h.ne_mg), h.lw⟩
  · refine ⟨G.setIfInBounds (i * 2) (.int .i64 n), heap_setCell_same w g (i * 2) G 94 _ hG, by rw [Array.size_setIfInBounds]; exact hGs, fun j hj => ?_⟩
    obtain ⟨e1, e2⟩ := set_cells0 G s.nb i hi hGs (.int .i64 n) j hj
    rw [e1, e2]
    unfold Dev.put upd
    by_cases e : j = i
    · subst e
      simp only [if_true]
      exact ⟨trivial, (hGc j hj).2⟩
    · simp only [if_neg e]
      exact hGc j hj
  · have hp : ((s.put i ⟨n, (s.bk i).pg⟩).bk j).pg = (s.bk j).pg := by
      unfold Dev.put upd
      by_cases e : j = i
      · subst e; simp
      · simp [e]
    rw [hp]
    obtain ⟨ys, hy1, hy2⟩ := h.row j hj
    refine ⟨ys, hy1.kept (row := some g) ⟨hgg.os, hgg.tape, hgg.output, hgg.size, fun k hk hkb => hgg.block k hk (fun e => hkb (by rw [e]))⟩ (.inr (h.row_g hj)), hy2.chg_of hgg hNG⟩
theorem er2_any (h : Dv w base b g m V s) (hG : Gd s) {i : Nat} (hi : i < s.nb) {q1 q2 q3 : Nat} (hE : Ex w b g i q1 q2 q3) (n : Int) : Calls Try.prog 69 #[.int .i64 n, .pointer (some ⟨q3, 0, none⟩)] w (StepAny w base b g m V s (s.put i (s.eU i))) := by
  obtain ⟨_, _, c3⟩ := hE.cells
  have HA := Lib.hid (er1_any h hG hi hE)
  clear h hG hE
  go_enter Try.func69, Try.ntmps69
  go_wp2_with ((go_at_call 66; with_reducible refine HA.out.mono ?_); rintro e w2 ⟨⟨v, rfl⟩, hstep⟩; have HS := Lib.hid hstep; clear hstep)
  go_end0
  exact ⟨⟨_, rfl⟩, HS.out⟩
/-- The state as block i's erase count has risen. -/
def Dev.e1 (s : Dev) (i : Nat) : Dev := s.put i ⟨(s.bk i).er + 1, (s.bk i).pg⟩
theorem Gd.put {s : Dev} (h : Gd s) (i : Nat) (k : Bk) (he : 0 ≤ k.er ∧ k.er ≤ s.en) (hp : k.pg.length ≤ s.np) (hl : ∀ p ∈ k.pg, (p.st = 2 ∨ p.st = 3) ∧ p.d.length = s.sz ∧ p.s.length = 64 ∨ (p.st = 4 ∨ p.st = 5)) : Gd (s.put i k) := by
  refine ⟨h.nb, h.np, h.sz, h.en, fun j hj => ?_, fun j hj => ?_, h.pb, h.n, fun j hj => ?_⟩
  all_goals
    show _
    unfold Dev.put upd
    by_cases e : j = i
    · simp only [e, if_true]
      first | exact he | exact hp | exact hl
    · simp only [e, if_false]
      first | exact h.er j hj | exact h.pg j hj | exact h.ln j hj
theorem Gd.e1 {s : Dev} (h : Gd s) {i : Nat} (hi : i < s.nb) (he : (s.bk i).er < s.en) : Gd (s.e1 i) := h.put i _ (by have := h.er i hi; show 0 ≤ (s.bk i).er + 1 ∧ (s.bk i).er + 1 ≤ s.en; omega) (h.pg i hi) (h.ln i hi)
/-- The world in which execute is called by erase. -/
def EW (w : World) (b g i : Nat) (n : Int) : World := (((w.setCell ⟨g, i * 2, none⟩ (.int .i64 n)).alloc (.cells #[.pointer (some ⟨b, 0, none⟩)] 29)).alloc (.cells #[.pointer (some ⟨g, i * 2, none⟩)] 103)).alloc (.cells #[.func (.func 66) #[] #[.pointer (some ⟨w.heap.size, 0, none⟩), .pointer (some ⟨w.heap.size + 1, 0, none⟩)]] 1)
theorem ew_all (h : Dv w base b g m V s) {i : Nat} (hi : i < s.nb) (n : Int) : Dv (EW w b g i n) base b g m V (s.put i ⟨n, (s.bk i).pg⟩) ∧ Ex (EW w b g i n) b g i w.heap.size (w.heap.size + 1) (w.heap.size + 1 + 1) ∧ Chg (Foot s b g m V) w (EW w b g i n) := by
  have h0 := h.recount hi n
  have hc0 : Chg (· = g) w (w.setCell ⟨g, i * 2, none⟩ (.int .i64 n)) := (Chg.refl (· = g) w).setCell rfl _
  have z0 : (w.setCell ⟨g, i * 2, none⟩ (.int .i64 n)).heap.size = w.heap.size := by simp [World.setCell]
  unfold EW
  generalize w.setCell ⟨g, i * 2, none⟩ (.int .i64 n) = W0 at *
  have k1 := heap_alloc_new W0 (.cells #[.pointer (some ⟨b, 0, none⟩)] 29)
  have z1 : (W0.alloc (.cells #[.pointer (some ⟨b, 0, none⟩)] 29)).heap.size = W0.heap.size + 1 := World.size_alloc _ _
  have b0 := below_alloc W0 (.cells #[.pointer (some ⟨b, 0, none⟩)] 29)
  generalize W0.alloc (.cells #[.pointer (some ⟨b, 0, none⟩)] 29) = W1 at *
  have k2 := heap_alloc_new W1 (.cells #[.pointer (some ⟨g, i * 2, none⟩)] 103)
  have z2 : (W1.alloc (.cells #[.pointer (some ⟨g, i * 2, none⟩)] 103)).heap.size = W1.heap.size + 1 := World.size_alloc _ _
  have b1 := below_alloc W1 (.cells #[.pointer (some ⟨g, i * 2, none⟩)] 103)
  generalize W1.alloc (.cells #[.pointer (some ⟨g, i * 2, none⟩)] 103) = W2 at *
  have k4 := heap_alloc_new W2 (.cells #[.func (.func 66) #[] #[.pointer (some ⟨w.heap.size, 0, none⟩), .pointer (some ⟨w.heap.size + 1, 0, none⟩)]] 1)
  have b3 := below_alloc W2 (.cells #[.func (.func 66) #[] #[.pointer (some ⟨w.heap.size, 0, none⟩), .pointer (some ⟨w.heap.size + 1, 0, none⟩)]] 1)
  generalize W2.alloc (.cells #[.func (.func 66) #[] #[.pointer (some ⟨w.heap.size, 0, none⟩), .pointer (some ⟨w.heap.size + 1, 0, none⟩)]] 1) = W4 at *
  have e3 : W2.heap.size = w.heap.size + 1 + 1 := by omega
  have b4 : Below W0.heap.size W0 W4 := (b0.trans (b1.mono (by omega))).trans (b3.mono (by omega))
  refine ⟨h0.below b4, ⟨?_, ?_, by rw [← e3]; exact k4⟩, (hc0.mono (fun k hk => .inr (.inl hk))).then_below b4⟩
  · rw [← z0]
    exact (b3.block _ (by omega)).trans ((b1.block _ (by omega)).trans k1)
  · rw [← z0, ← z1]
    exact (b3.block _ (by omega)).trans k2
theorem exec_erase_any (h : Dv w base b g m V s) (hG : Gd s) (hn : s.n ≤ 1000000000) {i : Nat} (hi : i < s.nb) (he : (s.bk i).er < s.en) :
    Calls Try.prog 68 #[.pointer (some ⟨b, 0, none⟩), .int .i64 55, .func (.func 69) #[] #[.pointer (some ⟨w.heap.size + 1 + 1, 0, none⟩)], .func (.func 66) #[] #[.pointer (some ⟨w.heap.size, 0, none⟩), .pointer (some ⟨w.heap.size + 1, 0, none⟩)], .func (.func 70) #[] #[.pointer (some ⟨w.heap.size + 1, 0, none⟩)]]
      (EW w b g i ((s.bk i).er + 1)) (ExPost w base b g m V s ((s.e1 i).exS i ((s.e1 i).eU i) ((s.e1 i).eU i) ((s.e1 i).eN i)) (s.exE 55)) := by
  obtain ⟨h4, hE, hc⟩ := ew_all h hi ((s.bk i).er + 1)
  have hl := h.lt
  have hg1 := hG.e1 hi he
  have hEW : ∀ W, Chg (· = b) (EW w b g i ((s.bk i).er + 1)) W → Ex W b g i w.heap.size (w.heap.size + 1) (w.heap.size + 1 + 1) := fun W hW => hE.chg hW (by omega) (by omega) (by omega)
  refine (exec_erase (s := s.e1 i) h4 hg1 hn (i := i) 55 w.heap.size (w.heap.size + 1) (w.heap.size + 1 + 1) ((s.e1 i).eU i) ((s.e1 i).eU i) ((s.e1 i).eN i) (fun W hD hC => ?_) (fun W hD hC => ?_) (fun W hD hC => ?_)).mono fun e w' ⟨e1, e2⟩ => ⟨e1, e2.pre hc rfl⟩
  · exact er2_any hD hg1.cut hi (hEW W hC) _
  · exact er1_any hD hg1.go hi (hEW W hC)
  · exact er3_any hD hg1.go hi (hEW W hC)
theorem erase_any (h : Dv w base b g m V s) (hG : Gd s) (hn : s.n ≤ 1000000000) {i : Nat} (hi : i < s.nb) (he : (s.bk i).er < s.en) :
    Calls Try.prog 55 #[.pointer (some ⟨b, 0, none⟩), .pointer (some ⟨g, i * 2, none⟩)] w (ExPost w base b g m V s ((s.e1 i).exS i ((s.e1 i).eU i) ((s.e1 i).eU i) ((s.e1 i).eN i)) (s.exE 55)) := by
  have HE := Lib.hid (exec_erase_any h hG hn hi he)
  unfold EW at HE
  obtain ⟨c1, _⟩ := h.gcells hi
  have f1 := h.gfree (i * 2)
  have her := hG.er i hi
  have hen := hG.en
  have hgl := h.glt
  have hne : ¬ w.heap.size + 1 = g := by omega
  have hne2 : ¬ w.heap.size = g := by omega
  clear h hG hn
  generalize (s.e1 i).exS i ((s.e1 i).eU i) ((s.e1 i).eU i) ((s.e1 i).eN i) = S1 at *
  generalize s.exE 55 = E1 at *
  go_enter Try.func55, Try.ntmps55
  go_wp2_with ((go_at_call 68; with_reducible refine HE.out.mono ?_); rintro e w5 ⟨rfl, hst⟩; have HST := Lib.hid hst; clear hst)
  go_ret
  exact ⟨rfl, HST.out⟩
end
end Go.Proofs.Ytddejcoagcaidaa
