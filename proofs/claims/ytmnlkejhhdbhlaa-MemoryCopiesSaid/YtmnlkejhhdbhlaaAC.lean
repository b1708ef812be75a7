/- The state within the law's act. Conditions stand in each theorem. -/
import Derived.Test.YtmnlkejhhdbhlaaRZ
import Derived.Test.YtmnlkejhhdbhlaaCP
namespace Go.Proofs.Ytmnlkejhhdbhlaa
open Go.RowKit
set_option linter.unusedVariables false
set_option maxHeartbeats 8000000
set_option maxRecDepth 100000
theorem results_mid {P : Program} {fn : Func} {a b c : Tmp} {ty : TypeId} (h : fn.results = #[.tmp a, .cell b ty, .tmp c]) (tmps : Array Value) (w : World) (g : Nat) (t : TypeId) (cs : Array Value) (fr : Nat × Nat) (d : TypeDesc) (ha : tmps.getD b undef = .pointer (some ⟨g, 0, none⟩)) (hg : w.heap[g]? = some (.cells cs t fr))
    (hu : P.underlying ty = some d) (hd : (match d with | .struct _ | .array _ _ => true | _ => false) = true) (hi : (P.info? ty).map (·.size) = some cs.size) : (results fn tmps).run P w = .ok (.tuple #[tmps.getD a undef, .agg cs, tmps.getD c undef]) w := by
  have e := run_loadVar_row (P := P) w g t ty cs fr d hg hu hd hi
  have ha2 : tmps[b]?.getD undef = .pointer (some ⟨g, 0, none⟩) := by simpa using ha
  simp [results, h, ha2, asAddr, e]
theorem put2 {S : Nat → Prop} {a X : World} {q : Nat} (h : Chg S a X) (hq : S q) (u v : Value) : Chg S a ((X.setCell ⟨q, 0, none⟩ u).setCell ⟨q, 1, none⟩ v) := (h.setCell (p := ⟨q, 0, none⟩) hq _).setCell (p := ⟨q, 1, none⟩) hq _
/-- The state of the specification behind a call. -/
def nx (m : Mm) (e : KA) : Mm :=
  if e.wh = 0 ∨ e.wh = 1 then m.ch e.ad (e.l.length : Int) e.l
  else if e.wh = 2 then m.ch e.ad e.n (List.replicate e.n.toNat e.x)
  else if e.wh = 5 then { m with L := [] } else m
/-- What act leaves. -/
def AcP (W : World) (base b d : Nat) (S : Nat → Prop) (m' : Mm) (r : Ending) (w' : World) : Prop :=
  ∃ b' d' cap' B1 p1 e1 B2 p2 e2, r = .returned (.tuple #[.pointer (some ⟨b', 0, none⟩), .agg #[.slice B1 p1 e1, .slice B2 p2 e2], .bool true]) ∧ Mem w' base b' d' cap' m' ∧ Rf w' (fun k => S k ∨ k = b' ∨ k = d') B1 p1 e1 B2 p2 e2 m' ∧ Chg (fun k => k = b ∨ k = d) W w' ∧ (b' = b ∧ d' = d ∨ W.heap.size ≤ b' ∧ W.heap.size ≤ d')
/-- The three boxes of act. -/
structure A3 (q : Nat) (u0 u1 : Value) (cs : Array Value) (X : World) : Prop where
  a4 : X.heap[q]? = some (.cells #[u0, u1] 32 (0, 0))
  a5 : X.heap[q + 1]? = some (.cells cs 40 (0, 0))
  a7 : X.heap[q + 2]? = some (.cells #[.slice none 0 0, .slice none 0 0] 32 (0, 0))
section
variable {q : Nat} {u0 u1 v0 v1 v2 v3 v4 : Value} {cs : Array Value} {X X' : World}
theorem A3.lt (h : A3 q u0 u1 cs X) : q + 2 < X.heap.size := (Array.getElem?_eq_some_iff.1 h.a7).1
theorem A3.chg {S : Nat → Prop} (h : A3 q u0 u1 cs X) (hc : Chg S X X') (hS : ∀ k, S k → k < q ∨ q + 2 < k) : A3 q u0 u1 cs X' := by
  have key : ∀ k, q ≤ k → k ≤ q + 2 → X'.heap[k]? = X.heap[k]? := fun k h1 h2 => hc.block k (by have := h.lt; omega) (fun hs => by have := hS k hs; omega)
  exact ⟨(key _ (by omega) (by omega)).trans h.a4, (key _ (by omega) (by omega)).trans h.a5, (key _ (by omega) (by omega)).trans h.a7⟩
theorem A3.below (h : A3 q u0 u1 cs X) (hb : Below X.heap.size X X') : A3 q u0 u1 cs X' := h.chg (S := fun _ => False) (Chg.of_below hb) (fun k hk => hk.elim)
theorem A3.c40 (h : A3 q u0 u1 cs X) : X.cell? ⟨q, 0, none⟩ = some u0 := by rw [cell_of_row X q 0 _ 32 (0, 0) h.a4]; rfl
theorem A3.c41 (h : A3 q u0 u1 cs X) : X.cell? ⟨q, 1, none⟩ = some u1 := by rw [cell_of_row X q 1 _ 32 (0, 0) h.a4]; rfl
theorem A3.c5 (h : A3 q u0 u1 #[v0, v1, v2, v3, v4] X) : X.cell? ⟨q + 1, 0, none⟩ = some v0 ∧ X.cell? ⟨q + 1, 1, none⟩ = some v1 ∧ X.cell? ⟨q + 1, 2, none⟩ = some v2 ∧ X.cell? ⟨q + 1, 3, none⟩ = some v3 ∧ X.cell? ⟨q + 1, 4, none⟩ = some v4 := by
  have c := fun k => cell_of_row X (q + 1) k _ 40 (0, 0) h.a5
  exact ⟨c 0, c 1, c 2, c 3, c 4⟩
theorem A3.c7 (h : A3 q u0 u1 cs X) : X.cell? ⟨q + 1 + 1, 0, none⟩ = some (.slice none 0 0) ∧ X.cell? ⟨q + 1 + 1, 1, none⟩ = some (.slice none 0 0) ∧ ∀ k, X.frozen? ⟨q + 1 + 1, k, none⟩ = false := by
  have c := fun k => cell_of_row X (q + 2) k _ 32 (0, 0) h.a7
  exact ⟨c 0, c 1, fun k => frozen_of_row X (q + 2) k _ 32 h.a7⟩
end
/-- The world in which act begins. -/
def aE (w : World) (u0 u1 : Value) (cs : Array Value) : World := ((w.alloc (.cells #[u0, u1] 32)).alloc (.cells cs 40)).alloc (.cells #[.slice none 0 0, .slice none 0 0] 32)
theorem aE_facts (w : World) (u0 u1 : Value) (cs : Array Value) : A3 w.heap.size u0 u1 cs (aE w u0 u1 cs) ∧ Below w.heap.size w (aE w u0 u1 cs) ∧ (aE w u0 u1 cs).heap.size = w.heap.size + 3 := by
  unfold aE
  have b1 := below_alloc w (.cells #[u0, u1] 32)
  have e1 := heap_alloc_new w (.cells #[u0, u1] 32)
  have s1 : (w.alloc (.cells #[u0, u1] 32)).heap.size = w.heap.size + 1 := World.size_alloc _ _
  generalize w.alloc (.cells #[u0, u1] 32) = w1 at *
  have b2 := below_alloc w1 (.cells cs 40)
  have e2 := heap_alloc_new w1 (.cells cs 40)
  have s2 : (w1.alloc (.cells cs 40)).heap.size = w1.heap.size + 1 := World.size_alloc _ _
  generalize w1.alloc (.cells cs 40) = w2 at *
  have b3 := below_alloc w2 (.cells #[.slice none 0 0, .slice none 0 0] 32)
  have e3 := heap_alloc_new w2 (.cells #[.slice none 0 0, .slice none 0 0] 32)
  have s3 : (w2.alloc (.cells #[.slice none 0 0, .slice none 0 0] 32)).heap.size = w2.heap.size + 1 := World.size_alloc _ _
  generalize w2.alloc (.cells #[.slice none 0 0, .slice none 0 0] 32) = w3 at *
  rw [s1] at e2
  rw [s2, s1] at e3
  exact ⟨⟨(b3.block _ (by omega)).trans ((b2.block _ (by omega)).trans e1), (b3.block _ (by omega)).trans e2, e3⟩, (b1.trans (b2.mono b1.size)).trans (b3.mono (by omega)), by omega⟩
/-- Cells of bytes that may be written. -/
structure Cu (X : World) (g n : Nat) : Prop where
  c : ∀ j, j < n → ∃ v, X.cell? ⟨g, j, none⟩ = some (.int .u8 v)
  f : 0 < n → ∀ j, X.frozen? ⟨g, j, none⟩ = false
theorem Cu.of_own {X : World} {base g n cap : Nat} {l : List UInt8} (h : X.ownsRow base 5 1 (.slice (some ⟨g, 0, none⟩) n cap) n (bv l)) : Cu X g n :=
  ⟨fun j hj => by
    have hl : l.length = n := by have := h.1; rw [bv_length] at this; omega
    exact ⟨_, by rw [h.cellAt j (by omega), bv_get (by omega)]⟩, fun _ j => h.frozenAt j⟩
theorem Cu.put {X : World} {g n j : Nat} (h : Cu X g n) (hj : j < n) (v : Int) : Cu (X.setCell ⟨g, j, none⟩ (.int .u8 v)) g n := by
  refine ⟨fun i hi => ?_, fun h0 i => ?_⟩
  · by_cases e : i = j
    · subst e
      obtain ⟨u, hu⟩ := h.c i hi
      exact ⟨v, World.cell?_setCell_same' _ _ _ (by rw [hu]; rfl)⟩
    · obtain ⟨u, hu⟩ := h.c i hi
      refine ⟨u, ?_⟩
      rw [World.cell?_setCell_other _ _ _ _ (by simp <;> omega)]
      exact hu
  · rw [World.frozen?_setCell]
    exact h.f h0 i
end Go.Proofs.Ytmnlkejhhdbhlaa
