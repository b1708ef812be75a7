/- A region that draws its order: its head reads and calls, and the calls may lay blocks; its tail waits for the whole head and is forced. One walk in the order of the text serves. Conditions stand in each theorem. -/
import Derived.StillTail
import Derived.Test.YtngaifokkkmmcaaRows
import Derived.WalkKit
import Derived.Below
import Derived.Deep.Draws
import Derived.Lib.Hide
import Derived.Outline
import Derived.WalkSpells
import Derived.BigQuiet
import Derived.BigRegion
import Derived.RegionTactic
import Derived.Deep.RegionHeld3
import Derived.Deep.Cut
import Derived.Laws.Rows
import Derived.LoopN
import Derived.Sort.Grow
import Derived.Deep.QuietTactic
namespace Go.Proofs.Ytngaifokkkmmcaa
open Go Go.RowKit
set_option linter.unusedVariables false
set_option maxRecDepth 100000
section
variable {P : Program} {ops : Array Oper} {md : Region.Mode} {C : World → Prop}
/-- The array in which the tail counts as done. -/
def upT (n : Nat) (L : Array Bool) : Array Bool := L.mapIdx fun i b => b || decide (n ≤ i)
theorem upT_get {n j : Nat} {L : Array Bool} {d : Bool} (h : j < L.size) : (upT n L).getD j d = (L.getD j d || decide (n ≤ j)) := by
  simp [upT, h]
theorem upT_set {n i : Nat} {L : Array Bool} : upT n (L.setIfInBounds i true) = (upT n L).setIfInBounds i true := by
  apply Array.ext
  · simp [upT]
  · intro j h1 h2
    by_cases hij : i = j
    · subst hij
      simp [upT]
    · simp [upT]
theorem ready_upT {n i : Nat} {L : Array Bool} (hsz : L.size = ops.size) (h : i ∈ Region.ready md ops L) (hin : i < n) : i ∈ Region.ready md ops (upT n L) := by
  obtain ⟨h0, o, ho, hall⟩ := mem_ready.1 h
  have hi : i < L.size := by rw [hsz]; exact (Array.getElem?_eq_some_iff.1 ho).1
  refine mem_ready.2 ⟨by rw [upT_get hi, h0]; simp; omega, o, ho, fun e he hb => ?_⟩
  have h1 := hall e he hb
  have he2 : e.on < L.size := by
    rcases Nat.lt_or_ge e.on L.size with h' | h'
    · exact h'
    · simp [Array.getElem?_eq_none h'] at h1
  rw [upT_get he2, h1]; rfl
/-- Each operation of the head waits for earlier ones alone. -/
def depsB (md : Region.Mode) (ops : Array Oper) (n : Nat) : Bool :=
  (List.range n).all fun i => match ops[i]? with
    | some o => o.after.all fun e => !Region.binds md e || decide (e.on < i)
    | none => false
theorem depsB_spec {n i : Nat} (h : depsB md ops n = true) (hi : i < n) : ∃ o, ops[i]? = some o ∧ ∀ e ∈ o.after, Region.binds md e = true → e.on < i := by
  have h1 := List.all_eq_true.1 h i (List.mem_range.2 hi)
  split at h1
  · rename_i o ho
    refine ⟨o, ho, fun e he hb => ?_⟩
    obtain ⟨j, hj, rfl⟩ := Array.getElem_of_mem he
    have h2 := (Array.all_eq_true.1 h1) j hj
    simpa [hb] using h2
  · cases h1
theorem heads_done {n : Nat} {L : Array Bool} (hd : depsB md ops n = true) (inv : HeadInv md ops n L) (hno : ∀ i, i < n → i ∉ Region.ready md ops L) : ∀ i, i < n → L.getD i true = true := by
  intro i
  induction i using Nat.strongRecOn with
  | _ i ih =>
    intro hi
    cases hl : L.getD i true with
    | true => rfl
    | false =>
      obtain ⟨o, ho, hdep⟩ := depsB_spec hd hi
      refine absurd (mem_ready.2 ⟨hl, o, ho, fun e he hb => ?_⟩) (hno i hi)
      have hlt := hdep e he hb
      have h1 := ih e.on hlt (by omega)
      have h2 : e.on < L.size := by rw [inv.size]; have := (Array.getElem?_eq_some_iff.1 ho).1; omega
      simpa [h2] using h1
/-- What is left of the head is the list S; behind the head stands hQ. -/
theorem head_any {n g : Nat} (hs : Region.sinkB md ops n = true) (hc : Region.chainB md ops n = true) (hn : n < ops.size) (hd : depsB md ops n = true) {Q : Act → Prop} {Q' : Exit → Act → World → Prop}
    (hQ : ∀ L a w, C w → HeadInv md ops n L → (∀ i, i < n → L.getD i true = true) → Q a → wpAny P md ops Q' g L a w) :
    ∀ (f : Nat) (S : List Nat) (L : Array Bool) (a : Act) (w : World), C w → HeadInv md ops n L → S.Nodup → S.length = f → (∀ i, (i < n ∧ L.getD i true = false) ↔ i ∈ S) → wpAnyQ P md ops C Q f (upT n L) a → wpAny P md ops Q' (f + g) L a w
  | 0, S, L, a, w, hC, inv, _, hS, hm, h => by
    rw [Nat.zero_add]
    have : S = [] := List.length_eq_zero_iff.1 hS
    subst this
    refine hQ L a w hC inv (fun i hi => ?_) h.2
    cases hl : L.getD i true with
    | true => rfl
    | false => exact absurd ((hm i).1 ⟨hi, hl⟩) (by simp)
  | f + 1, S, L, a, w, hC, inv, hnd, hS, hm, h => by
    rw [show f + 1 + g = (f + g) + 1 by omega]
    obtain ⟨s, hs'⟩ : ∃ s, s ∈ S := List.exists_mem_of_length_pos (by omega)
    obtain ⟨hsn, hsl⟩ := (hm s).2 hs'
    refine ⟨fun h0 => ?_, fun i hi => ?_⟩
    · have h1 := heads_done hd inv (fun i _ hi => by rw [h0] at hi; cases hi) s hsn
      rw [hsl] at h1; cases h1
    · have hin : i < n := by
        rcases Nat.lt_or_ge i n with h' | h'
        · exact h'
        · exact absurd hi (tail_waits hs hc hn inv _ s rfl hsn hsl i h')
      have h1 := h.2 i (ready_upT inv.size hi hin)
      have hun := (mem_ready.1 hi).1
      have hisz : i < L.size := by rw [inv.size]; omega
      refine wpOp_of_qOp hC (fun a' w' hw' h2 => ?_) h1
      rw [← upT_set] at h2
      refine head_any hs hc hn hd hQ f (S.erase i) _ a' w' hw' (inv.set hi hin) (hnd.erase i) (by rw [List.length_erase_of_mem ((hm i).1 ⟨hin, hun⟩), hS]; rfl) (fun j => ?_) h2
      rw [hnd.mem_erase_iff, ← hm j]
      by_cases hij : i = j
      · subst hij
        simp [hisz]
      · rw [getD_set_ne true hij]
        simp [Ne.symm hij]
theorem lex_up {Q : Act → Prop} (hsel : Region.noSelect ops = true) : ∀ (l : List Oper) (k : Nat) (L : Array Bool) (a : Act), (∀ j, j < l.length → l[j]? = ops[k + j]?) →
    Region.lexFrom md ops l.length k L = true → wpQuiet P ops C Q l a → wpAnyQ P md ops C Q l.length L a
  | [], _, _, _, _, hB, h => ⟨by simpa [Region.lexFrom] using hB, h⟩
  | o :: l, k, L, a, hl, hB, h => by
    have h0 : ops[k]? = some o := by simpa using (hl 0 (by simp)).symm
    simp only [List.length_cons, Region.lexFrom, Bool.and_eq_true] at hB
    have hst : qOp P ops C k (wpQuiet P ops C Q l) a := by unfold qOp; simp only [h0]; exact h
    obtain ⟨v, hy, hK⟩ := yieldsIn_of_qOp h0 hst
    refine wpAnyQ_first h0 (Region.noSelect_spec hsel) l.length L a (Region.free_spec h0 hB.1.2) (by simpa using hB.1.1) hy (lex_up hsel l (k + 1) _ _ (fun j hj => ?_) hB.2 hK)
    have h3 := hl (j + 1) (by simp; omega)
    rw [List.getElem?_cons_succ] at h3
    rw [h3, show k + (j + 1) = k + 1 + j by omega]
/-- The head done, the tail not. -/
def headT (m n : Nat) : Array Bool := Array.ofFn (n := m) fun i => decide (i.1 < n)
def tailB (md : Region.Mode) (ops : Array Oper) (n : Nat) : Bool :=
  Region.noSelect ops && decide (n < ops.size) && Region.sinkB md ops n && Region.chainB md ops n && depsB md ops n && Region.lexFrom md ops n 0 (upT n (Array.replicate ops.size false)) && Region.seqB md ops (ops.size - n) n (headT ops.size n)
theorem wp_region_quiet_tail {id : Nat} {Q : Exit → Act → World → Prop} {a : Act} {w : World} {l : List Oper} (n : Nat) (hm : P.follows .mixedOrders = true) (hB : tailB .any l.toArray n = true) (hC : C { w with drawn := w.drawn + 1 })
    (h : wpQuiet P l.toArray C (fun a' => ∀ w', C w' → wpList P l.toArray Q (l.drop n) a' w') (l.take n) a) : (Code.region id l.toArray true).wp P Q a w := by
  simp only [tailB, Bool.and_eq_true, decide_eq_true_eq] at hB
  obtain ⟨⟨⟨⟨⟨⟨hsel, hn⟩, hs⟩, hc⟩, hd⟩, hlex⟩, hseq⟩ := hB
  have hn' : n < l.length := by simpa using hn
  have htl : (l.take n).length = n := by simp; omega
  have hdl : (l.drop n).length = l.toArray.size - n := by simp
  have inv0 : HeadInv .any l.toArray n (Array.replicate l.toArray.size false) :=
    ⟨by simp, fun j oj _ hl => (by rw [getD_replicate_false] at hl; cases hl), fun t _ ht => getD_in (by simpa using ht) (getD_replicate_false _ _)⟩
  have H := lex_up (C := C) (md := .any) hsel (l.take n) 0 (upT n (Array.replicate l.toArray.size false)) a (fun j hj => by
    have hj' : j < n := by rw [htl] at hj; exact hj
    simp [hj']) (by rw [htl]; exact hlex) h
  rw [htl] at H
  refine wp_region_any hm ?_
  have := head_any (Q' := Q) (g := l.toArray.size - n) hs hc hn hd (fun L a' w' hw' inv hall hq => by
    have e : L = headT l.toArray.size n := by
      apply Array.ext
      · rw [inv.size]; simp [headT]
      · intro i h1 h2
        simp only [headT, Array.getElem_ofFn]
        by_cases hi : i < n
        · have := hall i hi
          simp [h1] at this
          simp [this, hi]
        · have := inv.tail i (by omega) (by rw [← inv.size]; exact h1)
          simp [h1] at this
          simp [this, hi]
    rw [e]
    have h4 := wpAny_of_seq (md := .any) (Q' := Q) (l.drop n) n (headT l.toArray.size n) a' w' (fun j => by simp [List.getElem?_drop]) (by rw [hdl]; exact hseq) (hq w' hw')
    rwa [hdl] at h4) n (List.range n) _ a _ hC inv0 List.nodup_range (by simp) (fun i => by
      rw [List.mem_range]
      refine ⟨fun h => h.1, fun hi => ⟨hi, getD_in (by simp; omega) (getD_replicate_false _ _)⟩⟩) H
  rw [show n + (l.toArray.size - n) = l.toArray.size by omega] at this
  exact this
end
/-- Draws, and new blocks behind all that was there. -/
def Gr (w W : World) : Prop := ∃ n os, W = Sort.grow (w.drewN n) os
theorem Gr.refl (w : World) : Gr w w := ⟨0, #[], by rw [Sort.grow_empty]; rfl⟩
theorem Gr.trans {a b c : World} (h : Gr a b) (k : Gr b c) : Gr a c := by
  obtain ⟨n, os, rfl⟩ := h
  obtain ⟨m, os', rfl⟩ := k
  refine ⟨n + m, os ++ os', ?_⟩
  show Sort.grow (Sort.grow ((a.drewN n).drewN m) os) os' = _
  rw [Sort.grow_grow, World.drewN_drewN]
theorem Gr.alloc {a b : World} (h : Gr a b) (o : Obj) : Gr a (b.alloc o) := h.trans ⟨0, #[o], by rw [Sort.alloc_eq_grow]; rfl⟩
theorem Gr.drew {a b : World} (h : Gr a b) : Gr a b.drew := h.trans ⟨1, #[], by rw [Sort.grow_empty]; rfl⟩
theorem Gr.drewN {a b : World} (h : Gr a b) (n : Nat) : Gr a (b.drewN n) := h.trans ⟨n, #[], by rw [Sort.grow_empty]⟩
theorem Gr.below {a b : World} (h : Gr a b) : Below a.heap.size a b := by
  obtain ⟨n, os, rfl⟩ := h
  exact ⟨rfl, rfl, rfl, by simp [Sort.grow, World.drewN], fun k hk => by simp only [Sort.grow, World.drewN]; rw [Array.getElem?_append_left hk]⟩
theorem Gr.cell {a b : World} (h : Gr a b) {g o : Nat} {v : Value} (hc : a.cell? ⟨g, o, none⟩ = some v) : b.cell? ⟨g, o, none⟩ = some v := (h.below.cell (p := ⟨g, o, none⟩) (World.block_lt_of_cell? a _ hc)).trans hc
/-- A world in which at most new blocks lie. -/
structure Gw (w : World) where
  W : World
  h : Gr w W
/-- What a call leaves that only makes memory. -/
def Ret (w : World) (v : Value) (e : Ending) (w' : World) : Prop := e = .returned v ∧ Gr w w'
theorem gw_of {P : Program} {f : Nat} {args : Array Value} {w : World} {v : Value} (p : Gw w) (h : Calls P f args p.W (Ret p.W v)) : Calls P f args p.W fun e w'' => e = .returned v ∧ ∃ q : Gw w, w'' = q.W :=
  h.mono fun e w' ⟨a, b⟩ => ⟨a, ⟨w', p.h.trans b⟩, rfl⟩
theorem gw_ne (w : World) : Nonempty (Gw w) := ⟨⟨w, Gr.refl _⟩⟩
theorem Gw.cell {w : World} (r : Gw w) {g o : Nat} {v : Value} (hc : w.cell? ⟨g, o, none⟩ = some v) : r.W.cell? ⟨g, o, none⟩ = some v := r.h.cell hc
/-- A drawn region that reads and calls, and the calls may lay blocks. -/
theorem wp_region_gw {P : Program} {id : Nat} {Q : Exit → Act → World → Prop} {a : Act} {w : World} {l : List Oper} (hm : P.follows .mixedOrders = true) (hB : Region.lexB .any l.toArray = true)
    (h : wpQuiet P l.toArray (fun W => ∃ p : Gw w, W = p.W) (fun a' => ∀ w', (∃ p : Gw w, w' = p.W) → Q .normal a' w') l a) : (Code.region id l.toArray true).wp P Q a w :=
  wp_region_quiet (C := fun W => ∃ p : Gw w, W = p.W) hm hB ⟨⟨w.drew, (Gr.refl _).drew⟩, rfl⟩ (by simpa using h)
theorem wp_region_gw_tail {P : Program} {id : Nat} {Q : Exit → Act → World → Prop} {a : Act} {w : World} {l : List Oper} (n : Nat) (hm : P.follows .mixedOrders = true) (hB : tailB .any l.toArray n = true)
    (h : wpQuiet P l.toArray (fun W => ∃ p : Gw w, W = p.W) (fun a' => ∀ w', (∃ p : Gw w, w' = p.W) → wpList P l.toArray Q (l.drop n) a' w') (l.take n) a) : (Code.region id l.toArray true).wp P Q a w :=
  wp_region_quiet_tail (C := fun W => ∃ p : Gw w, W = p.W) n hm hB ⟨⟨w.drew, (Gr.refl _).drew⟩, rfl⟩ h
end Go.Proofs.Ytngaifokkkmmcaa
