/- A function whose loops range over functions leaves with marks: what they leave. What a loop's state may say of a pool. Conditions stand in each theorem. -/
import Derived.Test.YtpojgjbgbbnojaaVB
namespace Go.Proofs.Ytpojgjbgbbnojaa
open Go.RowKit Go.Shelf
attribute [local go_sem] Oper.semAt_some
set_option linter.unusedVariables false
set_option maxHeartbeats 1000000
set_option maxRecDepth 100000
/-- The mark of a loop over a function, whose block is D. -/
def mrk (D : Nat) : Deferred := { target := .collected D, args := #[] }
/-- The blocks of the marks: new ones, each open and empty. -/
def Marks (n0 : Nat) (Ds : List Nat) (W : World) : Prop := Ds.Nodup ∧ ∀ D ∈ Ds, n0 ≤ D ∧ W.heap[D]? = some (.deferred (some []))
theorem Marks.nil (n0 : Nat) (W : World) : Marks n0 [] W := ⟨List.nodup_nil, fun D h => by cases h⟩
theorem Marks.lt {n0 : Nat} {Ds : List Nat} {W : World} (h : Marks n0 Ds W) {D : Nat} (hD : D ∈ Ds) : D < W.heap.size := (Array.getElem?_eq_some_iff.1 (h.2 D hD).2).1
theorem Marks.keep {n0 : Nat} {Ds : List Nat} {W W' : World} (h : Marks n0 Ds W) (hk : ∀ D ∈ Ds, W'.heap[D]? = W.heap[D]?) : Marks n0 Ds W' := ⟨h.1, fun D hD => ⟨(h.2 D hD).1, (hk D hD).trans (h.2 D hD).2⟩⟩
theorem Marks.below {n0 : Nat} {Ds : List Nat} {W W' : World} (h : Marks n0 Ds W) (hb : Below W.heap.size W W') : Marks n0 Ds W' := h.keep fun D hD => hb.block D (h.lt hD)
theorem Marks.chg {n0 : Nat} {Ds : List Nat} {W W' : World} {S : Nat → Prop} (h : Marks n0 Ds W) (hc : Chg S W W') (hS : ∀ k, S k → ∀ o, W.heap[k]? = some o → o.isCells = true) : Marks n0 Ds W' := h.keep fun D hD => hc.block D (h.lt hD) fun hs => by
  have := hS D hs _ (h.2 D hD).2
  cases this
theorem Marks.cons {n0 n1 : Nat} {Ds : List Nat} {W : World} {D : Nat} (h : Marks n0 Ds W) (hn : n0 ≤ n1) (hD : n1 ≤ D) (hlt : ∀ k ∈ Ds, k < n1) (hd : W.heap[D]? = some (.deferred (some []))) : Marks n0 (D :: Ds) W :=
  ⟨List.nodup_cons.2 ⟨fun hm => by have := hlt D hm; omega, h.1⟩, fun k hk => by
    rcases List.mem_cons.1 hk with rfl | hk
    · exact ⟨by omega, hd⟩
    · exact h.2 k hk⟩
theorem own_marks {β : Type} {n0 B : Nat} {Ds : List Nat} (hB : ∀ D ∈ Ds, D < B) : OwnFrom B (fun (_ : β) W => Marks n0 Ds W) := fun k X Y row hs hg hr =>
  hs.keep fun D hD => hg.block D (hs.lt hD) fun e => by have := (hr D e.symm).1; have := hB D hD; omega
/-- The world in which the marks' blocks are shut. -/
theorem leaves_marks {n n0 : Nat} {P : Program} {fn : Func} {tmps : Array Value} {R : Ending → World → Prop} : ∀ (Ds : List Nat) (W : World), Marks n0 Ds W →
    (∀ W', W'.heap.size = W.heap.size → W'.os = W.os → W'.tape = W.tape → W'.output = W.output → (∀ k, (n0 ≤ k → ∃ o, W.heap[k]? = some o ∧ o.isCells = true) → W'.heap[k]? = W.heap[k]?) → ∃ v, (results fn tmps).run P W' = .ok v W' ∧ R (.returned v) W') →
    LeavesInM Fence.wide n P fn tmps R (Ds.map mrk) .returning W
  | [], W, _, h => h W rfl rfl rfl rfl fun _ _ => rfl
  | D :: Ds, W, hm, h => by
    refine ⟨by simp, .inl ⟨D, _, rfl, run_takeDeferred (hm.2 D (by simp)).2, ?_⟩⟩
    have hnd := List.nodup_cons.1 hm.1
    refine leaves_marks (n0 := n0) Ds _ ⟨hnd.2, fun k hk => ⟨(hm.2 k (List.mem_cons_of_mem _ hk)).1, (World.putObj_heap_other (fun e => by subst e; exact hnd.1 hk)).trans (hm.2 k (List.mem_cons_of_mem _ hk)).2⟩⟩ fun W' h1 h2 h3 h4 h5 => h W' (by simpa using h1) h2 h3 h4 fun k hk => ?_
    have hkD : k ≠ D := by
      rintro rfl
      obtain ⟨o, ho, hc⟩ := hk (hm.2 k (by simp)).1
      rw [(hm.2 k (by simp)).2] at ho
      cases ho; cases hc
    exact (h5 k (fun hn => by
      obtain ⟨o, ho, hc⟩ := hk hn
      exact ⟨o, (World.putObj_heap_other hkD).trans ho, hc⟩)).trans (World.putObj_heap_other hkD)
/-- The end of a law with a variable for its result, behind marks. -/
theorem law_end {n : Nat} {P : Program} {fn : Func} {tmps : Array Value} {w W : World} {q : Nat} {Ds : List Nat} (hm : Marks w.heap.size Ds W) (hb : Below w.heap.size w W) (hq : Bx1 W q 4 (.bool true))
    (hres : ∀ W', W'.cell? ⟨q, 0, none⟩ = some (.bool true) → (results fn tmps).run P W' = .ok (.bool true) W') : LeavesInM Fence.wide n P fn tmps (OkB w) (Ds.map mrk) .returning W :=
  leaves_marks Ds W hm fun W' h1 h2 h3 h4 h5 => ⟨.bool true, hres W' (by
    have hx : W'.heap[q]? = W.heap[q]? := h5 q fun _ => ⟨_, hq, rfl⟩
    exact Bx1.cell (W := W') (t := 4) (v := .bool true) (hx.trans hq)), rfl, ⟨h2.trans hb.os, h3.trans hb.tape, h4.trans hb.output, by have := hb.size; omega, fun k hk => (h5 k fun hn => by omega).trans (hb.block k hk)⟩⟩
/-- The same, where the variable for the result is written last. -/
theorem law_true {n : Nat} {P : Program} {fn : Func} {tmps : Array Value} {w W : World} {q : Nat} {Ds : List Nat} {v0 : Value} (hm : Marks w.heap.size Ds W) (hb : Below w.heap.size w W) (hq : Bx1 W q 4 v0) (hqw : w.heap.size ≤ q)
    (hres : ∀ W', W'.cell? ⟨q, 0, none⟩ = some (.bool true) → (results fn tmps).run P W' = .ok (.bool true) W') : LeavesInM Fence.wide n P fn tmps (OkB w) (Ds.map mrk) .returning (W.setCell ⟨q, 0, none⟩ (.bool true)) :=
  law_end (q := q) (hm.chg (S := (· = q)) ((Chg.refl (· = q) W).setCell rfl _) fun k hk o ho => by subst hk; rw [show W.heap[k]? = _ from hq] at ho; cases ho; rfl) (hb.setCell hqw _) (heap_setCell_same W q 0 _ 4 _ hq) hres
theorem own_pl {β : Type} {base b g cap : Nat} {l : List Blk} (B : Nat) : OwnFrom B (fun (_ : β) W => Pl W base b g cap l) := fun k X Y row hs hg hr => by
  have hx : ∀ (t : Nat) (o : Obj), X.heap[t]? = some o → o.isCells = true → Y.heap[t]? = X.heap[t]? := fun t o ho hc => hg.block t (Array.getElem?_eq_some_iff.1 ho).1 fun e => by
    obtain ⟨o', ho', hc'⟩ := (hr t e.symm).2
    rw [ho] at ho'; cases ho'; rw [hc] at hc'; cases hc'
  obtain ⟨cur, h1, _⟩ := hs.row
  exact hs.keep fun t ht => by
    rcases ht with rfl | rfl
    · exact hx _ _ hs.blk rfl
    · exact hx _ _ h1 rfl
theorem own_ws {β : Type} {E : World} {b g cap : Nat} {l : List Blk} {B : Nat} (hB : E.heap.size ≤ B) : OwnFrom B (fun (_ : β) W => WS E b g cap l W) :=
  fun k X Y row hs hg hr => ⟨own_pl B k X Y row hs.1 hg hr, ownFrom_below (Nat.le_refl _) hB k X Y row hs.2 hg hr⟩
theorem cnt_none {l : List Blk} {s : Int} (h : (lwc l s).2.2 = false) : cnt l s = 0 := by
  have := ((lwc_ok l s).1 h).2
  unfold cnt
  have e : l.filter (fun b => decide (b.st = s)) = [] := by
    rw [List.filter_eq_nil_iff]
    intro b hb
    obtain ⟨i, hi, rfl⟩ := List.getElem_of_mem hb
    have h2 := this i hi hi
    simpa [eqB] using h2
  rw [e]; rfl
def flI (l : List Blk) (s : Int) (k : Nat) : Nat := ((fl l s).getD k (0, ⟨0, 0⟩)).1
def flE (l : List Blk) (s : Int) (k : Nat) : Int := ((fl l s).getD k (0, ⟨0, 0⟩)).2.er
theorem fl_enc {l : List Blk} {s : Int} {k : Nat} (hk : k < (fl l s).length) : fe (fl l s)[k] = #[.int .i64 (flI l s k : Int), .int .i64 (flE l s k)] := by simp [fe, flI, flE, hk]
theorem fl_mem {l : List Blk} {s : Int} {k : Nat} (hk : k < (fl l s).length) : ∃ h : flI l s k < l.length, l[flI l s k].st = s ∧ flE l s k = l[flI l s k].er := by
  have e1 : flI l s k = (fl l s)[k].1 := by simp [flI, hk]
  have e2 : flE l s k = (fl l s)[k].2.er := by simp [flE, hk]
  have hm := List.getElem_mem hk
  obtain ⟨h1, h2⟩ := List.mem_filter.1 hm
  obtain ⟨i, hi, h3⟩ := List.getElem_of_mem h1
  rw [enum_length] at hi
  rw [enum_at hi] at h3
  rw [e2, e1]
  have h4 : (fl l s)[k] = (i, l[i]) := h3.symm
  rw [h4] at h2 ⊢
  exact ⟨hi, of_decide_eq_true h2, rfl⟩
/-- A loop over a pool's iterator whose variables are plain slots. -/
theorem range_asg {n p0 p1 : Nat} {g : Operand} {assign body : Code} {Q : Exit → Act → World → Prop} {a : Act} {w : World} {gf : Nat} {lb : Array Value} {l : List Blk} {s : Int} (asg : Value → Value → Array Value → Array Value)
    (hg : a.eval g = .func (.func gf) #[] lb) (eg : ∀ args w, (callFunc gf args).run Try.prog w = .ok (.enter gf args) w) {S : Nat → Prop} (hy : Yields Try.prog gf lb fe S (w.heap.size + 2) (fl l s) w)
    (I : Nat → World → Prop) (Ix : Code → Nat → World → Prop) (hI : OwnFrom w.heap.size I) (hIx : ∀ c, OwnFrom w.heap.size (Ix c)) (h0 : I 0 w)
    (hassign : ∀ (l' k : Nat) (W : World) (K : Act → World → Prop), K { tmps := asg (.int .i64 (flI l s k : Int)) (.int .i64 (flE l s k)) a.tmps, defers := [] } W →
      assign.wpIn (Fence.wide.inRound l') 9 Try.prog (Exit.then K (fun _ _ _ => False)) { tmps := (a.tmps.setIfInBounds p0 (.int .i64 (flI l s k : Int))).setIfInBounds p1 (.int .i64 (flE l s k)), defers := [] } W)
    (hbody : ∀ (l' k : Nat) (hk : k < (fl l s).length) (W : World), I k W → body.wpIn (Fence.wide.inRound l') 9 Try.prog (outPost w.heap.size S (I (k + 1)) (fun c => Ix c (k + 1)) W) { tmps := asg (.int .i64 (flI l s k : Int)) (.int .i64 (flE l s k)) a.tmps, defers := [] } W)
    (hdone : ∀ (D : Nat) (W : World), w.heap.size ≤ D → I (fl l s).length W → W.heap[D]? = some (.deferred (some [])) → Q .normal { a with defers := mrk D :: a.defers } W)
    (hstop : ∀ (D : Nat) (c : Code) (k : Nat) (W : World), w.heap.size ≤ D → k ≤ (fl l s).length → Ix c k W → W.heap[D]? = some (.deferred (some [])) → c.wpIn Fence.wide n Try.prog Q { a with defers := mrk D :: a.defers } W) :
    (Code.rangeFunc g #[p0, p1] assign body).wpIn Fence.wide n Try.prog Q a w := by
  refine range_list (gf := gf) (lb := lb) hg eg hy (Below.refl _ _) (fun _ => rfl) I Ix hI hIx h0 (fun k a' _ => a' = { tmps := asg (.int .i64 (flI l s k : Int)) (.int .i64 (flE l s k)) a.tmps, defers := [] }) (fun k a' _ X Y row hs _ _ => hs) ?_ ?_ hdone hstop
  · intro l' k hk W K hi hK
    rw [fl_enc hk]
    have h := hassign l' k W K (hK _ W (KeepsFrom.refl _ _) (Kc.refl _ _) hi rfl)
    simpa using h
  · rintro l' k hk a' W _ hi rfl
    exact hbody l' k hk W hi
/-- A pool of the call's own, with marks. -/
def WM (n0 : Nat) (E : World) (b g cap : Nat) (l : List Blk) (Ds : List Nat) (W : World) : Prop := WS E b g cap l W ∧ Marks n0 Ds W
section
variable {n0 : Nat} {E W W' : World} {b g cap : Nat} {l l' : List Blk} {Ds : List Nat}
theorem WM.mv (h : WM n0 E b g cap l Ds W) (hm : Mv W E.heap.size b g cap l' W') : WM n0 E b g cap l' Ds W' :=
  ⟨h.1.mv hm, h.2.chg hm.2 fun k hk o ho => by
    obtain ⟨cur, h1, _⟩ := h.1.1.row
    rcases hk with rfl | rfl
    · rw [h.1.1.blk] at ho; cases ho; rfl
    · rw [h1] at ho; cases ho; rfl⟩
theorem WM.later (h : WM n0 E b g cap l Ds W) (hb : Below W.heap.size W W') : WM n0 E b g cap l Ds W' := ⟨h.1.later hb, h.2.below hb⟩
theorem wm_take (h : WM n0 E b g cap l Ds W) : Calls Try.prog 17 #[.pointer (some ⟨b, 0, none⟩)] W fun e w' => e = .returned (.tuple #[.int .i64 ((lwc l 1).1 : Int), .int .i64 (tkE l)]) ∧ WM n0 E b g cap (tkS l) Ds w' ∧ Chg (Ft b g) W w' :=
  (Take_any h.1.1).mono fun e w' ⟨a1, a2⟩ => ⟨a1, h.mv a2, a2.2⟩
theorem wm_close (h : WM n0 E b g cap l Ds W) (q : Int) : Calls Try.prog 20 #[.pointer (some ⟨b, 0, none⟩), .int .i64 q] W fun e w' => ∃ v, e = .returned (.int .i64 v) ∧ WM n0 E b g cap (mvS (fun x => eqB x.st 2) 3 0 l q) Ds w' :=
  (Close_any h.1.1 q).mono fun e w' ⟨a1, a2⟩ => ⟨_, a1, h.mv a2⟩
theorem wm_rel (h : WM n0 E b g cap l Ds W) (q : Int) : Calls Try.prog 21 #[.pointer (some ⟨b, 0, none⟩), .int .i64 q] W fun e w' => ∃ v, e = .returned (.int .i64 v) ∧ WM n0 E b g cap (mvS (fun x => relB x.er x.st) 1 1 l q) Ds w' :=
  (Release_any h.1.1 q).mono fun e w' ⟨a1, a2⟩ => ⟨_, a1, h.mv a2⟩
theorem wm_set (h : WM n0 E b g cap l Ds W) (q s er : Int) : Calls Try.prog 23 #[.pointer (some ⟨b, 0, none⟩), .int .i64 q, .int .i64 s, .int .i64 er] W fun e w' => ∃ v, e = .returned (.int .i64 v) ∧ WM n0 E b g cap (seS l q s er) Ds w' :=
  (Set_any h.1.1 q s er).mono fun e w' ⟨a1, a2⟩ => ⟨_, a1, h.mv a2⟩
end
end Go.Proofs.Ytpojgjbgbbnojaa
