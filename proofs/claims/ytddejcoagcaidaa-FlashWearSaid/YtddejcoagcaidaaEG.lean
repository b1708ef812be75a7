/- The walk of FlashWear. Conditions stand in each theorem. -/
import Derived.Test.YtddejcoagcaidaaEW
import Derived.Test.YtddejcoagcaidaaEF
namespace Go.Proofs.Ytddejcoagcaidaa
open Go.RowKit Go.Shelf
attribute [local go_sem] Oper.semAt_some
set_option linter.unusedVariables false
set_option maxHeartbeats 8000000
set_option maxRecDepth 100000
/-- The mark of a loop over a function, whose block is D. -/
def mrk (D : Nat) : Deferred := { target := .collected D, args := #[] }
/-- The blocks of the marks: new ones, each open and empty. -/
def Marks (n0 : Nat) (Ds : List Nat) (W : World) : Prop := Ds.Nodup ∧ ∀ D ∈ Ds, n0 ≤ D ∧ W.heap[D]? = some (.deferred (some []))
theorem Marks.nil (n0 : Nat) (W : World) : Marks n0 [] W := ⟨List.nodup_nil, fun D h => by cases h⟩
theorem Marks.lt {n0 : Nat} {Ds : List Nat} {W : World} (h : Marks n0 Ds W) {D : Nat} (hD : D ∈ Ds) : D < W.heap.size := (Array.getElem?_eq_some_iff.1 (h.2 D hD).2).1
theorem Marks.keep {n0 : Nat} {Ds : List Nat} {W W' : World} (h : Marks n0 Ds W) (hk : ∀ D ∈ Ds, W'.heap[D]? = W.heap[D]?) : Marks n0 Ds W' := ⟨h.1, fun D hD => ⟨(h.2 D hD).1, (hk D hD).trans (h.2 D hD).2⟩⟩
theorem Marks.below {n0 : Nat} {Ds : List Nat} {W W' : World} (h : Marks n0 Ds W) (hb : Below W.heap.size W W') : Marks n0 Ds W' := h.keep fun D hD => hb.block D (h.lt hD)
theorem Marks.chg {n0 : Nat} {Ds : List Nat} {W W' : World} {S : Nat → Prop} (h : Marks n0 Ds W) (hc : Chg S W W') (hS : ∀ k, S k → ∀ o, W.heap[k]? = some o → o.isCells = true) : Marks n0 Ds W' := h.keep fun D hD => hc.block D (h.lt hD) fun hs => by
  have := hS D hs _ (h.2 D hD).2
  cases this
theorem Marks.cons {n0 n1 : Nat} {Ds : List Nat} {W : World} {D : Nat} (h : Marks n0 Ds W) (hn : n0 ≤ n1) (hD : n1 ≤ D) (hlt : ∀ k ∈ Ds, k < n1) (hd : W.heap[D]? = some (.deferred (some []))) : Marks n0 (D :: Ds) W :=
  ⟨List.nodup_cons.2 ⟨fun hm => by have := hlt D hm; omega, h.1⟩, fun k hk => by
    rcases List.mem_cons.1 hk with rfl | hk
    · exact ⟨by omega, hd⟩
    · exact h.2 k hk⟩
theorem own_marks {β : Type} {n0 B : Nat} {Ds : List Nat} (hB : ∀ D ∈ Ds, D < B) : OwnFrom B (fun (_ : β) W => Marks n0 Ds W) := fun k X Y row hs hg hr =>
  hs.keep fun D hD => hg.block D (hs.lt hD) fun e => by have := (hr D e.symm).1; have := hB D hD; omega
/-- The world in which the marks' blocks are shut. -/
theorem leaves_marks {n n0 : Nat} {P : Program} {fn : Func} {tmps : Array Value} {R : Ending → World → Prop} : ∀ (Ds : List Nat) (W : World), Marks n0 Ds W →
    (∀ W', W'.heap.size = W.heap.size → W'.os = W.os → W'.tape = W.tape → W'.output = W.output → (∀ k, (n0 ≤ k → ∃ o, W.heap[k]? = some o ∧ o.isCells = true) → W'.heap[k]? = W.heap[k]?) → ∃ v, (results fn tmps).run P W' = .ok v W' ∧ R (.returned v) W') →
    LeavesInM Fence.wide n P fn tmps R (Ds.map mrk) .returning W
  | [], W, _, h => h W rfl rfl rfl rfl fun _ _ => rfl
  | D :: Ds, W, hm, h => by
    refine ⟨by simp, .inl ⟨D, _, rfl, run_takeDeferred (hm.2 D (by simp)).2, ?_⟩⟩
    have hnd := List.nodup_cons.1 hm.1
    refine leaves_marks (n0 := n0) Ds _ ⟨hnd.2, fun k hk => ⟨(hm.2 k (List.mem_cons_of_mem _ hk)).1, (World.putObj_heap_other (fun e => by subst e; exact hnd.1 hk)).trans (hm.2 k (List.mem_cons_of_mem _ hk)).2⟩⟩ fun W' h1 h2 h3 h4 h5 => h W' (by simpa using h1) h2 h3 h4 fun k hk => ?_
    have hkD : k ≠ D := by
      rintro rfl
      obtain ⟨o, ho, hc⟩ := hk (hm.2 k (by simp)).1
      rw [(hm.2 k (by simp)).2] at ho
      cases ho; cases hc
    exact (h5 k (fun hn => by
      obtain ⟨o, ho, hc⟩ := hk hn
      exact ⟨o, (World.putObj_heap_other hkD).trans ho, hc⟩)).trans (World.putObj_heap_other hkD)
theorem Marks.from {n0 n1 : Nat} {Ds : List Nat} {W : World} (h : Marks n1 Ds W) (hn : n0 ≤ n1) : Marks n0 Ds W := ⟨h.1, fun D hD => ⟨Nat.le_trans hn (h.2 D hD).1, (h.2 D hD).2⟩⟩
theorem res5 (W' : World) (q : Nat) (tm : Array Value) (htm : tm.getD 6 undef = .pointer (some ⟨q, 0, none⟩)) (h : W'.cell? ⟨q, 0, none⟩ = some (.bool true)) : (results Try.f5 tm).run Try.prog W' = .ok (.bool true) W' := by
  have e : tm[6]?.getD undef = .pointer (some ⟨q, 0, none⟩) := by simpa using htm
  simp [results, Try.results5, go_sem, h, e]
/-- The end of the law, behind the marks of its loops. -/
theorem or_end {n : Nat} {w W : World} {Ds : List Nat} {tm : Array Value} {q : Nat} {v0 : Value} (hm : Marks w.heap.size Ds W) (hb : Below w.heap.size w W) (hq : Bx1 W q 4 v0) (hqw : w.heap.size ≤ q) (htm : tm.getD 6 undef = .pointer (some ⟨q, 0, none⟩)) :
    LeavesInM Fence.wide n Try.prog Try.f5 tm (RetB w (.bool true)) (Ds.map mrk) .returning (W.setCell ⟨q, 0, none⟩ (.bool true)) := by
  have hm2 : Marks w.heap.size Ds (W.setCell ⟨q, 0, none⟩ (.bool true)) := hm.keep fun D hD => Below.heap_setCell W _ _ _ (by
    show D ≠ q
    rintro rfl
    have := (hm.2 D hD).2
    rw [show W.heap[D]? = _ from hq] at this
    cases this)
  have hq2 : Bx1 (W.setCell ⟨q, 0, none⟩ (.bool true)) q 4 (.bool true) := heap_setCell_same W q 0 _ 4 _ hq
  have hb2 : Below w.heap.size w (W.setCell ⟨q, 0, none⟩ (.bool true)) := hb.setCell hqw _
  generalize W.setCell ⟨q, 0, none⟩ (.bool true) = W2 at *
  refine leaves_marks (n0 := w.heap.size) Ds W2 hm2 fun W' k1 k2 k3 k4 k5 => ?_
  have e1 : Bx1 W' q 4 (.bool true) := (k5 _ fun _ => ⟨_, hq2, rfl⟩).trans hq2
  exact ⟨_, res5 W' q tm htm e1.cell, rfl, ⟨k2.trans hb2.os, k3.trans hb2.tape, k4.trans hb2.output, by have := hb2.size; omega, fun k hk => (k5 k fun hn => by omega).trans (hb2.block k hk)⟩⟩
theorem loop_down {n : Nat} {P : Program} {c : Code} {Q : Exit → Act → World → Prop} {a : Act} {w : World} (I : Nat → Act → World → Prop) (μ : Act → World → Nat) (hμ : ∀ m a w, I m a w → μ a w = m) (m : Nat) (h0 : I m a w)
    (round : ∀ m a w, I m a w → ∀ K : Act → World → Prop, (∀ j a' w', j < m → I j a' w' → K a' w') → c.wpIn Fence.wide n P (Exit.then K Q) a w) : (Code.loop c).wpIn Fence.wide n P Q a w :=
  wpIn_loop (fun a w => ∃ m, I m a w) μ ⟨m, h0⟩ fun a w ⟨m, h⟩ => round m a w h _ fun j a' w' hj hI => ⟨⟨j, hI⟩, by rw [hμ _ _ _ hI, hμ _ _ _ h]; exact hj⟩
/-- A function value against nil. -/
theorem run_equalIn_func_nil {P : Program} (w : World) (d : Nat) (t : TypeId) {ps rs : Array TypeId} {vr : Bool} (f : Fn) (a b : Array Value) (h : P.underlying t = some (.func ps rs vr)) :
    (Op.equalIn (d + 1) t (.func f a b) .nilFunc).run P w = .ok false w := by
  simp [Op.equalIn, run_underlying h]
theorem run_eql_func_nil {P : Program} (w : World) (t : TypeId) {ps rs : Array TypeId} {vr : Bool} (f : Fn) (a b : Array Value) (h : P.underlying t = some (.func ps rs vr)) :
    (binOp .eql t (.func f a b) .nilFunc).run P w = .ok (.bool false) w := by
  simp only [binOp]
  simp [show Op.equal t (.func f a b) .nilFunc = Op.equalIn (9999 + 1) t (.func f a b) .nilFunc from rfl, run_equalIn_func_nil w 9999 t f a b h]
/-- What the second loop reads. -/
structure We (W w : World) (nb : Nat) (GE : Array Value) (many : Int) (D8 : Nat) (R : Array Value) (ge ce q G : Nat) (l : List Int) : Prop where
  hg : W.heap[w.heap.size]? = some (.cells GE 23 (0, 0))
  hm : Bx1 W (w.heap.size + 1) 3 (.int .i64 many)
  hr : Bx1 W (w.heap.size + 2) 4 (.bool false)
  h8 : W.heap[D8]? = some (.cells R 35 (0, 0))
  he : RowI W ge l
  hq : Bx1 W q 24 (.slice (some ⟨G, 0, none⟩) l.length l.length)
  hG : RowI W G l
  hb : Below w.heap.size w W
theorem We.below {W W' w : World} {nb : Nat} {GE : Array Value} {many : Int} {D8 : Nat} {R : Array Value} {ge ce q G : Nat} {l : List Int} (h : We W w nb GE many D8 R ge ce q G l) (hb : Below W.heap.size W W') : We W' w nb GE many D8 R ge ce q G l :=
  ⟨(hb.block _ (Array.getElem?_eq_some_iff.1 h.hg).1).trans h.hg, h.hm.below hb, h.hr.below hb, (hb.block _ (Array.getElem?_eq_some_iff.1 h.h8).1).trans h.h8, h.he.below hb, h.hq.below hb, h.hG.below hb, h.hb.trans (hb.mono h.hb.size)⟩
/-- The frame at the head of the loop over turns. -/
def ovF (p3 p5 p6 D8 : Nat) (vf : Value) (T : Nat) (u : Nat → Value) : Array Value := #[u 0, u 1, u 2, .pointer (some ⟨p3, 0, none⟩), u 4, .pointer (some ⟨p5, 0, none⟩), .pointer (some ⟨p6, 0, none⟩), u 7, .pointer (some ⟨D8, 0, none⟩), u 9, vf, .pointer (some ⟨T, 0, none⟩), u 12, u 13, u 14, u 15, u 16, u 17, u 18, u 19, u 20, u 21, u 22, u 23, u 24, u 25, u 26, u 27, u 28, u 29, u 30, u 31, u 32, u 33, u 34, u 35, u 36, u 37, u 38, u 39, u 40, u 41, u 42, u 43, u 44, u 45, u 46, u 47, u 48, u 49, u 50, u 51, u 52, u 53, u 54, u 55, u 56, u 57, u 58, u 59, u 60, u 61, u 62, u 63, u 64, u 65, u 66, u 67, u 68, u 69, u 70, u 71, u 72, u 73, u 74, u 75, u 76, u 77, u 78, u 79, u 80, u 81, u 82, u 83, u 84, u 85, u 86, u 87, u 88, u 89, u 90, u 91, u 92, u 93, u 94, u 95, u 96, u 97, u 98, u 99, u 100, u 101, u 102]
def OvI (w E : World) (vf : Value) (D8 : Nat) (m : Nat) (a : Act) (W : World) : Prop :=
  ∃ (turn T : Nat) (Ds : List Nat) (u : Nat → Value), turn + m = 2 ∧ a = { tmps := ovF w.heap.size (w.heap.size + 1) (w.heap.size + 2) D8 vf T u, defers := Ds.map mrk } ∧ Below E.heap.size E W ∧ E.heap.size ≤ T ∧ Bx1 W T 3 (.int .i64 (turn : Int)) ∧ Marks E.heap.size Ds W
theorem OvI.mk' {w E W : World} {vf : Value} {D8 m turn T : Nat} {Ds : List Nat} {tm : Array Value} {ds : List Deferred} (h1 : turn + m = 2) (h2 : tm = ovF w.heap.size (w.heap.size + 1) (w.heap.size + 2) D8 vf T (fun i => tm.getD i undef)) (h3 : ds = Ds.map mrk) (h4 : Below E.heap.size E W) (h5 : E.heap.size ≤ T) (h6 : Bx1 W T 3 (.int .i64 (turn : Int))) (h7 : Marks E.heap.size Ds W) :
    OvI w E vf D8 m { tmps := tm, defers := ds } W := ⟨turn, T, Ds, _, h1, by rw [h3, ← h2], h4, h5, h6, h7⟩
def ovM (a : Act) (W : World) : Nat := match a.tmps.getD 11 undef with
  | .pointer (some p) => 2 - (RowKit.intOf ((W.cell? p).getD undef)).toNat
  | _ => 0
/-- The state within a range: the rounds so far, the turn. -/
def Ri (E : World) (T N turn : Nat) (Ds : List Nat) (many : Int) (k : Nat) (X : World) : Prop :=
  Bx1 X N 3 (.int .i64 (k : Int)) ∧ Bx1 X T 3 (.int .i64 (turn : Int)) ∧ Below E.heap.size E X ∧ Marks E.heap.size Ds X ∧ (turn = 0 → k = 0 ∨ (k : Int) < many)
/-- The state when the range is left early. -/
def Rx (E : World) (T N turn : Nat) (Ds : List Nat) (many : Int) (k : Nat) (X : World) : Prop :=
  Bx1 X N 3 (.int .i64 (k : Int)) ∧ Bx1 X T 3 (.int .i64 (turn : Int)) ∧ Below E.heap.size E X ∧ Marks E.heap.size Ds X ∧ turn = 0 ∧ 1 ≤ k ∧ many ≤ (k : Int) ∧ (k = 1 ∨ (k : Int) - 1 < many)
def ovG (p3 p5 p6 D8 : Nat) (vf : Value) (T N k : Nat) (er : Int) (u : Nat → Value) : Array Value := #[u 0, u 1, u 2, .pointer (some ⟨p3, 0, none⟩), u 4, .pointer (some ⟨p5, 0, none⟩), .pointer (some ⟨p6, 0, none⟩), u 7, .pointer (some ⟨D8, 0, none⟩), u 9, vf, .pointer (some ⟨T, 0, none⟩), .pointer (some ⟨N, 0, none⟩), .int .i64 (k : Int), .int .i64 er, u 15, u 16, u 17, u 18, u 19, u 20, u 21, u 22, u 23, u 24, u 25, u 26, u 27, u 28, u 29, u 30, u 31, u 32, u 33, u 34, u 35, u 36, u 37, u 38, u 39, u 40, u 41, u 42, u 43, u 44, u 45, u 46, u 47, u 48, u 49, u 50, u 51, u 52, u 53, u 54, u 55, u 56, u 57, u 58, u 59, u 60, u 61, u 62, u 63, u 64, u 65, u 66, u 67, u 68, u 69, u 70, u 71, u 72, u 73, u 74, u 75, u 76, u 77, u 78, u 79, u 80, u 81, u 82, u 83, u 84, u 85, u 86, u 87, u 88, u 89, u 90, u 91, u 92, u 93, u 94, u 95, u 96, u 97, u 98, u 99, u 100, u 101, u 102]
def Ra (w : World) (vf : Value) (D8 T N : Nat) (l : List Int) (k : Nat) (a : Act) (_ : World) : Prop :=
  ∃ (er : Int) (u : Nat → Value), l[k]? = some er ∧ a = { tmps := ovG w.heap.size (w.heap.size + 1) (w.heap.size + 2) D8 vf T N k er u, defers := [] }
theorem Ra.mk' {w X : World} {vf : Value} {D8 T N k : Nat} {l : List Int} {er : Int} {tm : Array Value} (h1 : l[k]? = some er) (h2 : tm = ovG w.heap.size (w.heap.size + 1) (w.heap.size + 2) D8 vf T N k er (fun i => tm.getD i undef)) :
    Ra w vf D8 T N l k { tmps := tm, defers := [] } X := ⟨er, _, h1, by rw [← h2]⟩
theorem marks_put {n0 q : Nat} {t : TypeId} {v u : Value} {Ds : List Nat} {W : World} (h : Marks n0 Ds W) (hq : Bx1 W q t v) : Marks n0 Ds (W.setCell ⟨q, 0, none⟩ u) := h.keep fun D hD => Below.heap_setCell W _ _ _ (by
  show D ≠ q
  rintro rfl
  have := (h.2 D hD).2
  rw [show W.heap[D]? = _ from hq] at this
  cases this)
theorem ri_put {E X : World} {T N turn k : Nat} {Ds : List Nat} {many : Int} (h : Ri E T N turn Ds many k X) (hN : E.heap.size ≤ N) (hT : T < N) :
    Bx1 (X.setCell ⟨N, 0, none⟩ (.int .i64 ((k : Int) + 1))) N 3 (.int .i64 ((k + 1 : Nat) : Int)) ∧ Bx1 (X.setCell ⟨N, 0, none⟩ (.int .i64 ((k : Int) + 1))) T 3 (.int .i64 (turn : Int)) ∧ Below E.heap.size E (X.setCell ⟨N, 0, none⟩ (.int .i64 ((k : Int) + 1))) ∧ Marks E.heap.size Ds (X.setCell ⟨N, 0, none⟩ (.int .i64 ((k : Int) + 1))) := by
  obtain ⟨i1, i2, i3, i4, i5⟩ := h
  exact ⟨heap_setCell_same X N 0 _ 3 _ i1, (Below.heap_setCell X _ _ _ (by show T ≠ N; omega)).trans i2, i3.setCell hN _, marks_put i4 i1⟩
theorem ri_kf {B N : Nat} {X X2 : World} (hb : Below X.heap.size X X2) (hN : N < B) (v : Value) : KeepsFrom B X (X2.setCell ⟨N, 0, none⟩ v) ∧ Kc (fun k => k = N) X (X2.setCell ⟨N, 0, none⟩ v) := by
  have hsz : (X2.setCell ⟨N, 0, none⟩ v).heap.size = X2.heap.size := by simp [World.setCell]
  refine ⟨⟨by rw [hsz]; exact hb.size, fun k o hk ho _ => ?_⟩, ⟨by rw [hsz]; exact hb.size, fun k o ho _ hS => ?_⟩⟩
  · exact (Below.heap_setCell X2 _ _ _ (by show k ≠ N; omega)).trans ((hb.block k (Array.getElem?_eq_some_iff.1 ho).1).trans ho)
  · exact (Below.heap_setCell X2 _ _ _ hS).trans ((hb.block k (Array.getElem?_eq_some_iff.1 ho).1).trans ho)
theorem ov_next {E W : World} {turn : Nat} {Ds : List Nat} (h1 : Below E.heap.size E W) (h2 : Marks E.heap.size Ds W) (x : Int) (hx : x = ((turn + 1 : Nat) : Int)) : Below E.heap.size E (W.alloc (.cells #[.int .i64 x] 3)) ∧ E.heap.size ≤ W.heap.size ∧ Bx1 (W.alloc (.cells #[.int .i64 x] 3)) W.heap.size 3 (.int .i64 ((turn + 1 : Nat) : Int)) ∧ Marks E.heap.size Ds (W.alloc (.cells #[.int .i64 x] 3)) := by
  have hb : Below W.heap.size W (W.alloc (.cells #[.int .i64 x] 3)) := balloc W _
  exact ⟨h1.trans (hb.mono h1.size), h1.size, by rw [← hx]; exact Bx1.new W 3 _, h2.below hb⟩
theorem wear_pre {nb np sz en many : Int} {vl : Value} {L : List KA} {w : World} (hL : Acts w vl L) (hok : ∀ e ∈ L, KA.ok w e)
    (hc : smB nb np sz en = false ∨ (smB nb np sz en = true ∧ fewB L 25 = false) ∨ (smB nb np sz en = true ∧ fewB L 25 = true ∧ valB nb np sz en = false)) : Calls Try.prog 5 #[.agg #[.int .i64 nb, .int .i64 np, .int .i64 sz, .int .i64 en], vl, .int .i64 many] w (RetB w (.bool true)) := by
  have HSM := Lib.hid (fun W => small_any nb np sz en W)
  have HRT := Lib.hid (fun W => Right_any nb np sz en W)
  have HF := Lib.hid (few_belowP 25 25 rfl (by omega) hL hok)
  have HWK := Lib.hid works_any
  obtain ⟨Al, cl, el, _⟩ := hL
  subst el
  clear hok
  obtain ⟨w1, hw1⟩ : ∃ w1 : World, w1 = ((w.alloc (.cells #[.int .i64 nb, .int .i64 np, .int .i64 sz, .int .i64 en] 23)).alloc (.cells #[.int .i64 many] 3)).alloc (.cells #[.bool false] 4) := ⟨_, rfl⟩
  obtain ⟨h0, h1, h2, hb1⟩ := three_new w (.cells #[.int .i64 nb, .int .i64 np, .int .i64 sz, .int .i64 en] 23) (.cells #[.int .i64 many] 3) (.cells #[.bool false] 4)
  rw [← hw1] at h0 h1 h2 hb1
  have HXR : Hid (Bx1 w1 (w.heap.size + 2) 4 (.bool false)) := Lib.hid h2
  have k0 := cell_of_row w1 w.heap.size 0 _ 23 (0, 0) h0
  have k1 := cell_of_row w1 w.heap.size 1 _ 23 (0, 0) h0
  have k2 := cell_of_row w1 w.heap.size 2 _ 23 (0, 0) h0
  have k3 := cell_of_row w1 w.heap.size 3 _ 23 (0, 0) h0
  simp only [List.getElem?_toArray, List.getElem?_cons_zero, List.getElem?_cons_succ] at k0 k1 k2 k3
  have HG0 := Lib.hid h0
  have HB1 := Lib.hid hb1
  have HW1 := Lib.hid hw1
  clear h0 h1 h2 hb1 hw1
  rcases hc with h1 | ⟨h1, h2⟩ | ⟨h1, h2, h3⟩
  · have HSB := Lib.hid h1
    clear h1 HF
    refine (callsIn_wide (n := 9)).1 ?_
    refine callsIn_of_wp_marks Try.func5 rfl trivial ?_ rfl
    simp only [Try.ntmps5, List.size_toArray, List.length_cons, List.length_nil, Nat.reduceAdd, Nat.reduceSub, Array.replicate_succ, Array.replicate_zero, List.push_toArray, List.append_toArray, List.nil_append, List.cons_append]
    refine wpIn_wide.2 ?_
    go_upto_region 1 with fail
    rw [← HW1.out]
    go_wp2_with (first
      | ((go_at_call 8; with_reducible refine (HSM.out _).mono ?_); rintro e w2 ⟨he, hb⟩; rw [HSB.out] at he; subst he; have HX2 := Lib.hid (HXR.out.below hb); have HB2 := Lib.hid (HB1.out.trans (hb.mono HB1.out.size)); have HG2 := Lib.hid ((hb.block _ (Array.getElem?_eq_some_iff.1 HG0.out).1).trans HG0.out); have q0 := cell_of_row w2 w.heap.size 0 _ 23 (0, 0) HG2.out; have q1 := cell_of_row w2 w.heap.size 1 _ 23 (0, 0) HG2.out; have q2 := cell_of_row w2 w.heap.size 2 _ 23 (0, 0) HG2.out; have q3 := cell_of_row w2 w.heap.size 3 _ 23 (0, 0) HG2.out; simp only [List.getElem?_toArray, List.getElem?_cons_zero, List.getElem?_cons_succ] at q0 q1 q2 q3; clear hb)
      | ((go_at_call 10; with_reducible refine (HWK.out _).mono ?_); rintro e w5 ⟨rfl, hb5⟩; have HX5 := Lib.hid (HX2.out.below hb5); have HB5 := Lib.hid (HB2.out.trans (hb5.mono HB2.out.size)); have x5 := HX5.out.cell; have y5 := HX5.out.free; clear hb5))
    exact or_end (Ds := []) (Marks.nil _ _) HB5.out HX5.out (by omega) rfl
  · have HSB := Lib.hid h1
    have HFB := Lib.hid h2
    clear h1 h2
    refine (callsIn_wide (n := 9)).1 ?_
    refine callsIn_of_wp_marks Try.func5 rfl trivial ?_ rfl
    simp only [Try.ntmps5, List.size_toArray, List.length_cons, List.length_nil, Nat.reduceAdd, Nat.reduceSub, Array.replicate_succ, Array.replicate_zero, List.push_toArray, List.append_toArray, List.nil_append, List.cons_append]
    refine wpIn_wide.2 ?_
    go_upto_region 1 with fail
    rw [← HW1.out]
    go_wp2_with (first
      | ((go_at_call 8; with_reducible refine (HSM.out _).mono ?_); rintro e w2 ⟨he, hb⟩; rw [HSB.out] at he; subst he; have HX2 := Lib.hid (HXR.out.below hb); have HB2 := Lib.hid (HB1.out.trans (hb.mono HB1.out.size)); have HG2 := Lib.hid ((hb.block _ (Array.getElem?_eq_some_iff.1 HG0.out).1).trans HG0.out); have q0 := cell_of_row w2 w.heap.size 0 _ 23 (0, 0) HG2.out; have q1 := cell_of_row w2 w.heap.size 1 _ 23 (0, 0) HG2.out; have q2 := cell_of_row w2 w.heap.size 2 _ 23 (0, 0) HG2.out; have q3 := cell_of_row w2 w.heap.size 3 _ 23 (0, 0) HG2.out; simp only [List.getElem?_toArray, List.getElem?_cons_zero, List.getElem?_cons_succ] at q0 q1 q2 q3; clear hb)
      | ((go_at_call 9; with_reducible refine (HF.out _ HB2.out).mono ?_); rintro e w' ⟨he, hw⟩; rw [HFB.out] at he; subst he; subst hw)
      | ((go_at_call 10; with_reducible refine (HWK.out _).mono ?_); rintro e w5 ⟨rfl, hb5⟩; have HX5 := Lib.hid (HX2.out.below hb5); have HB5 := Lib.hid (HB2.out.trans (hb5.mono HB2.out.size)); have x5 := HX5.out.cell; have y5 := HX5.out.free; clear hb5))
    exact or_end (Ds := []) (Marks.nil _ _) HB5.out HX5.out (by omega) rfl
  · have HSB := Lib.hid h1
    have HFB := Lib.hid h2
    have HVB := Lib.hid h3
    clear h1 h2 h3
    refine (callsIn_wide (n := 9)).1 ?_
    refine callsIn_of_wp_marks Try.func5 rfl trivial ?_ rfl
    simp only [Try.ntmps5, List.size_toArray, List.length_cons, List.length_nil, Nat.reduceAdd, Nat.reduceSub, Array.replicate_succ, Array.replicate_zero, List.push_toArray, List.append_toArray, List.nil_append, List.cons_append]
    refine wpIn_wide.2 ?_
    go_upto_region 1 with fail
    rw [← HW1.out]
    go_wp2_with (first
      | ((go_at_call 8; with_reducible refine (HSM.out _).mono ?_); rintro e w2 ⟨he, hb⟩; rw [HSB.out] at he; subst he; have HX2 := Lib.hid (HXR.out.below hb); have HB2 := Lib.hid (HB1.out.trans (hb.mono HB1.out.size)); have HG2 := Lib.hid ((hb.block _ (Array.getElem?_eq_some_iff.1 HG0.out).1).trans HG0.out); have q0 := cell_of_row w2 w.heap.size 0 _ 23 (0, 0) HG2.out; have q1 := cell_of_row w2 w.heap.size 1 _ 23 (0, 0) HG2.out; have q2 := cell_of_row w2 w.heap.size 2 _ 23 (0, 0) HG2.out; have q3 := cell_of_row w2 w.heap.size 3 _ 23 (0, 0) HG2.out; simp only [List.getElem?_toArray, List.getElem?_cons_zero, List.getElem?_cons_succ] at q0 q1 q2 q3; clear hb)
      | ((go_at_call 9; with_reducible refine (HF.out _ HB2.out).mono ?_); rintro e w' ⟨he, hw⟩; rw [HFB.out] at he; subst he; subst hw)
      | ((go_at_call 16; with_reducible refine (HRT.out _).mono ?_); rintro e w3 ⟨he, hb⟩; rw [HVB.out] at he; subst he; have HX3 := Lib.hid (HX2.out.below hb); have HB3 := Lib.hid (HB2.out.trans (hb.mono HB2.out.size)); clear hb)
      | ((go_at_call 10; with_reducible refine (HWK.out _).mono ?_); rintro e w5 ⟨rfl, hb5⟩; have HX5 := Lib.hid (HX3.out.below hb5); have HB5 := Lib.hid (HB3.out.trans (hb5.mono HB3.out.size)); have x5 := HX5.out.cell; have y5 := HX5.out.free; clear hb5))
    exact or_end (Ds := []) (Marks.nil _ _) HB5.out HX5.out (by omega) rfl
end Go.Proofs.Ytddejcoagcaidaa
