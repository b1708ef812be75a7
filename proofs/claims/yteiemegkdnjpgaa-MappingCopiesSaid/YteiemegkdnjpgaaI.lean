/- The contract of Apply. Conditions stand in each theorem. -/
import Derived.Test.YteiemegkdnjpgaaH
namespace Go.Proofs.Yteiemegkdnjpgaa
open Go.RowKit
set_option linter.unusedVariables false
set_option maxHeartbeats 4000000
set_option maxRecDepth 100000
/-- The map behind the first k entries; what they have replaced. -/
def lsAt (L xs : List (Int × Int)) (k : Nat) : List (Int × Int) := (xs.take k).foldl (fun L x => asg L x.1 x.2) L
def fmAt (L xs : List (Int × Int)) (k : Nat) : List (Int × Int) := (List.range k).map fun i => ((xs.getD i (0, 0)).1, old (lsAt L xs i) (xs.getD i (0, 0)).1)
theorem lsAt_zero (L xs : List (Int × Int)) : lsAt L xs 0 = L := rfl
theorem lsAt_succ {L xs : List (Int × Int)} {k : Nat} (h : k < xs.length) : lsAt L xs (k + 1) = asg (lsAt L xs k) xs[k].1 xs[k].2 := by
  unfold lsAt
  rw [List.take_succ_eq_append_getElem h, List.foldl_append]
  rfl
theorem fmAt_length (L xs : List (Int × Int)) (k : Nat) : (fmAt L xs k).length = k := by simp [fmAt]
theorem fmAt_succ {L xs : List (Int × Int)} {k : Nat} (h : k < xs.length) : fmAt L xs (k + 1) = fmAt L xs k ++ [(xs[k].1, old (lsAt L xs k) xs[k].1)] := by
  unfold fmAt
  rw [List.range_succ, List.map_append]
  simp [h]
theorem fmAt_at {L xs : List (Int × Int)} {k i : Nat} (hi : i < k) (hk : k ≤ xs.length) : (fmAt L xs k)[i]'(by rw [fmAt_length]; exact hi) = (xs[i].1, old (lsAt L xs i) xs[i].1) := by
  have : i < xs.length := by omega
  simp [fmAt, this]
/-- The first k entries may be applied. -/
def OkTo (s b p : Nat) (L xs : List (Int × Int)) (k : Nat) : Prop := ∀ i (hi : i < xs.length), i < k → reqE s b p (lsAt L xs i) xs[i].1 xs[i].2 = 0
theorem ok_fits {s b p : Nat} {L xs : List (Int × Int)} (hF : Fits s b p L) : ∀ k, k ≤ xs.length → OkTo s b p L xs k → Fits s b p (lsAt L xs k)
  | 0, _, _ => hF
  | k + 1, hk, h => by
    rw [lsAt_succ (by omega)]
    exact (ok_fits hF k (by omega) (fun i hi hl => h i hi (by omega))).asg (h k (by omega) (by omega))
theorem ok_back {s b p : Nat} {L xs : List (Int × Int)} (hF : Fits s b p L) {k : Nat} (hk : k ≤ xs.length) (h : OkTo s b p L xs k) : ∀ i (hi : i < (fmAt L xs k).length), reqE s b p (lsAt L xs (i + 1)) (fmAt L xs k)[i].1 (fmAt L xs k)[i].2 = 0 ∧ asg (lsAt L xs (i + 1)) (fmAt L xs k)[i].1 (fmAt L xs k)[i].2 = lsAt L xs i := by
  intro i hi
  rw [fmAt_length] at hi
  rw [fmAt_at hi hk, lsAt_succ (by omega)]
  have := (ok_fits hF i (by omega) (fun j hj hl => h j hj (by omega))).back (h i (by omega) hi)
  exact ⟨this.2, this.1⟩
theorem appE_cons (s b p : Nat) (L r : List (Int × Int)) (x : Int × Int) : appE s b p L (x :: r) = if reqE s b p L x.1 x.2 = 0 then appE s b p (asg L x.1 x.2) r else reqE s b p L x.1 x.2 := rfl
theorem appS_cons (s b p : Nat) (L0 L r : List (Int × Int)) (x : Int × Int) : appS s b p L0 L (x :: r) = if reqE s b p L x.1 x.2 = 0 then appS s b p L0 (asg L x.1 x.2) r else L0 := rfl
theorem app_at {s b p : Nat} {L0 xs : List (Int × Int)} : ∀ k, k ≤ xs.length → OkTo s b p L0 xs k → appE s b p L0 xs = appE s b p (lsAt L0 xs k) (xs.drop k) ∧ appS s b p L0 L0 xs = appS s b p L0 (lsAt L0 xs k) (xs.drop k)
  | 0, _, _ => ⟨rfl, rfl⟩
  | k + 1, hk, h => by
    obtain ⟨h1, h2⟩ := app_at k (by omega) (fun i hi hl => h i hi (by omega))
    have hd : xs.drop k = xs[k] :: xs.drop (k + 1) := List.drop_eq_getElem_cons (by omega)
    have hr := h k (by omega) (by omega)
    rw [hd] at h1 h2
    rw [h1, h2, lsAt_succ (by omega), appE_cons, appS_cons, if_pos hr, if_pos hr]
    exact ⟨rfl, rfl⟩
theorem app_end {s b p : Nat} {L0 xs : List (Int × Int)} (h : OkTo s b p L0 xs xs.length) : appE s b p L0 xs = 0 ∧ appS s b p L0 L0 xs = lsAt L0 xs xs.length := by
  obtain ⟨h1, h2⟩ := app_at xs.length (Nat.le_refl _) h
  rw [List.drop_length] at h1 h2
  exact ⟨h1, h2⟩
theorem app_bad {s b p : Nat} {L0 xs : List (Int × Int)} {k : Nat} (hk : k < xs.length) (h : OkTo s b p L0 xs k) (hr : reqE s b p (lsAt L0 xs k) xs[k].1 xs[k].2 ≠ 0) : appE s b p L0 xs = reqE s b p (lsAt L0 xs k) xs[k].1 xs[k].2 ∧ appS s b p L0 L0 xs = L0 := by
  obtain ⟨h1, h2⟩ := app_at k (by omega) h
  have hd : xs.drop k = xs[k] :: xs.drop (k + 1) := List.drop_eq_getElem_cons hk
  rw [hd, appE_cons, if_neg hr] at h1
  rw [hd, appS_cons, if_neg hr] at h2
  exact ⟨h1, h2⟩
/-- The variables of Apply in the middle of a round. -/
structure Vt (W : World) (bb q2 q5 q6 q4 f n : Nat) (fm : List (Int × Int)) (kk E : Int) : Prop where
  v2 : Bx1 W q2 23 (.pointer (some ⟨bb, 0, none⟩))
  v5 : Bx1 W q5 27 (.slice (some ⟨f, 0, none⟩) n n)
  v6 : Bx1 W q6 3 (.int .i64 kk)
  v4 : Bx1 W q4 24 (.int .i64 E)
  row : FRow W f n fm
section
variable {W W' : World} {bb q2 q5 q6 q4 f n : Nat} {fm : List (Int × Int)} {kk E : Int}
theorem Vt.vs (h : Vt W bb q2 q5 q6 q4 f n fm kk E) (e : kk = fm.length) : Vs W bb q2 q5 q6 q4 f n fm E := ⟨h.v2, h.v5, by rw [← e]; exact h.v6, h.v4, h.row⟩
theorem Vt.lt (h : Vt W bb q2 q5 q6 q4 f n fm kk E) {k : Nat} (hk : k = q2 ∨ k = q5 ∨ k = q6 ∨ k = q4 ∨ k = f) : k < W.heap.size := by
  rcases hk with rfl | rfl | rfl | rfl | rfl
  · exact h.v2.lt
  · exact h.v5.lt
  · exact h.v6.lt
  · exact h.v4.lt
  · exact h.row.lt
theorem Vt.keep (h : Vt W bb q2 q5 q6 q4 f n fm kk E) (hk : ∀ k, k = q2 ∨ k = q5 ∨ k = q6 ∨ k = q4 ∨ k = f → W'.heap[k]? = W.heap[k]?) : Vt W' bb q2 q5 q6 q4 f n fm kk E :=
  ⟨(hk _ (.inl rfl)).trans h.v2, (hk _ (.inr (.inl rfl))).trans h.v5, (hk _ (.inr (.inr (.inl rfl)))).trans h.v6, (hk _ (.inr (.inr (.inr (.inl rfl))))).trans h.v4, h.row.keep (hk _ (.inr (.inr (.inr (.inr rfl)))))⟩
theorem Vt.below (h : Vt W bb q2 q5 q6 q4 f n fm kk E) (hb : Below W.heap.size W W') : Vt W' bb q2 q5 q6 q4 f n fm kk E := h.keep fun k hk => hb.block k (h.lt hk)
theorem Vt.chg {S : Nat → Prop} (h : Vt W bb q2 q5 q6 q4 f n fm kk E) (hc : Chg S W W') (hS : ∀ k, k = q2 ∨ k = q5 ∨ k = q6 ∨ k = q4 ∨ k = f → ¬ S k) : Vt W' bb q2 q5 q6 q4 f n fm kk E := h.keep fun k hk => hc.block k (h.lt hk) (hS k hk)
theorem Vt.set6 (h : Vt W bb q2 q5 q6 q4 f n fm kk E) (h2 : q2 ≠ q6) (h5 : q5 ≠ q6) (h4 : q4 ≠ q6) (hf : f ≠ q6) (y : Int) : Vt (W.setCell ⟨q6, 0, none⟩ (.int .i64 y)) bb q2 q5 q6 q4 f n fm y E := by
  have e : ∀ k, k ≠ q6 → (W.setCell ⟨q6, 0, none⟩ (.int .i64 y)).heap[k]? = W.heap[k]? := fun k h => Below.heap_setCell W _ _ k h
  exact ⟨(e _ h2).trans h.v2, (e _ h5).trans h.v5, heap_setCell_same W q6 0 _ 3 _ h.v6, (e _ h4).trans h.v4, h.row.keep (e _ hf)⟩
theorem Vt.set4 (h : Vt W bb q2 q5 q6 q4 f n fm kk E) (h2 : q2 ≠ q4) (h5 : q5 ≠ q4) (h6 : q6 ≠ q4) (hf : f ≠ q4) (y : Int) : Vt (W.setCell ⟨q4, 0, none⟩ (.int .i64 y)) bb q2 q5 q6 q4 f n fm kk y := by
  have e : ∀ k, k ≠ q4 → (W.setCell ⟨q4, 0, none⟩ (.int .i64 y)).heap[k]? = W.heap[k]? := fun k h => Below.heap_setCell W _ _ k h
  exact ⟨(e _ h2).trans h.v2, (e _ h5).trans h.v5, (e _ h6).trans h.v6, heap_setCell_same W q4 0 _ 24 _ h.v4, h.row.keep (e _ hf)⟩
theorem FRow.set {k : Nat} (h : FRow W f n fm) (hk : k = fm.length) (hn : k < n) (a c : Int) : FRow ((W.setCell ⟨f, k * 2, none⟩ (.int .i64 a)).setCell ⟨f, k * 2 + 1, none⟩ (.int .i64 c)) f n (fm ++ [(a, c)]) := by
  obtain ⟨cur, h1, h2, h3, h4⟩ := h
  refine ⟨_, heap_setCell_same _ f _ _ 50 _ (heap_setCell_same W f _ cur 50 _ h1), by simpa using h2, by simp; omega, fun j hj => ?_⟩
  simp only [List.length_append, List.length_cons, List.length_nil] at hj
  rcases Nat.lt_or_ge j fm.length with hl | hl
  · obtain ⟨e1, e2⟩ := h4 j hl
    rw [List.getElem_append_left hl, Array.getElem?_setIfInBounds_ne (by omega), Array.getElem?_setIfInBounds_ne (by omega), Array.getElem?_setIfInBounds_ne (by omega), Array.getElem?_setIfInBounds_ne (by omega)]
    exact ⟨e1, e2⟩
  · have : j = k := by omega
    subst this
    rw [List.getElem_append_right hl]
    have e0 : j - fm.length = 0 := by omega
    simp only [e0, List.getElem_cons_zero]
    refine ⟨?_, ?_⟩
    · rw [Array.getElem?_setIfInBounds_ne (by omega), Array.getElem?_setIfInBounds, if_pos rfl, if_pos (by omega)]
    · rw [Array.getElem?_setIfInBounds, if_pos rfl, if_pos (by simp; omega)]
theorem Vt.setf {k : Nat} (h : Vt W bb q2 q5 q6 q4 f n fm kk E) (h2 : q2 ≠ f) (h5 : q5 ≠ f) (h6 : q6 ≠ f) (h4 : q4 ≠ f) (hk : k = fm.length) (hn : k < n) (a c : Int) : Vt ((W.setCell ⟨f, k * 2, none⟩ (.int .i64 a)).setCell ⟨f, k * 2 + 1, none⟩ (.int .i64 c)) bb q2 q5 q6 q4 f n (fm ++ [(a, c)]) kk E := by
  have e : ∀ k', k' ≠ f → ((W.setCell ⟨f, k * 2, none⟩ (.int .i64 a)).setCell ⟨f, k * 2 + 1, none⟩ (.int .i64 c)).heap[k']? = W.heap[k']? := fun k' h => (Below.heap_setCell _ _ _ k' h).trans (Below.heap_setCell W _ _ k' h)
  exact ⟨(e _ h2).trans h.v2, (e _ h5).trans h.v5, (e _ h6).trans h.v6, (e _ h4).trans h.v4, h.row.set hk hn a c⟩
end
/-- What Apply leaves. -/
def ApP (w : World) (base bb m1 m2 g cap s b p : Nat) (L : List (Int × Int)) (E : Int) (e : Ending) (w' : World) : Prop := e = .returned (.int .i64 E) ∧ Mg w' base bb m1 m2 g cap s b p L ∧ Chg (Ft m1 m2 g) w w'
/-- The state of Apply behind k entries. -/
structure Ap (w W : World) (base bb m1 m2 g cap s b p f : Nat) (L xs : List (Int × Int)) (v : Value) (k : Nat) : Prop where
  mg : Mg W base bb m1 m2 g cap s b p (lsAt L xs k)
  vs : Vt W bb w.heap.size (f + 1) (f + 2) (w.heap.size + 1) f xs.length (fmAt L xs k) (k : Int) 0
  ok : OkTo s b p L xs k
  ent : Ent W v xs
  chg : Chg (Ft m1 m2 g) w W
theorem end_apply {W : World} {q : Nat} {x : Value} {tmps : Array Value} {R : Ending → World → Prop} {u : FrameMode} (he : Bx1 W q 24 x) (hu : u = .returning) (t4 : tmps[4]? = some (.pointer (some ⟨q, 0, none⟩))) (hR : R (.returned x) W) : Leaves Try.prog Try.f14 tmps R [] u W := by
  subst hu
  have ce := he.cell
  clear he
  simp [Leaves, results, Try.results14, go_sem, t4, ce]
  exact hR
def z50 (n : Nat) : Array Value := madeCells #[.int .i64 0, .int .i64 0] (n * 2)
theorem make_former (n : Nat) (hn : n ≤ 4096) (W : World) : (Instr.makeSlice 27 (.int .i64 (n : Int)) (.int .i64 (n : Int))).run Try.prog W = .ok (.slice (some ⟨W.heap.size, 0, none⟩) n n) (W.alloc (.cells (z50 n) 50)) := by
  obtain ⟨i0, hi0, hz0, hz1, hz2⟩ := info_parts50
  have hr := run_makeSlice (P := Try.prog) W 27 50 i0 _ Try.underlying27 hi0 hz0 .i64 .i64 n n (by omega) (Int.le_refl _) (by rw [hz1]; omega) (by rw [hz2]; omega) (by omega)
  rw [hr, hz1]
  simp [z50, Value.cells]
theorem FRow.room {W : World} {f n k : Nat} {fm : List (Int × Int)} (h : FRow W f n fm) (hk : k < n) : ∃ y0 y1, W.cell? ⟨f, k * 2, none⟩ = some y0 ∧ W.cell? ⟨f, k * 2 + 1, none⟩ = some y1 := by
  obtain ⟨cur, h1, h2, _⟩ := h
  have e := fun j => cell_of_row W f j cur 50 (0, 0) h1
  exact ⟨_, _, (e _).trans (Array.getElem?_eq_getElem (by omega)), (e _).trans (Array.getElem?_eq_getElem (by omega))⟩
theorem FRow.free {W : World} {f n : Nat} {fm : List (Int × Int)} (h : FRow W f n fm) (k : Nat) : W.frozen? ⟨f, k, none⟩ = false := by
  obtain ⟨cur, h1, _⟩ := h
  exact frozen_of_row W f k _ 50 h1
/-- The first half of a round: everything but the count and the map. -/
structure Am (w W : World) (base bb m1 m2 g cap s b p f : Nat) (L L1 : List (Int × Int)) (fm : List (Int × Int)) (xs : List (Int × Int)) (v : Value) (kk : Int) (X : Nat) (q x : Int) : Prop where
  mg : Mg W base bb m1 m2 g cap s b p L1
  vs : Vt W bb w.heap.size (f + 1) (f + 2) (w.heap.size + 1) f xs.length fm kk 0
  ent : Ent W v xs
  chg : Chg (Ft m1 m2 g) w W
  xat : XAt W X q x
section
variable {w W W' : World} {base bb m1 m2 g cap s b p f : Nat} {L L1 L2 : List (Int × Int)} {fm : List (Int × Int)} {xs : List (Int × Int)} {v : Value} {kk : Int} {X : Nat} {q x : Int}
theorem Am.below (h : Am w W base bb m1 m2 g cap s b p f L L1 fm xs v kk X q x) (hb : Below W.heap.size W W') : Am w W' base bb m1 m2 g cap s b p f L L1 fm xs v kk X q x :=
  ⟨h.mg.below hb, h.vs.below hb, h.ent.below hb, h.chg.then_below hb, h.xat.below hb⟩
theorem Am.row (h : Am w W base bb m1 m2 g cap s b p f L L1 fm xs v kk X q x) (hfw : w.heap.size + 2 ≤ f) (hfX : f + 2 < X) (hft : ∀ k, Ft m1 m2 g k → k < w.heap.size) (hbl : bb < w.heap.size) (hv : ∀ k, v.ownBlock = some k → k ≠ f) {k : Nat} (hk : k = fm.length) (hn : k < xs.length) (a c : Int) :
    Am w ((W.setCell ⟨f, k * 2, none⟩ (.int .i64 a)).setCell ⟨f, k * 2 + 1, none⟩ (.int .i64 c)) base bb m1 m2 g cap s b p f L L1 (fm ++ [(a, c)]) xs v kk X q x := by
  have e : ∀ k', k' ≠ f → ((W.setCell ⟨f, k * 2, none⟩ (.int .i64 a)).setCell ⟨f, k * 2 + 1, none⟩ (.int .i64 c)).heap[k']? = W.heap[k']? := fun k' h => (Below.heap_setCell _ _ _ k' h).trans (Below.heap_setCell W _ _ k' h)
  refine ⟨h.mg.keep (e _ (by omega)) (fun k hk => e k (by have := hft k hk; omega)), h.vs.setf (by omega) (by omega) (by omega) (by omega) hk hn a c, h.ent.keep (fun b hb o ho _ => (e b (hv b hb)).trans ho), ?_, (e _ (by omega)).trans h.xat⟩
  exact h.chg.trans (((Chg.refl (· = f) W).setCell rfl _).setCell rfl _) (fun i hi hl => by omega)
theorem Am.map (h : Am w W base bb m1 m2 g cap s b p f L L1 fm xs v kk X q x) (hfw : w.heap.size + 2 ≤ f) (hfX : f + 2 < X) (hft : ∀ k, Ft m1 m2 g k → k < w.heap.size) (hv : ∀ k, v.ownBlock = some k → ¬ Ft m1 m2 g k) (hm : Mg W' base bb m1 m2 g cap s b p L2) (hc : Chg (Ft m1 m2 g) W W') : Am w W' base bb m1 m2 g cap s b p f L L2 fm xs v kk X q x :=
  ⟨hm, h.vs.chg hc (fun k hk hf => by have := hft k hf; omega), h.ent.chg hc hv, h.chg.also hc, (hc.block X h.xat.lt (fun hf => by have := hft X hf; omega)).trans h.xat⟩
theorem Am.fin {k : Nat} (h : Am w W base bb m1 m2 g cap s b p f L (lsAt L xs k) (fmAt L xs k) xs v kk X q x) (hok : OkTo s b p L xs k) (hfw : w.heap.size + 2 ≤ f) (hft : ∀ k, Ft m1 m2 g k → k < w.heap.size) (hbl : bb < w.heap.size) (hv : ∀ k, v.ownBlock = some k → k ≠ f + 2) (y : Int) (hy : y = (k : Int)) :
    Ap w (W.setCell ⟨f + 2, 0, none⟩ (.int .i64 y)) base bb m1 m2 g cap s b p f L xs v k := by
  subst hy
  have e : ∀ k', k' ≠ f + 2 → (W.setCell ⟨f + 2, 0, none⟩ (.int .i64 (k : Int))).heap[k']? = W.heap[k']? := fun k' h => Below.heap_setCell W _ _ k' h
  exact ⟨h.mg.keep (e _ (by omega)) (fun k hk => e k (by have := hft k hk; omega)), h.vs.set6 (by omega) (by omega) (by omega) (by omega) _, hok, h.ent.keep (fun b hb o ho _ => (e b (hv b hb)).trans ho), h.chg.trans ((Chg.refl (· = f + 2) W).setCell rfl _) (fun i hi hl => by omega)⟩
end
set_option maxHeartbeats 8000000 in
theorem Apply_any {w : World} {base bb m1 m2 g cap s b p : Nat} {L xs : List (Int × Int)} {v : Value} (h : Mg w base bb m1 m2 g cap s b p L) (hv : Ent w v xs) (hvo : 0 < xs.length → ∀ k, v.ownBlock = some k → ¬ Ft m1 m2 g k) (hl : xs.length ≤ 4096) (hR : ∀ x ∈ xs, I64 x.1 ∧ I64 x.2) :
    Calls Try.prog 14 #[.pointer (some ⟨bb, 0, none⟩), v] w (ApP w base bb m1 m2 g cap s b p (appS s b p L L xs) (appE s b p L xs)) := by
  have hmf : ∀ (fn : Fn) (first cap : Array Value) (w : World), (Instr.makeFunc fn first cap).run Try.prog w = .ok (.func fn first cap) w := fun _ _ _ _ => rfl
  have hmk := make_former xs.length hl
  obtain ⟨A, c, hvf, _⟩ := hv.form
  have HVF := Lib.hid hvf
  subst hvf
  have b1 := below_alloc w (.cells #[.pointer (some ⟨bb, 0, none⟩)] 23)
  have b2 : Below w.heap.size w ((w.alloc (.cells #[.pointer (some ⟨bb, 0, none⟩)] 23)).alloc (.cells #[.int .i64 0] 24)) := b1.alloc (by simp) _
  have HM := Lib.hid h
  have HV := Lib.hid hv
  have HVO := Lib.hid hvo
  have HR := Lib.hid hR
  have HL := Lib.hid hl
  have HB2 := Lib.hid b2
  have HMI := Lib.hid (missing_any (h.below b2))
  have hX := hl
  clear h hv hvo hR b1 b2 hl
  go_enter_defers Try.func14, Try.ntmps14
  go_wp2_with ((go_at_call 31; with_reducible refine HMI.out.mono ?_); rintro e w1 ⟨rfl, hb1⟩; have HB1 := Lib.hid hb1; clear hb1)
  have hs1 := HB1.out.size
  simp only [World.size_alloc] at hs1
  have b0 := HB2.out.trans (HB1.out.mono (by simp; omega))
  have v2 : Bx1 w1 w.heap.size 23 (.pointer (some ⟨bb, 0, none⟩)) := (HB1.out.block _ (by simp; omega)).trans ((Below.heap_alloc _ _ _ (by simp)).trans (heap_alloc_new w _))
  have v4 : Bx1 w1 (w.heap.size + 1) 24 (.int .i64 0) := by
    have := heap_alloc_new (w.alloc (.cells #[.pointer (some ⟨bb, 0, none⟩)] 23)) (.cells #[.int .i64 0] 24)
    rw [World.size_alloc] at this
    exact (HB1.out.block _ (by simp)).trans this
  have c1 := below_alloc w1 (.cells (z50 xs.length) 50)
  have c2 := c1.alloc (by simp) (.cells #[.slice (some ⟨w1.heap.size, 0, none⟩) xs.length xs.length] 27)
  have c3 := c2.alloc (by simp; omega) (.cells #[.int .i64 0] 3)
  have u0 : FRow (((w1.alloc (.cells (z50 xs.length) 50)).alloc (.cells #[.slice (some ⟨w1.heap.size, 0, none⟩) xs.length xs.length] 27)).alloc (.cells #[.int .i64 0] 3)) w1.heap.size xs.length [] :=
    ⟨z50 xs.length, (Below.heap_alloc _ _ _ (by simp; omega)).trans ((Below.heap_alloc _ _ _ (by simp)).trans (heap_alloc_new w1 _)), by simp [z50, size_madeCells], by simp, fun j hj => by simp at hj⟩
  have u5 : Bx1 (((w1.alloc (.cells (z50 xs.length) 50)).alloc (.cells #[.slice (some ⟨w1.heap.size, 0, none⟩) xs.length xs.length] 27)).alloc (.cells #[.int .i64 0] 3)) (w1.heap.size + 1) 27 (.slice (some ⟨w1.heap.size, 0, none⟩) xs.length xs.length) := by
    have := heap_alloc_new (w1.alloc (.cells (z50 xs.length) 50)) (.cells #[.slice (some ⟨w1.heap.size, 0, none⟩) xs.length xs.length] 27)
    rw [World.size_alloc] at this
    exact (Below.heap_alloc _ _ _ (by simp)).trans this
  have u6 : Bx1 (((w1.alloc (.cells (z50 xs.length) 50)).alloc (.cells #[.slice (some ⟨w1.heap.size, 0, none⟩) xs.length xs.length] 27)).alloc (.cells #[.int .i64 0] 3)) (w1.heap.size + 2) 3 (.int .i64 0) := by
    have := heap_alloc_new ((w1.alloc (.cells (z50 xs.length) 50)).alloc (.cells #[.slice (some ⟨w1.heap.size, 0, none⟩) xs.length xs.length] 27)) (.cells #[.int .i64 0] 3)
    rw [World.size_alloc, World.size_alloc] at this
    exact this
  have hbb := b0.trans (c3.mono (by omega))
  have hap : Ap w (((w1.alloc (.cells (z50 xs.length) 50)).alloc (.cells #[.slice (some ⟨w1.heap.size, 0, none⟩) xs.length xs.length] 27)).alloc (.cells #[.int .i64 0] 3)) base bb m1 m2 g cap s b p w1.heap.size L xs (.slice A xs.length c) 0 :=
    ⟨HM.out.below hbb, ⟨v2.below c3, u5, u6, v4.below c3, u0⟩, fun i _ h => by omega, HV.out.below hbb, Chg.of_below hbb⟩
  have HAP := Lib.hid hap
  have hfw : w.heap.size + 2 ≤ w1.heap.size := by omega
  have hft : ∀ k, Ft m1 m2 g k → k < w.heap.size := fun k hk => HM.out.ft_lt hk
  have HFT := Lib.hid hft
  have hbl := HM.out.lt
  have HVL := Lib.hid (show ∀ k, (Value.slice A xs.length c).ownBlock = some k → k < w.heap.size ∨ xs.length = 0 from fun k hk => by
    obtain ⟨A', c', e1, _, h2⟩ := HV.out
    rcases Nat.eq_zero_or_pos xs.length with h0 | h0
    · exact .inr h0
    · obtain ⟨g', o', cs', ty', fr', rfl, h3, _⟩ := h2 h0
      simp only [Value.slice.injEq] at e1
      obtain ⟨rfl, _, _⟩ := e1
      simp only [Value.ownBlock, Option.some.injEq] at hk
      subst hk
      exact .inl (Array.getElem?_eq_some_iff.1 h3).1)
  clear hs1 b0 v2 v4 c1 c2 c3 u0 u5 u6 hbb hap hft HMI HB2 HB1 hmk hmf
  generalize ((w1.alloc (.cells (z50 xs.length) 50)).alloc (.cells #[.slice (some ⟨w1.heap.size, 0, none⟩) xs.length xs.length] 27)).alloc (.cells #[.int .i64 0] 3) = W0 at *
  generalize w1.heap.size = f at *
  go_loopw [17] (fun i wr => ∃ k : Nat, k ≤ xs.length ∧ i = .int .i64 k ∧ Hid (Ap w wr base bb m1 m2 g cap s b p f L xs (.slice A xs.length c) k)) (fun i _ => xs.length - (RowKit.intOf i).toNat)
  case atStart => exact ⟨0, Nat.zero_le _, rfl, HAP⟩
  case round =>
    obtain ⟨k, hk, rfl, HA⟩ := hrel
    by_cases hlt : k < xs.length
    · obtain ⟨gx, o, cc, hvg, e0, e1⟩ := HA.out.ent.at hlt
      have hvg2 := hvg
      simp only [Value.slice.injEq] at hvg2
      obtain ⟨hA, -, -⟩ := hvg2
      subst hA
      have hRx := HR.out _ (List.getElem_mem hlt)
      have hwf : f + 2 < wr.heap.size := HA.out.vs.v6.lt
      have HS1 := Lib.hid (lsAt_succ (L := L) hlt)
      have HS2 := Lib.hid (fmAt_succ (L := L) hlt)
      have HOK := Lib.hid (show reqE s b p (lsAt L xs k) xs[k].1 xs[k].2 = 0 → OkTo s b p L xs (k + 1) from fun hr i hi hl => by
        rcases Nat.lt_or_ge i k with h | h
        · exact HA.out.ok i hi h
        · have : i = k := by omega
          subst this
          exact hr)
      have HBAD := Lib.hid (app_bad hlt HA.out.ok)
      have HBK := Lib.hid (ok_back HM.out.fit hk HA.out.ok)
      generalize xs[k] = x at *
      obtain ⟨q, y⟩ := x
      dsimp only at e0 e1 hRx HS1 HS2 HOK HBAD
      have hb8 := below_alloc wr (.cells #[.int .i64 q, .int .i64 y] 50)
      have ham : Am w (wr.alloc (.cells #[.int .i64 q, .int .i64 y] 50)) base bb m1 m2 g cap s b p f L (lsAt L xs k) (fmAt L xs k) xs (.slice (some ⟨gx, o, none⟩) xs.length c) (k : Int) wr.heap.size q y :=
        ⟨HA.out.mg.below hb8, HA.out.vs.below hb8, HA.out.ent.below hb8, HA.out.chg.then_below hb8, XAt.new wr q y⟩
      have HAM := Lib.hid ham
      have d2 := ham.vs.v2.cell
      have hrq := require_any ham.mg hRx.1 hRx.2
      have HRX := Lib.hid hRx
      have HE35 := Lib.hid (fun W (h : Below (wr.alloc (.cells #[.int .i64 q, .int .i64 y] 50)).heap.size (wr.alloc (.cells #[.int .i64 q, .int .i64 y] 50)) W) => entry_any (ham.mg.below h) hRx.1)
      clear hb8 ham hRx HA hvg
      by_cases hr : reqE s b p (lsAt L xs k) q y = 0
      · have hrq2 := hrq.mono (R' := fun e w' => e = .returned (.tuple #[]) ∧ Below (wr.alloc (.cells #[.int .i64 q, .int .i64 y] 50)).heap.size (wr.alloc (.cells #[.int .i64 q, .int .i64 y] 50)) w') (fun e w' h => by
          obtain ⟨h1, (⟨_, h2⟩ | ⟨h2, _⟩)⟩ := h
          · exact ⟨h2, h1⟩
          · exact absurd hr h2)
        have HRQ := Lib.hid hrq2
        have HRR := Lib.hid hr
        clear hrq hrq2 hr
        go_wp2_with ((go_at_call 34; with_reducible refine HRQ.out.mono ?_); rintro e w9 ⟨rfl, hb9⟩; have HB9 := Lib.hid hb9; have HA9 := Lib.hid (HAM.out.below hb9); clear hb9)
        have hne := gw_ne w9
        have k5 := fun r : Gw w9 => (HA9.out.below r.h).vs.v5.cell
        have k2 := fun r : Gw w9 => (HA9.out.below r.h).vs.v2.cell
        have x0 := fun r : Gw w9 => (HA9.out.below r.h).xat.c0
        have HE := Lib.hid (fun r : Gw w9 => HE35.out r.W (HB9.out.trans (r.h.mono HB9.out.size)))
        have hli : (k : Int) < xs.length := by omega
        refine wp_region_gw_tail 7 (by kernel_rfl) (by kernel_rfl) ?_
        simp only [List.take_succ_cons, List.take_zero, List.drop_succ_cons, List.drop_zero]
        repeat (go_big_quiet_step ((go_at_call 35; exact gw_of _ (HE.out _))))
        refine wpQuiet_nil ?_
        rintro w10 ⟨⟨_, hb10⟩, rfl⟩
        have HA10 := Lib.hid (HA9.out.below hb10)
        have HOW := Lib.hid (show ∀ t, (Value.slice (some ⟨gx, o, none⟩) xs.length c).ownBlock = some t → t < w.heap.size from fun t ht => by have := HVL.out t ht; omega)
        obtain ⟨y0, y1, r0, r1⟩ := HA10.out.vs.row.room hlt
        have fr0 := HA10.out.vs.row.free (k * 2)
        have fr1 := HA10.out.vs.row.free (k * 2 + 1)
        have HA11 := Lib.hid (HA10.out.row hfw hwf HFT.out hbl (fun t ht => by have := HOW.out t ht; omega) (fmAt_length L xs k).symm hlt q (old (lsAt L xs k) q))
        have a2 := HA11.out.vs.v2.cell
        have ax0 := HA11.out.xat.c0
        have ax1 := HA11.out.xat.c1
        have HAS := Lib.hid (assign_any HA11.out.mg HRR.out)
        have hkb : (k : Int) ≤ 4096 := by omega
        clear hb10 hne k5 k2 x0
        go_wp2_with ((go_at_call 36; with_reducible refine HAS.out.mono ?_); rintro e w12 ⟨rfl, hm, hc⟩; have HA12 := Lib.hid (HA11.out.map hfw hwf HFT.out (HVO.out (by omega)) hm hc); have b6 := HA12.out.vs.v6.cell; have g6 := HA12.out.vs.v6.free; clear hm hc)
        have ha12 := HA12.out
        rw [← HS1.out, ← HS2.out] at ha12
        have hfin := ha12.fin (HOK.out HRR.out) hfw HFT.out hbl (fun t ht => by have := HOW.out t ht; omega) ((k : Int) + 1) (by omega)
        go_roundw
        case rel => exact ⟨k + 1, by omega, by go_num, Lib.hid hfin⟩
        case measure => simp [RowKit.intOf]; omega
      · have hrq2 := hrq.mono (R' := fun e w' => e = .panicked [{ v := .iface 24 (.int .i64 (reqE s b p (lsAt L xs k) q y)), recovered := false }] ∧ Below (wr.alloc (.cells #[.int .i64 q, .int .i64 y] 50)).heap.size (wr.alloc (.cells #[.int .i64 q, .int .i64 y] 50)) w') (fun e w' h => by
          obtain ⟨h1, (⟨h2, _⟩ | ⟨_, h2⟩)⟩ := h
          · exact absurd h2 hr
          · exact ⟨h2, h1⟩)
        have HRQ := Lib.hid hrq2
        obtain ⟨b1, b2⟩ := HBAD.out hr
        have HBB := Lib.hid (And.intro b1 b2)
        clear hrq hrq2 hr b1 b2
        go_wp2_with fail
        refine HRQ.out.mono ?_
        rintro e w9 ⟨rfl, hb9⟩
        have HA9 := Lib.hid (HAM.out.below hb9)
        clear hb9
        go_wp2
        refine leaves_cons (f := 32) (args := #[.pointer (some ⟨w.heap.size, 0, none⟩), .pointer (some ⟨f + 1, 0, none⟩), .pointer (some ⟨f + 2, 0, none⟩), .pointer (some ⟨w.heap.size + 1, 0, none⟩)]) (by simp) (by simp [go_sem]) ?_
        have hlf : (fmAt L xs k).length = k := fmAt_length L xs k
        refine (catch_panicking (fm := fmAt L xs k) (lsAt L xs) [] (by rw [hlf]; exact HA9.out.mg) (HA9.out.vs.vs (by rw [hlf])) hX (by have := HFT.out g (.inr (.inr rfl)); omega) (fun k hk => by have := HFT.out k hk; omega) (by omega) HBK.out).mono ?_
        rintro e u' w'' ⟨rfl, rfl, hmf, hbx, hch⟩
        refine end_apply hbx rfl rfl ⟨by rw [HBB.out.1], by rw [HBB.out.2]; exact hmf, HA9.out.chg.trans hch (fun i hi hl => ?_)⟩
        rcases hi with hi | hi
        · exact hi
        · omega
    · have hkl : k = xs.length := by omega
      subst hkl
      have c4 := HA.out.vs.v4.cell
      have f4 := HA.out.vs.v4.free
      have hv4 := HA.out.vs.set4 (by omega) (by omega) (by omega) (by omega) 0
      have hkk : ∀ k, k ≠ w.heap.size + 1 → (wr.setCell ⟨w.heap.size + 1, 0, none⟩ (.int .i64 0)).heap[k]? = wr.heap[k]? := fun k h => Below.heap_setCell wr _ _ k h
      have hm4 : Mg (wr.setCell ⟨w.heap.size + 1, 0, none⟩ (.int .i64 0)) base bb m1 m2 g cap s b p (lsAt L xs xs.length) := HA.out.mg.keep (hkk _ (by omega)) fun k h => hkk k (by have := HFT.out k h; omega)
      have hc4 : Chg (Ft m1 m2 g) w (wr.setCell ⟨w.heap.size + 1, 0, none⟩ (.int .i64 0)) := HA.out.chg.trans ((Chg.refl (· = w.heap.size + 1) wr).setCell rfl _) (fun i hi hl => by omega)
      obtain ⟨e1, e2⟩ := app_end HA.out.ok
      have HF := Lib.hid (show ApP w base bb m1 m2 g cap s b p (appS s b p L L xs) (appE s b p L xs) (.returned (.int .i64 0)) (wr.setCell ⟨w.heap.size + 1, 0, none⟩ (.int .i64 0)) from ⟨by rw [e1], by rw [e2]; exact hm4, hc4⟩)
      have HB4 := Lib.hid hv4.v4
      clear hv4 hm4 hc4 hkk e1 e2 HA
      go_wp2
      refine leaves_cons (f := 32) (args := #[.pointer (some ⟨w.heap.size, 0, none⟩), .pointer (some ⟨f + 1, 0, none⟩), .pointer (some ⟨f + 2, 0, none⟩), .pointer (some ⟨w.heap.size + 1, 0, none⟩)]) (by simp) (by simp [go_sem]) ?_
      refine (catch_idle w.heap.size (f + 1) (f + 2) (w.heap.size + 1) _).mono ?_
      rintro e u' w'' ⟨rfl, rfl, rfl⟩
      exact end_apply HB4.out rfl rfl HF.out
end Go.Proofs.Yteiemegkdnjpgaa
