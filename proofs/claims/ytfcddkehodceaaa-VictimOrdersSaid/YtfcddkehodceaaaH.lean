/- A function whose loops range over functions leaves with marks; Choose of package victim. Conditions stand in each theorem. -/
import Derived.Test.YtfcddkehodceaaaG
namespace Go.Proofs.Ytfcddkehodceaaa
open Go.RowKit Go.Shelf
attribute [local go_sem] Oper.semAt_some
set_option linter.unusedVariables false
set_option maxHeartbeats 4000000
set_option maxRecDepth 100000
section
variable {S : Nat → Prop} {A B C W W' : World}
/-- A box of one cell. -/
def Bx1 (W : World) (q : Nat) (t : TypeId) (v : Value) : Prop := W.heap[q]? = some (.cells #[v] t (0, 0))
theorem Bx1.cell {q : Nat} {t : TypeId} {v : Value} (h : Bx1 W q t v) : W.cell? ⟨q, 0, none⟩ = some v := by rw [cell_of_row W q 0 _ t (0, 0) h]; rfl
theorem Bx1.free {q : Nat} {t : TypeId} {v : Value} (h : Bx1 W q t v) : W.frozen? ⟨q, 0, none⟩ = false := frozen_of_row W q 0 _ t h
theorem Bx1.lt {q : Nat} {t : TypeId} {v : Value} (h : Bx1 W q t v) : q < W.heap.size := (Array.getElem?_eq_some_iff.1 h).1
theorem Bx1.kc {q : Nat} {t : TypeId} {v : Value} (hb : Bx1 W q t v) (h : Kc S W W') (hS : ¬ S q) : Bx1 W' q t v := h.2 q _ hb rfl hS
theorem Bx1.below {q : Nat} {t : TypeId} {v : Value} (hb : Bx1 W q t v) (h : Below W.heap.size W W') : Bx1 W' q t v := (h.block q hb.lt).trans hb
theorem Bx1.new (W : World) (t : TypeId) (v : Value) : Bx1 (W.alloc (.cells #[v] t)) W.heap.size t v := heap_alloc_new W _
theorem Bx1.put {q : Nat} {t : TypeId} {v : Value} (hb : Bx1 W q t v) {l : Nat} {o o' : Obj} (h : W.heap[l]? = some o) (hc : o.isCells = false) : Bx1 (W.putObj l o') q t v :=
  (Kc.putObj (fun _ => False) W l o o' h hc).2 q _ hb rfl (fun h => h)
theorem own_bx {β : Type} {q : Nat} {t : TypeId} {v : Value} (B : Nat) : OwnFrom B (fun (_ : β) W => Bx1 W q t v) := fun k X Y row hs hg hr => by
  refine (hg.block q hs.lt (fun e => ?_)).trans hs
  obtain ⟨o, ho, hc⟩ := (hr q e.symm).2
  rw [show X.heap[q]? = _ from hs] at ho; cases ho; cases hc
end
/-- The mark of a loop over a function, whose block is D. -/
def mrk (D : Nat) : Deferred := { target := .collected D, args := #[] }
/-- The blocks of the marks: new ones, each open and empty. -/
def Marks (n0 : Nat) (Ds : List Nat) (W : World) : Prop := Ds.Nodup ∧ ∀ D ∈ Ds, n0 ≤ D ∧ W.heap[D]? = some (.deferred (some []))
theorem Marks.nil (n0 : Nat) (W : World) : Marks n0 [] W := ⟨List.nodup_nil, fun D h => by cases h⟩
theorem Marks.lt {n0 : Nat} {Ds : List Nat} {W : World} (h : Marks n0 Ds W) {D : Nat} (hD : D ∈ Ds) : D < W.heap.size := (Array.getElem?_eq_some_iff.1 (h.2 D hD).2).1
theorem Marks.keep {n0 : Nat} {Ds : List Nat} {W W' : World} (h : Marks n0 Ds W) (hk : ∀ D ∈ Ds, W'.heap[D]? = W.heap[D]?) : Marks n0 Ds W' := ⟨h.1, fun D hD => ⟨(h.2 D hD).1, (hk D hD).trans (h.2 D hD).2⟩⟩
theorem Marks.below {n0 : Nat} {Ds : List Nat} {W W' : World} (h : Marks n0 Ds W) (hb : Below W.heap.size W W') : Marks n0 Ds W' := h.keep fun D hD => hb.block D (h.lt hD)
theorem Marks.cons {n0 n1 : Nat} {Ds : List Nat} {W : World} {D : Nat} (h : Marks n0 Ds W) (hn : n0 ≤ n1) (hD : n1 ≤ D) (hlt : ∀ k ∈ Ds, k < n1) (hd : W.heap[D]? = some (.deferred (some []))) : Marks n0 (D :: Ds) W :=
  ⟨List.nodup_cons.2 ⟨fun hm => by have := hlt D hm; omega, h.1⟩, fun k hk => by
    rcases List.mem_cons.1 hk with rfl | hk
    · exact ⟨by omega, hd⟩
    · exact h.2 k hk⟩
theorem own_marks {β : Type} {n0 B : Nat} {Ds : List Nat} (hB : ∀ D ∈ Ds, D < B) : OwnFrom B (fun (_ : β) W => Marks n0 Ds W) := fun k X Y row hs hg hr =>
  hs.keep fun D hD => hg.block D (hs.lt hD) fun e => by have := (hr D e.symm).1; have := hB D hD; omega
/-- The world in which the marks' blocks are shut. -/
theorem leaves_marks {n n0 : Nat} {P : Program} {fn : Func} {tmps : Array Value} {R : Ending → World → Prop} : ∀ (Ds : List Nat) (W : World), Marks n0 Ds W →
    (∀ W', W'.heap.size = W.heap.size → W'.os = W.os → W'.tape = W.tape → W'.output = W.output → (∀ k, (n0 ≤ k → ∃ o, W.heap[k]? = some o ∧ o.isCells = true) → W'.heap[k]? = W.heap[k]?) → ∃ v, (results fn tmps).run P W' = .ok v W' ∧ R (.returned v) W') →
    LeavesInM Fence.wide n P fn tmps R (Ds.map mrk) .returning W
  | [], W, _, h => h W rfl rfl rfl rfl fun _ _ => rfl
  | D :: Ds, W, hm, h => by
    refine ⟨by simp, .inl ⟨D, _, rfl, run_takeDeferred (hm.2 D (by simp)).2, ?_⟩⟩
    have hnd := List.nodup_cons.1 hm.1
    refine leaves_marks (n0 := n0) Ds _ ⟨hnd.2, fun k hk => ⟨(hm.2 k (List.mem_cons_of_mem _ hk)).1, (World.putObj_heap_other (fun e => by subst e; exact hnd.1 hk)).trans (hm.2 k (List.mem_cons_of_mem _ hk)).2⟩⟩ fun W' h1 h2 h3 h4 h5 => h W' (by simpa using h1) h2 h3 h4 fun k hk => ?_
    have hkD : k ≠ D := by
      rintro rfl
      obtain ⟨o, ho, hc⟩ := hk (hm.2 k (by simp)).1
      rw [(hm.2 k (by simp)).2] at ho
      cases ho; cases hc
    exact (h5 k (fun hn => by
      obtain ⟨o, ho, hc⟩ := hk hn
      exact ⟨o, (World.putObj_heap_other hkD).trans ho, hc⟩)).trans (World.putObj_heap_other hkD)

/-- The answer of Choose over the sorted candidates. -/
def chK (D : List Rk) : Int := match D with
  | [] => 0
  | r :: _ => r.pl
def chE (l : List Cd) (D : List Rk) : Int := if D = [] then errL l else 0
def ChPost (w : World) (l : List Cd) (e : Ending) (w' : World) : Prop :=
  Below w.heap.size w w' ∧ ∃ D, D.Perm (rankR l) ∧ D.Pairwise Qr ∧ e = .returned (.tuple #[.int .i64 (chK D), .int .i64 (chE l D)])
theorem res14 (tm : Array Value) (w : World) (g q : Nat) (u v : Value) (ha : tm.getD 2 undef = .pointer (some ⟨g, 0, none⟩)) (hb : tm.getD 3 undef = .pointer (some ⟨q, 0, none⟩))
    (hu : w.cell? ⟨g, 0, none⟩ = some u) (hv : w.cell? ⟨q, 0, none⟩ = some v) : (results Try.f14 tm).run Try.prog w = .ok (.tuple #[u, v]) w := by
  have ha2 : tm[2]?.getD undef = .pointer (some ⟨g, 0, none⟩) := by simpa using ha
  have hb2 : tm[3]?.getD undef = .pointer (some ⟨q, 0, none⟩) := by simpa using hb
  simp [results, Try.results14, go_sem, ha2, hb2, hu, hv]
/-- The end of Choose, behind the mark of its loop. -/
theorem ch_end {w W : World} {E : Nat} {l : List Cd} {D : List Rk} {tm : Array Value} {a b : Int} (hE : w.heap.size ≤ E) (hd : W.heap[E]? = some (.deferred (some []))) (hb : Below w.heap.size w W) (h1 : Bx1 W w.heap.size 3 (.int .i64 a)) (h2 : Bx1 W (w.heap.size + 1) 24 (.int .i64 b))
    (hp : D.Perm (rankR l)) (hq : D.Pairwise Qr) (ha : chK D = a) (hc : chE l D = b) (t1 : tm.getD 2 undef = .pointer (some ⟨w.heap.size, 0, none⟩)) (t2 : tm.getD 3 undef = .pointer (some ⟨w.heap.size + 1, 0, none⟩)) :
    LeavesInM Fence.wide 9 Try.prog Try.f14 tm (ChPost w l) ([E].map mrk) .returning W :=
  leaves_marks (n0 := w.heap.size) [E] W ⟨by simp, fun k hk => by
    obtain rfl : k = E := by simpa using hk
    exact ⟨hE, hd⟩⟩ fun W' k1 k2 k3 k4 k5 => by
    have e1 : Bx1 W' w.heap.size 3 (.int .i64 a) := (k5 _ fun _ => ⟨_, h1, rfl⟩).trans h1
    have e2 : Bx1 W' (w.heap.size + 1) 24 (.int .i64 b) := (k5 _ fun _ => ⟨_, h2, rfl⟩).trans h2
    refine ⟨_, res14 tm W' _ _ _ _ t1 t2 e1.cell e2.cell, ⟨k2.trans hb.os, k3.trans hb.tape, k4.trans hb.output, by have := hb.size; omega, fun k hk => (k5 k fun hn => by omega).trans (hb.block k hk)⟩, D, hp, hq, by rw [ha, hc]⟩
theorem Choose_any (w : World) (v : Value) (l : List Cd) (hv : Cs w v l) (hl : l.length < 40) : Calls Try.prog 14 #[v] w (ChPost w l) := by
  obtain ⟨w1, hw1⟩ : ∃ w1 : World, w1 = (w.alloc (.cells #[.int .i64 0] 3)).alloc (.cells #[.int .i64 0] 24) := ⟨_, rfl⟩
  have hb1 : Below w.heap.size w w1 := by rw [hw1]; exact ((Gr.refl w).alloc _ |>.alloc _).below
  have hx1 : Bx1 w1 w.heap.size 3 (.int .i64 0) := by rw [hw1]; exact (Bx1.new w 3 (.int .i64 0)).below (((Gr.refl _).alloc _).below)
  have hx2 : Bx1 w1 (w.heap.size + 1) 24 (.int .i64 0) := by
    have := Bx1.new (w.alloc (.cells #[.int .i64 0] 3)) 24 (.int .i64 0)
    rw [World.size_alloc] at this
    rw [hw1]; exact this
  have hs1 : w1.heap.size = w.heap.size + 2 := by rw [hw1]; simp
  have hv1 := hv.below hb1
  have HO := Lib.hid (Order_any w1 v l hv1 hl)
  have HK : Hid (∀ W, Below w.heap.size w W → Calls Try.prog 17 #[v] W (RankPost W l)) := fun W hW => rank_any W v l (hv.below hW) (by omega)
  have HL : Hid (∀ D : List Rk, D.Perm (rankR l) → D.length ≤ 4096) := fun D hD => by have := hD.length_eq; have := rankR_len l; omega
  have HR : Hid (rankR l = [] → RankPost = RankPost) := fun _ => rfl
  have HB1 := Lib.hid hb1
  have HX1 := Lib.hid hx1
  have HX2 := Lib.hid hx2
  have HS1 := Lib.hid hs1
  have HW1 := Lib.hid hw1
  clear hb1 hx1 hx2 hs1 hw1 hv1 hv hl HR
  refine (callsIn_wide (n := 9)).1 ?_
  have f16 : Fence.wide.fn 16 := trivial
  have f17 : Fence.wide.fn 17 := trivial
  refine callsIn_of_wp_marks Try.func14 rfl trivial ?_ rfl
  simp only [Try.ntmps14, List.size_toArray, List.length_cons, List.length_nil, Nat.reduceAdd, Nat.reduceSub, Array.replicate_succ, Array.replicate_zero, List.push_toArray, List.append_toArray, List.nil_append, List.cons_append]
  gi_wp2_with (gi_at_call 16; rw [← HW1.out]; refine (callsIn_wide.2 HO.out).mono ?_; rintro e w2 ⟨q, D, rfl, hb2, ho2, hp2, hd2⟩; have HB2 := Lib.hid hb2; have HO2 := Lib.hid ho2; have HD := Lib.hid (And.intro hp2 hd2); clear hb2 ho2 hp2 hd2)
  have hb02 : Below w.heap.size w w2 := HB1.out.trans (HB2.out.mono HB1.out.size)
  have hsz : w.heap.size + 2 ≤ w2.heap.size := by have := HB2.out.size; have := HS1.out; omega
  have HB02 := Lib.hid hb02
  have HSZ := Lib.hid hsz
  have hx1 := HX1.out.below HB2.out
  have hx2 := HX2.out.below HB2.out
  have HY := ord_yields (fun _ => False) (w2.heap.size + 2) w1.heap.size q D w2 HO2.out (HL.out D HD.out.1) (fun k h => h.elim)
  refine range_list (gf := 24) rfl (enters_of Try.func24 (by kernel_rfl) rfl) HY (Below.refl _ _) (fun _ => rfl)
    (fun k W => k = 0 ∧ Bx1 W w.heap.size 3 (.int .i64 0) ∧ Bx1 W (w.heap.size + 1) 24 (.int .i64 0) ∧ Below w2.heap.size w2 W)
    (fun c k W => c = .ret ∧ ∃ r R, D = r :: R ∧ Bx1 W w.heap.size 3 (.int .i64 r.pl) ∧ Bx1 W (w.heap.size + 1) 24 (.int .i64 0) ∧ Below w.heap.size w W)
    ?hI ?hIx ⟨rfl, hx1, hx2, Below.refl _ _⟩
    (fun k a' W => ∃ r : Rk, D[k]? = some r ∧ a' = { tmps := #[v, undef, .pointer (some ⟨w.heap.size, 0, none⟩), .pointer (some ⟨w.heap.size + 1, 0, none⟩), .int .i64 r.pl, undef, undef, v, .func (.func 24) #[] #[.pointer (some ⟨q, 0, none⟩)], .int .i64 r.pl, .agg #[.int .i64 r.c.bl, .int .i64 r.c.va, .int .i64 r.c.pa, .int .i64 r.c.ag], undef, undef, undef, undef, undef, undef, undef], defers := [] }) (fun k a' _ X Y row hs _ _ => hs) ?assign ?body ?done ?stop
  case hI => exact fun k X Y row hs hg hr => ⟨hs.1, own_bx _ () X Y row hs.2.1 hg hr, own_bx _ () X Y row hs.2.2.1 hg hr, ownFrom_below (Nat.le_refl _) (Nat.le_refl _) () X Y row hs.2.2.2 hg hr⟩
  case hIx =>
    intro c k X Y row hs hg hr
    obtain ⟨h1, r, R, h2, h3, h4, h5⟩ := hs
    exact ⟨h1, r, R, h2, own_bx _ () X Y row h3 hg hr, own_bx _ () X Y row h4 hg hr, ownFrom_below (Nat.le_refl _) (by omega) () X Y row h5 hg hr⟩
  case assign =>
    intro l' k hk W K hi hK
    clear HY
    have hr0 : D[k]? = some D[k] := List.getElem?_eq_getElem hk
    obtain ⟨r, hr⟩ : ∃ r, r = D[k] := ⟨_, rfl⟩
    rw [← hr] at hr0
    rw [← hr]
    have HKK := Lib.hid hK
    have HI := Lib.hid hi
    have HR0 := Lib.hid hr0
    clear hK hr hi hr0
    obtain ⟨⟨bl, va, pa, ag⟩, pl⟩ := r
    simp only [ev]
    gi_wp2
    exact HKK.out _ W (KeepsFrom.refl _ _) (Kc.refl _ _) HI.out ⟨_, HR0.out, rfl⟩
  case body =>
    rintro l' k hk a' W hl ⟨hk0, h1, h2, h3⟩ ⟨r, hr, rfl⟩
    have hD : ∃ R, D = r :: R := by
      subst hk0
      cases D with
      | nil => cases hr
      | cons x R => exact ⟨R, by simpa using hr⟩
    have HDD := Lib.hid hD
    have H1 := Lib.hid h1
    have H2 := Lib.hid h2
    have H3 := Lib.hid h3
    have x1 := h1.cell
    have x2 := h2.cell
    have y1 := h1.free
    have y2 := h2.free
    clear HY hD h1 h2 h3 hk0 hr
    obtain ⟨⟨bl, va, pa, ag⟩, pl⟩ := r
    dsimp only
    gi_wp2
    obtain ⟨R, hR⟩ := HDD.out
    have hsz := HSZ.out
    refine ⟨⟨by simp [World.setCell], fun t o ht ho _ => ?_⟩, rfl, _, R, hR, ?_, ?_, ?_⟩
    · rw [Below.heap_setCell _ _ _ _ (by show t ≠ w.heap.size + 1; omega), Below.heap_setCell _ _ _ _ (by show t ≠ w.heap.size; omega)]
      exact ho
    · have e1 := heap_setCell_same W w.heap.size 0 #[.int .i64 0] 3 (.int .i64 pl) H1.out
      exact (Below.heap_setCell _ ⟨w.heap.size + 1, 0, none⟩ _ _ (by show w.heap.size ≠ w.heap.size + 1; omega)).trans e1
    · have e1 := (Below.heap_setCell W ⟨w.heap.size, 0, none⟩ (.int .i64 pl) (w.heap.size + 1) (by show w.heap.size + 1 ≠ w.heap.size; omega)).trans H2.out
      exact heap_setCell_same _ _ 0 _ 24 (.int .i64 0) e1
    · exact ((HB02.out.trans (H3.out.mono HB02.out.size)).setCell (by show w.heap.size ≤ w.heap.size; omega) _).setCell (by show w.heap.size ≤ w.heap.size + 1; omega) _
  case done =>
    rintro E W hE ⟨hn, h1, h2, h3⟩ hd
    have hDn : D = [] := List.length_eq_zero_iff.1 hn
    have hbW : Below w.heap.size w W := HB02.out.trans (h3.mono HB02.out.size)
    have H17 := Lib.hid (HK.out W hbW)
    have H1 := Lib.hid h1
    have H2 := Lib.hid h2
    have HBW := Lib.hid hbW
    have HEE : Hid (w.heap.size ≤ E) := by show _ ≤ _; have := HSZ.out; omega
    have HED := Lib.hid hd
    have HDN := Lib.hid hDn
    clear HY hn h1 h2 h3 hd hDn hbW hE
    gi_wp2_with (gi_at_call 17; refine (callsIn_wide.2 H17.out).mono ?_; rintro e W2 ⟨hb2, v2, rfl, -⟩; have x1 := (H1.out.below hb2).cell; have x2 := (H2.out.below hb2).cell; have y1 := (H1.out.below hb2).free; have y2 := (H2.out.below hb2).free; have HW2 := Lib.hid hb2; clear hb2)
    have z1 := H1.out.below HW2.out
    have z2 := H2.out.below HW2.out
    refine ch_end (E := E) (a := 0) (b := errL l) HEE.out ?_ ?_ ?_ ?_ HD.out.1 HD.out.2 ?_ ?_ rfl rfl
    · have hlt : E < W.heap.size := (Array.getElem?_eq_some_iff.1 HED.out).1
      have hsz := HSZ.out
      rw [Below.heap_setCell _ _ _ _ (by show E ≠ w.heap.size + 1; intro e; have := H2.out; rw [← e] at this; rw [show W.heap[E]? = _ from this] at HED; cases HED.out), Below.heap_setCell _ _ _ _ (by show E ≠ w.heap.size; intro e; have := H1.out; rw [← e] at this; rw [show W.heap[E]? = _ from this] at HED; cases HED.out)]
      exact (HW2.out.block E hlt).trans HED.out
    · exact ((HBW.out.trans (HW2.out.mono HBW.out.size)).setCell (by show w.heap.size ≤ w.heap.size; omega) _).setCell (by show w.heap.size ≤ w.heap.size + 1; omega) _
    · have e1 := heap_setCell_same W2 w.heap.size 0 #[.int .i64 0] 3 (.int .i64 0) z1
      exact (Below.heap_setCell _ ⟨w.heap.size + 1, 0, none⟩ _ _ (by show w.heap.size ≠ w.heap.size + 1; omega)).trans e1
    · have e1 := (Below.heap_setCell W2 ⟨w.heap.size, 0, none⟩ (.int .i64 0) (w.heap.size + 1) (by show w.heap.size + 1 ≠ w.heap.size; omega)).trans z2
      exact heap_setCell_same _ _ 0 _ 24 (.int .i64 (errL l)) e1
    · rw [HDN.out]; rfl
    · unfold chE; rw [if_pos HDN.out]
  case stop =>
    rintro E c k W hE hk ⟨rfl, r, R, hR, h1, h2, h3⟩ hd
    have HEE : Hid (w.heap.size ≤ E) := by show _ ≤ _; have := HSZ.out; omega
    gi_wp2
    exact ch_end (E := E) (a := r.pl) (b := 0) HEE.out hd h3 h1 h2 HD.out.1 HD.out.2 (by rw [hR]; rfl) (by unfold chE; rw [if_neg (by rw [hR]; simp)]) rfl rfl
end Go.Proofs.Ytfcddkehodceaaa
