/- The walk of VictimOrders. Conditions stand in each theorem. -/
import Derived.Test.YtfcddkehodceaaaVQ
namespace Go.Proofs.Ytfcddkehodceaaa
open Go.RowKit Go.Shelf
attribute [local go_sem] Oper.semAt_some
set_option linter.unusedVariables false
set_option maxHeartbeats 8000000
set_option maxRecDepth 100000
/-- The call's own row, if it is not empty. -/
def OwnA (W : World) (A : Option Addr) (n lo hi : Nat) : Prop := 0 < n → ∃ g, A = some ⟨g, 0, none⟩ ∧ RowA W g n ∧ lo ≤ g ∧ g < hi
theorem OwnA.below {W W' : World} {A : Option Addr} {n lo hi : Nat} (h : OwnA W A n lo hi) (hb : Below W.heap.size W W') : OwnA W' A n lo hi := fun h0 => by
  obtain ⟨g, e, h1, h2, h3⟩ := h h0
  exact ⟨g, e, h1.below hb, h2, h3⟩
/-- The reference's list in memory, its block from base on. -/
def IntsB (base : Nat) (W : World) (A : Option Addr) (O : List Nat) : Prop := 0 < O.length → ∃ g, A = some ⟨g, 0, none⟩ ∧ base ≤ g ∧ g < W.heap.size ∧ ∀ j (hj : j < O.length), W.cell? ⟨g, j, none⟩ = some (.int .i64 (O[j] : Int))
theorem IntsB.same {base : Nat} {W W' : World} {A : Option Addr} {O : List Nat} (h : IntsB base W A O) (hs : W.heap.size ≤ W'.heap.size) (hk : ∀ k, base ≤ k → k < W.heap.size → W'.heap[k]? = W.heap[k]?) : IntsB base W' A O := fun h0 => by
  obtain ⟨g, e, h1, h2, h3⟩ := h h0
  exact ⟨g, e, h1, Nat.lt_of_lt_of_le h2 hs, fun j hj => (World.cell?_of_block (hk g h1 h2)).trans (h3 j hj)⟩
theorem ro_math {w W : World} {l : List Cd} {e : Ending} {D : List Rk} (hD : D.Perm (rankR l)) (hq : D.Pairwise Qr)
    (h : ((¬ ∀ c ∈ l, c.ok) ∧ e = .returned (.tuple #[.slice none 0 0, .int .i64 2])) ∨ ((∀ c ∈ l, c.ok) ∧ ∃ v O, e = .returned (.tuple #[v, .int .i64 0]) ∧ W.ownsRow w.heap.size 3 1 v O.length (iv (oi O)) ∧ OutAt l l.length O)) :
    ∃ A4 c4 e4 O, e = .returned (.tuple #[.slice A4 O.length c4, .int .i64 e4]) ∧ IntsB w.heap.size W A4 O ∧ O.length ≤ l.length ∧ D = O.map (gk l) ∧ ∀ i ∈ O, i < l.length := by
  rcases h with ⟨h1, rfl⟩ | ⟨h1, v, O, rfl, h2, h3⟩
  · refine ⟨none, 0, 2, [], rfl, fun h0 => absurd h0 (by simp), Nat.zero_le _, ?_, fun i hi => by cases hi⟩
    have h4 : rankR l = [] := by unfold rankR; rw [if_neg h1]
    rw [h4] at hD
    exact List.perm_nil.1 hD
  · obtain ⟨-, hI, A, c, hA, -⟩ := ints_of_own h2
    rw [oi_len] at hA
    subst hA
    refine ⟨A, c, 0, O, rfl, fun h0 => ?_, h3.len, ch_good hD hq h1 h3, h3.lt⟩
    obtain ⟨g, o, rfl, hg, hc⟩ := ints_at hI h0
    rcases h2.2 with ⟨h5, _⟩ | ⟨g', cap, cur, h5, hb, _⟩
    · simp only [Value.slice.injEq] at h5; omega
    · simp only [Value.slice.injEq, Option.some.injEq, Addr.mk.injEq] at h5
      obtain ⟨⟨rfl, rfl, -⟩, -⟩ := h5
      exact ⟨g, rfl, hb, hg, fun j hj => by simpa using hc j hj⟩
/-- What the second loop reads. -/
structure Oe (W w : World) (l : List Cd) (many : Int) (A0 : Option Addr) (c0 : Nat) (A4 : Option Addr) (c4 q Bo base : Nat) (O : List Nat) (D : List Rk) : Prop where
  hl : Bx1 W w.heap.size 33 (.slice A0 l.length c0)
  hm : Bx1 W (w.heap.size + 1) 3 (.int .i64 many)
  hr : Bx1 W (w.heap.size + 2) 4 (.bool false)
  ho : Bx1 W Bo 36 (.slice A4 O.length c4)
  hc : Cs W (.slice A0 l.length c0) l
  hi : IntsB 0 W A4 O
  hy : OrdAt base W q D
  hb : Below w.heap.size w W
theorem Oe.below {W W' w : World} {l : List Cd} {many : Int} {A0 : Option Addr} {c0 : Nat} {A4 : Option Addr} {c4 q Bo base : Nat} {O : List Nat} {D : List Rk} (h : Oe W w l many A0 c0 A4 c4 q Bo base O D) (hb : Below W.heap.size W W') : Oe W' w l many A0 c0 A4 c4 q Bo base O D :=
  ⟨h.hl.below hb, h.hm.below hb, h.hr.below hb, h.ho.below hb, h.hc.below hb, h.hi.same hb.size (fun k _ hk => hb.block k hk), h.hy.below hb, h.hb.trans (hb.mono h.hb.size)⟩
theorem Marks.from {n0 n1 : Nat} {Ds : List Nat} {W : World} (h : Marks n1 Ds W) (hn : n0 ≤ n1) : Marks n0 Ds W := ⟨h.1, fun D hD => ⟨Nat.le_trans hn (h.2 D hD).1, (h.2 D hD).2⟩⟩
/-- The frame at the head of the second loop. -/
def ovF (p2 p3 p4 : Nat) (vf : Value) (p7 T : Nat) (u : Nat → Value) : Array Value := #[u 0, u 1, .pointer (some ⟨p2, 0, none⟩), .pointer (some ⟨p3, 0, none⟩), .pointer (some ⟨p4, 0, none⟩), u 5, vf, .pointer (some ⟨p7, 0, none⟩), u 8, u 9, .pointer (some ⟨T, 0, none⟩), u 11, u 12, u 13, u 14, u 15, u 16, u 17, u 18, u 19, u 20, u 21, u 22, u 23, u 24, u 25, u 26, u 27, u 28, u 29, u 30, u 31, u 32, u 33, u 34, u 35, u 36, u 37, u 38, u 39, u 40, u 41, u 42, u 43, u 44, u 45, u 46, u 47, u 48, u 49, u 50, u 51, u 52, u 53, u 54, u 55, u 56, u 57, u 58, u 59, u 60, u 61, u 62, u 63, u 64, u 65, u 66, u 67, u 68, u 69, u 70, u 71, u 72, u 73, u 74, u 75, u 76, u 77, u 78, u 79, u 80, u 81, u 82, u 83, u 84, u 85, u 86, u 87, u 88, u 89, u 90, u 91, u 92, u 93, u 94, u 95, u 96, u 97, u 98, u 99, u 100, u 101, u 102]
def OvI (w E : World) (vf : Value) (Bo : Nat) (m : Nat) (a : Act) (W : World) : Prop :=
  ∃ (turn T : Nat) (Ds : List Nat) (u : Nat → Value), turn + m = 2 ∧ a = { tmps := ovF w.heap.size (w.heap.size + 1) (w.heap.size + 2) vf Bo T u, defers := Ds.map mrk } ∧ Below E.heap.size E W ∧ E.heap.size ≤ T ∧ Bx1 W T 3 (.int .i64 (turn : Int)) ∧ Marks E.heap.size Ds W
theorem OvI.mk' {w E W : World} {vf : Value} {Bo m turn T : Nat} {Ds : List Nat} {tm : Array Value} {ds : List Deferred} (h1 : turn + m = 2) (h2 : tm = ovF w.heap.size (w.heap.size + 1) (w.heap.size + 2) vf Bo T (fun i => tm.getD i undef)) (h3 : ds = Ds.map mrk) (h4 : Below E.heap.size E W) (h5 : E.heap.size ≤ T) (h6 : Bx1 W T 3 (.int .i64 (turn : Int))) (h7 : Marks E.heap.size Ds W) :
    OvI w E vf Bo m { tmps := tm, defers := ds } W := ⟨turn, T, Ds, _, h1, by rw [h3, ← h2], h4, h5, h6, h7⟩
def ovM (a : Act) (W : World) : Nat := match a.tmps.getD 10 undef with
  | .pointer (some p) => 2 - (RowKit.intOf ((W.cell? p).getD undef)).toNat
  | _ => 0
/-- The state within a range: the rounds so far, the turn. -/
def Ri (E : World) (T N turn : Nat) (Ds : List Nat) (many : Int) (k : Nat) (X : World) : Prop :=
  Bx1 X N 3 (.int .i64 (k : Int)) ∧ Bx1 X T 3 (.int .i64 (turn : Int)) ∧ Below E.heap.size E X ∧ Marks E.heap.size Ds X ∧ (turn = 0 → k = 0 ∨ (k : Int) < many)
/-- The state when the range is left early. -/
def Rx (E : World) (T N turn : Nat) (Ds : List Nat) (many : Int) (k : Nat) (X : World) : Prop :=
  Bx1 X N 3 (.int .i64 (k : Int)) ∧ Bx1 X T 3 (.int .i64 (turn : Int)) ∧ Below E.heap.size E X ∧ Marks E.heap.size Ds X ∧ turn = 0 ∧ 1 ≤ k ∧ many ≤ (k : Int) ∧ (k = 1 ∨ (k : Int) - 1 < many)
def ovG (p2 p3 p4 : Nat) (vf : Value) (p7 T N : Nat) (i : Int) (C : Nat) (u : Nat → Value) : Array Value := #[u 0, u 1, .pointer (some ⟨p2, 0, none⟩), .pointer (some ⟨p3, 0, none⟩), .pointer (some ⟨p4, 0, none⟩), u 5, vf, .pointer (some ⟨p7, 0, none⟩), u 8, u 9, .pointer (some ⟨T, 0, none⟩), .pointer (some ⟨N, 0, none⟩), .int .i64 i, .pointer (some ⟨C, 0, none⟩), u 14, u 15, u 16, u 17, u 18, u 19, u 20, u 21, u 22, u 23, u 24, u 25, u 26, u 27, u 28, u 29, u 30, u 31, u 32, u 33, u 34, u 35, u 36, u 37, u 38, u 39, u 40, u 41, u 42, u 43, u 44, u 45, u 46, u 47, u 48, u 49, u 50, u 51, u 52, u 53, u 54, u 55, u 56, u 57, u 58, u 59, u 60, u 61, u 62, u 63, u 64, u 65, u 66, u 67, u 68, u 69, u 70, u 71, u 72, u 73, u 74, u 75, u 76, u 77, u 78, u 79, u 80, u 81, u 82, u 83, u 84, u 85, u 86, u 87, u 88, u 89, u 90, u 91, u 92, u 93, u 94, u 95, u 96, u 97, u 98, u 99, u 100, u 101, u 102]
def Ra (w : World) (vf : Value) (Bo T N : Nat) (D : List Rk) (k : Nat) (a : Act) (X : World) : Prop :=
  ∃ (C : Nat) (r : Rk) (u : Nat → Value), D[k]? = some r ∧ a = { tmps := ovG w.heap.size (w.heap.size + 1) (w.heap.size + 2) vf Bo T N r.pl C u, defers := [] } ∧ X.heap[C]? = some (.cells #[.int .i64 r.c.bl, .int .i64 r.c.va, .int .i64 r.c.pa, .int .i64 r.c.ag] 23 (0, 0)) ∧ N < C
theorem Ra.mk' {w X : World} {vf : Value} {Bo T N k C : Nat} {D : List Rk} {r : Rk} {tm : Array Value} (h1 : D[k]? = some r) (h2 : tm = ovG w.heap.size (w.heap.size + 1) (w.heap.size + 2) vf Bo T N r.pl C (fun i => tm.getD i undef)) (h3 : X.heap[C]? = some (.cells #[.int .i64 r.c.bl, .int .i64 r.c.va, .int .i64 r.c.pa, .int .i64 r.c.ag] 23 (0, 0))) (h4 : N < C) :
    Ra w vf Bo T N D k { tmps := tm, defers := [] } X := ⟨C, r, _, h1, by rw [← h2], h3, h4⟩
theorem own_cells {β : Type} {C : Nat} {cs : Array Value} {t : TypeId} (B : Nat) : OwnFrom B (fun (_ : β) W => W.heap[C]? = some (.cells cs t (0, 0))) := fun k X Y row hs hg hr => by
  refine (hg.block C (Array.getElem?_eq_some_iff.1 hs).1 (fun e => ?_)).trans hs
  obtain ⟨o, ho, hc⟩ := (hr C e.symm).2
  rw [show X.heap[C]? = _ from hs] at ho; cases ho; cases hc
theorem marks_put {n0 q : Nat} {t : TypeId} {v u : Value} {Ds : List Nat} {W : World} (h : Marks n0 Ds W) (hq : Bx1 W q t v) : Marks n0 Ds (W.setCell ⟨q, 0, none⟩ u) := h.keep fun D hD => Below.heap_setCell W _ _ _ (by
  show D ≠ q
  rintro rfl
  have := (h.2 D hD).2
  rw [show W.heap[D]? = _ from hq] at this
  cases this)
theorem ri_put {E X : World} {T N turn k : Nat} {Ds : List Nat} {many : Int} (h : Ri E T N turn Ds many k X) (hN : E.heap.size ≤ N) (hT : T < N) :
    Bx1 (X.setCell ⟨N, 0, none⟩ (.int .i64 ((k : Int) + 1))) N 3 (.int .i64 ((k + 1 : Nat) : Int)) ∧ Bx1 (X.setCell ⟨N, 0, none⟩ (.int .i64 ((k : Int) + 1))) T 3 (.int .i64 (turn : Int)) ∧ Below E.heap.size E (X.setCell ⟨N, 0, none⟩ (.int .i64 ((k : Int) + 1))) ∧ Marks E.heap.size Ds (X.setCell ⟨N, 0, none⟩ (.int .i64 ((k : Int) + 1))) := by
  obtain ⟨i1, i2, i3, i4, i5⟩ := h
  exact ⟨heap_setCell_same X N 0 _ 3 _ i1, (Below.heap_setCell X _ _ _ (by show T ≠ N; omega)).trans i2, i3.setCell hN _, marks_put i4 i1⟩
theorem ri_kf {B N : Nat} {X X2 : World} (hb : Below X.heap.size X X2) (hN : N < B) (v : Value) : KeepsFrom B X (X2.setCell ⟨N, 0, none⟩ v) ∧ Kc (fun k => k = N) X (X2.setCell ⟨N, 0, none⟩ v) := by
  have hsz : (X2.setCell ⟨N, 0, none⟩ v).heap.size = X2.heap.size := by simp [World.setCell]
  refine ⟨⟨by rw [hsz]; exact hb.size, fun k o hk ho _ => ?_⟩, ⟨by rw [hsz]; exact hb.size, fun k o ho _ hS => ?_⟩⟩
  · exact (Below.heap_setCell X2 _ _ _ (by show k ≠ N; omega)).trans ((hb.block k (Array.getElem?_eq_some_iff.1 ho).1).trans ho)
  · exact (Below.heap_setCell X2 _ _ _ hS).trans ((hb.block k (Array.getElem?_eq_some_iff.1 ho).1).trans ho)
theorem ov_next {E W : World} {turn : Nat} {Ds : List Nat} (h1 : Below E.heap.size E W) (h2 : Marks E.heap.size Ds W) (x : Int) (hx : x = ((turn + 1 : Nat) : Int)) : Below E.heap.size E (W.alloc (.cells #[.int .i64 x] 3)) ∧ E.heap.size ≤ W.heap.size ∧ Bx1 (W.alloc (.cells #[.int .i64 x] 3)) W.heap.size 3 (.int .i64 ((turn + 1 : Nat) : Int)) ∧ Marks E.heap.size Ds (W.alloc (.cells #[.int .i64 x] 3)) := by
  have hb : Below W.heap.size W (W.alloc (.cells #[.int .i64 x] 3)) := ((Gr.refl _).alloc _).below
  exact ⟨h1.trans (hb.mono h1.size), h1.size, by rw [← hx]; exact Bx1.new W 3 _, h2.below hb⟩
theorem orders_any (w : World) (v0 : Value) (l : List Cd) (many : Int) (hv : Cs w v0 l) : Calls Try.prog 5 #[v0, .int .i64 many] w (RetB w (.bool true)) := by
  have HWK := Lib.hid works_any
  obtain ⟨w1, hw1⟩ : ∃ w1 : World, w1 = ((w.alloc (.cells #[v0] 33)).alloc (.cells #[.int .i64 many] 3)).alloc (.cells #[.bool false] 4) := ⟨_, rfl⟩
  have hb1 : Below w.heap.size w w1 := by rw [hw1]; exact (((Gr.refl w).alloc _ |>.alloc _).alloc _).below
  have hxl : Bx1 w1 w.heap.size 33 v0 := by rw [hw1]; exact (Bx1.new w 33 v0).below ((((Gr.refl _).alloc _).alloc _).below)
  have hxm : Bx1 w1 (w.heap.size + 1) 3 (.int .i64 many) := by
    have := Bx1.new (w.alloc (.cells #[v0] 33)) 3 (.int .i64 many)
    rw [World.size_alloc] at this
    rw [hw1]; exact this.below (((Gr.refl _).alloc _).below)
  have hxr : Bx1 w1 (w.heap.size + 2) 4 (.bool false) := by
    have := Bx1.new ((w.alloc (.cells #[v0] 33)).alloc (.cells #[.int .i64 many] 3)) 4 (.bool false)
    rw [World.size_alloc, World.size_alloc] at this
    rw [hw1]; exact this
  have hs1 : w1.heap.size = w.heap.size + 3 := by rw [hw1]; simp
  have hv1 := hv.below hb1
  have HB1 := Lib.hid hb1
  have HXL := Lib.hid hxl
  have HXM := Lib.hid hxm
  have HXR := Lib.hid hxr
  have HS1 := Lib.hid hs1
  have HW1 := Lib.hid hw1
  have f13 : Fence.wide.fn 13 := trivial
  have f15 : Fence.wide.fn 15 := trivial
  have f16 : Fence.wide.fn 16 := trivial
  have xl := hxl.cell
  have xm := hxm.cell
  by_cases h1 : 30 < l.length
  · have h1z : (30 : Int) < (l.length : Int) := by omega
    obtain ⟨A, c, rfl, -⟩ := hv
    clear hb1 hxl hxm hxr hv1
    refine (callsIn_wide (n := 9)).1 ?_
    refine callsIn_of_wp_marks Try.func5 rfl trivial ?_ rfl
    simp only [Try.ntmps5, List.size_toArray, List.length_cons, List.length_nil, Nat.reduceAdd, Nat.reduceSub, Array.replicate_succ, Array.replicate_zero, List.push_toArray, List.append_toArray, List.nil_append, List.cons_append]
    refine wpIn_wide.2 ?_
    go_upto_region 1 with fail
    rw [← HW1.out]
    clear hw1 hs1
    go_wp2_with ((go_at_call 13; (with_reducible refine (HWK.out _).mono ?_)); rintro e w2 ⟨rfl, hb2⟩; have HB2 := Lib.hid hb2; have x2 := (HXR.out.below hb2).cell; have y2 := (HXR.out.below hb2).free; clear hb2)
    exact or_end (Ds := []) (Marks.nil _ _) (HB1.out.trans (HB2.out.mono HB1.out.size)) (HXR.out.below HB2.out) (by omega) rfl
  have h1z : (l.length : Int) ≤ 30 := by omega
  have hb0 : Below w1.heap.size w1 (w1.alloc (.cells #[] 23)) := (Below.refl _ _).alloc (Nat.le_refl _) _
  obtain ⟨A, c, w2, hrun, ho2, hg2⟩ := app_cs (w1.alloc (.cells #[] 23)) w1.heap.size 0 (.slice (some ⟨w1.heap.size, 0, none⟩) 0 0) _ [] l (World.ownsRow_made w1 #[] 0 (Nat.le_refl _) (Nat.zero_le _) (by simp)) (hv1.below hb0) (by omega) (by simp)
  simp only [Nat.zero_add, List.nil_append] at hrun ho2
  have hb2 : Below w1.heap.size w1 w2 := hb0.trans ⟨hg2.os, hg2.tape, hg2.output, hg2.size, fun k hk => hg2.block k (by simp; omega) (fun e => by simp [Value.ownBlock] at e; omega)⟩
  have hcs2 := (Cs_of_own ho2).2
  have hown : OwnA w2 A l.length w1.heap.size w2.heap.size := fun h0 => by
    obtain ⟨g, rfl⟩ : ∃ g, A = some ⟨g, 0, none⟩ := by
      rcases ho2.2 with ⟨h, _⟩ | ⟨g, cap, cur, h, _⟩
      · simp only [Value.slice.injEq] at h; omega
      · simp only [Value.slice.injEq] at h; exact ⟨g, h.1⟩
    obtain ⟨-, hrow, hgb⟩ := RowC.of_own ho2
    exact ⟨g, rfl, RowA.of hrow, hgb, hrow.lt⟩
  have HRUN := Lib.hid hrun
  have HB2 := Lib.hid hb2
  have HOWN := Lib.hid hown
  have HORD := Lib.hid (Order_any w2 _ l hcs2 (by omega))
  have HREF : Hid (∀ W, Below w1.heap.size w1 W → Calls Try.prog 15 #[v0] W (ROPost W l)) := fun W hb => rorder_any W v0 l (hv1.below hb) (by omega)
  have HV := Lib.hid hv1
  have hxl2 := hxl.below hb2
  have HXL2 := Lib.hid hxl2
  have xl2 := hxl2.cell
  have xl1 := (hxl.below hb0).cell
  obtain ⟨A0, c0, rfl, -⟩ := hv
  unfold OrdPost at HORD
  unfold ROPost at HREF
  have hqn := fun (W : World) (f : Fn) (x y : Array Value) => run_eql_func_nil (P := Try.prog) W 41 f x y Try.underlying41
  clear hb1 hxm hxr hv1 hxl hb0 hrun ho2 hg2 hb2 hcs2 hown hxl2 hs1
  refine (callsIn_wide (n := 9)).1 ?_
  refine callsIn_of_wp_marks Try.func5 rfl trivial ?_ rfl
  simp only [Try.ntmps5, List.size_toArray, List.length_cons, List.length_nil, Nat.reduceAdd, Nat.reduceSub, Array.replicate_succ, Array.replicate_zero, List.push_toArray, List.append_toArray, List.nil_append, List.cons_append]
  refine wpIn_wide.2 ?_
  go_upto_region 1 with fail
  rw [← HW1.out]
  clear hw1
  go_upto_region 6 with (first
    | (at_builtin; refine Lib.wpList_append_run _ rfl (.tmp 18) (.tmp 19) 33 33 rfl _ _ rfl rfl _ w2 HRUN.out ?_)
    | ((go_at_call 16; (with_reducible refine HORD.out.mono ?_)); rintro e w3 ⟨q, D, rfl, hb3, ho3, hp3, hd3⟩; have HB3 := Lib.hid hb3; have HO3 := Lib.hid ho3; have HD := Lib.hid (And.intro hp3 hd3); have xl3 := (HXL2.out.below hb3).cell; have HB13 := Lib.hid (HB2.out.trans (hb3.mono HB2.out.size)); clear hb3 ho3 hp3 hd3)
    | ((go_at_call 15; (with_reducible refine (HREF.out _ HB13.out).mono ?_)); rintro e w4 ⟨hb4, h4⟩; have HB4 := Lib.hid hb4; have H4 := Lib.hid h4; obtain ⟨A4, c4, e4, O, rfl, hI4, hOl, hDO, hOm⟩ := ro_math HD.out.1 HD.out.2 h4; have HI4 := Lib.hid hI4; have HDO := Lib.hid hDO; have HOM := Lib.hid hOm; clear hb4 h4 hI4 hDO hOm H4))
  have HB14 := Lib.hid (HB13.out.trans (HB4.out.mono HB13.out.size))
  have hb45 : Below w4.heap.size w4 (w4.alloc (.cells #[.slice A4 O.length c4] 36)) := ((Gr.refl _).alloc _).below
  have hbo := Bx1.new w4 36 (.slice A4 O.length c4)
  obtain ⟨Bo, hBo⟩ : ∃ Bo, Bo = w4.heap.size := ⟨_, rfl⟩
  rw [← hBo] at hbo
  rw [← hBo]
  have hBo3 : w2.heap.size ≤ Bo := by rw [hBo]; exact Nat.le_trans HB3.out.size HB4.out.size
  generalize w4.alloc (.cells #[.slice A4 O.length c4] 36) = w5 at *
  have HB15 := Lib.hid (HB14.out.trans (hb45.mono HB14.out.size))
  have hy5 : OrdAt w2.heap.size w5 q D := (HO3.out.below HB4.out).below hb45
  have hi5 : IntsB w2.heap.size w5 A4 O := fun h0 => by
    obtain ⟨g, e, h1, h2, h3⟩ := HI4.out h0
    exact ⟨g, e, Nat.le_trans HB3.out.size h1, Nat.lt_of_lt_of_le h2 hb45.size, fun j hj => (hb45.cell (p := ⟨g, j, none⟩) h2).trans (h3 j hj)⟩
  have hown5 : OwnA w5 A l.length w1.heap.size w2.heap.size := ((HOWN.out.below HB3.out).below HB4.out).below hb45
  have HY5 := Lib.hid hy5
  have HI5 := Lib.hid hi5
  have HBO := Lib.hid (And.intro hbo hBo3)
  have HOWN5 := Lib.hid hown5
  clear hb45 hbo hBo hBo3 hy5 hi5 hown5 HOWN HO3 HI4 xl xm xl1 xl2 xl3
  go_wp2
  go_loopw [9] (fun i wr => ∃ k : Nat, k ≤ l.length ∧ i = .int .i64 k ∧ Hid (Below w1.heap.size w1 wr) ∧ Hid (wr.heap.size = w5.heap.size ∧ ∀ k, w2.heap.size ≤ k → wr.heap[k]? = w5.heap[k]?) ∧ Hid (OwnA wr A l.length w1.heap.size w2.heap.size)) (fun i _ => l.length - (RowKit.intOf i).toNat)
  case atStart => exact ⟨0, Nat.zero_le _, rfl, HB15.out, ⟨rfl, fun _ _ => rfl⟩, HOWN5.out⟩
  case round =>
    obtain ⟨k, hk, rfl, HB, HS, HOW⟩ := hrel
    have hkz : (k : Int) ≤ (l.length : Int) := by omega
    by_cases hlt : k < l.length
    · have hltz : (k : Int) < (l.length : Int) := by omega
      obtain ⟨g, rfl, hra, hg1, hg2⟩ := HOW.out (by omega)
      obtain ⟨x, hx⟩ := hra.el k hlt
      have hfr := hra.free (k * 4 + 3)
      have HRA := Lib.hid hra
      have HG := Lib.hid (And.intro hg1 hg2)
      have hx0 : wr.cell? ⟨g, 0 + k * 4 + 3, none⟩ = some (.int .i64 x) := by rw [Nat.zero_add]; exact hx
      clear hra
      go_wp2
      have hsz : ∀ a u, (wr.setCell a u).heap.size = wr.heap.size := fun a u => by simp [World.setCell]
      go_roundw
      case rel => exact ⟨k + 1, by omega, by go_num, HB.out.setCell (by show w1.heap.size ≤ g; exact HG.out.1) _, ⟨(hsz _ _).trans HS.out.1, fun k2 hk2 => (Below.heap_setCell _ _ _ _ (by show k2 ≠ g; have := HG.out.2; omega)).trans (HS.out.2 k2 hk2)⟩, fun _ => ⟨g, rfl, HRA.out.set k hlt _, HG.out⟩⟩
      case measure => simp [RowKit.intOf]; omega
    · have hkl : k = l.length := by omega
      subst hkl
      have hoe : Oe wr w l many A0 c0 A4 c4 q Bo w2.heap.size O D :=
        ⟨HXL.out.below HB.out, HXM.out.below HB.out, HXR.out.below HB.out, (HS.out.2 Bo HBO.out.2).trans HBO.out.1, HV.out.below HB.out, fun h0 => by
          obtain ⟨g, e, h1, h2, h3⟩ := (HI5.out.same (Nat.le_of_eq HS.out.1.symm) (fun k h1 _ => HS.out.2 k h1)) h0
          exact ⟨g, e, Nat.zero_le _, h2, h3⟩, HY5.out.same (fun k h1 _ => HS.out.2 k h1), HB1.out.trans (HB.out.mono HB1.out.size)⟩
      have HOE := Lib.hid hoe
      have HDL := Lib.hid (And.intro HDO.out (And.intro HOM.out hOl))
      clear hoe HXL HXM HXR HS HBO HV HI5 HY5 HOWN5 HOW HB HB15 HB14 HB13 HB4 HB3 HB2 HB1 HREF HORD HRUN HW1 HS1 HD HDO HOM hOl
      clear hqn
      go_upto_region 13 with fail
      refine (wpIn_wide (n := 9)).1 ?_
      refine loop_down (OvI w wr (.func (.func 24) #[] #[.pointer (some ⟨q, 0, none⟩)]) Bo) ovM ?hmu 2 ?h0 ?round
      case hmu =>
        rintro m a W ⟨turn, T, Ds, u, h1, rfl, _, _, h6, _⟩
        simp [ovM, ovF, h6.cell, RowKit.intOf]
        omega
      case h0 => exact OvI.mk' (turn := 0) (T := wr.heap.size) (Ds := []) rfl rfl rfl ((Gr.refl _).alloc _).below (Nat.le_refl _) (Bx1.new _ _ _) (Marks.nil _ _)
      case round =>
        rintro m a W ⟨turn, T, Ds, u, hm, rfl, hbe, hT, hxT, hmk⟩ K hK
        have HKK := Lib.hid (fun (j : Nat) tm ds W' (hj : j < m) (h : OvI w wr (.func (.func 24) #[] #[.pointer (some ⟨q, 0, none⟩)]) Bo j { tmps := tm, defers := ds } W') => hK j _ W' hj h)
        have hoW := HOE.out.below hbe
        have HOW := Lib.hid hoW
        have HBE := Lib.hid hbe
        have HXT := Lib.hid (And.intro hT hxT)
        have HMK := Lib.hid hmk
        have HM := Lib.hid hm
        have xT := hxT.cell
        have xTl := hxT.lt
        have y0 := hoW.hr.free
        simp only [ovF]
        by_cases hlt : turn < 2
        · have hltz : (turn : Int) < 2 := by omega
          clear hK hoW hbe hT hxT hmk hm
          gi_wp2
          have hb2 : Below W.heap.size W (W.alloc (.cells #[.int .i64 0] 3)) := ((Gr.refl _).alloc _).below
          obtain ⟨N, hN⟩ : ∃ N, N = W.heap.size := ⟨_, rfl⟩
          rw [← hN]
          have hN2 := Bx1.new W 3 (.int .i64 0)
          rw [← hN] at hN2
          have hs2 : (W.alloc (.cells #[.int .i64 0] 3)).heap.size = N + 1 := by rw [hN]; simp
          have hEW := HBE.out.size
          have hDn : D.length = O.length := by rw [HDL.out.1]; simp
          have HY := ord_yields2 (fun k => k = N) ((W.alloc (.cells #[.int .i64 0] 3)).heap.size + 2) w2.heap.size q D W HOW.out.hy (by have := HDL.out.2.2; omega) (fun k hk => .inr (by omega))
          have ht2 := (HXT.out.2).below hb2
          have hE2 := HBE.out.trans (hb2.mono HBE.out.size)
          have hM2 := HMK.out.below hb2
          generalize W.alloc (.cells #[.int .i64 0] 3) = W2 at *
          have HN := Lib.hid (show wr.heap.size ≤ N ∧ N < W2.heap.size ∧ T < N from ⟨by omega, by omega, by omega⟩)
          have HB2' := Lib.hid hb2
          have HDs := Lib.hid (fun D hD => hM2.lt (D := D) hD)
          have HE2 := Lib.hid hE2.size
          clear xT xTl y0 hN hs2 hEW
          refine range_list (gf := 24) rfl (enters_of Try.func24 (by kernel_rfl) rfl) HY hb2 (fun _ => rfl) (Ri wr T N turn Ds many) (fun c k X => c = .exit 4 ∧ Rx wr T N turn Ds many k X) ?hI ?hIx ⟨hN2, ht2, hE2, hM2, fun _ => .inl rfl⟩ (Ra w (.func (.func 24) #[] #[.pointer (some ⟨q, 0, none⟩)]) Bo T N D) ?hAx ?assign ?body ?done ?stop
          case hI => exact fun k X Y row hs hg hr => ⟨own_bx _ () X Y row hs.1 hg hr, own_bx _ () X Y row hs.2.1 hg hr, ownFrom_below (Nat.le_refl _) HE2.out () X Y row hs.2.2.1 hg hr, own_marks HDs.out () X Y row hs.2.2.2.1 hg hr, hs.2.2.2.2⟩
          case hIx => exact fun c k X Y row ⟨h0, hs⟩ hg hr => ⟨h0, own_bx _ () X Y row hs.1 hg hr, own_bx _ () X Y row hs.2.1 hg hr, ownFrom_below (Nat.le_refl _) HE2.out () X Y row hs.2.2.1 hg hr, own_marks HDs.out () X Y row hs.2.2.2.1 hg hr, hs.2.2.2.2⟩
          case hAx => exact fun k a' _ X Y row ⟨C, r, u, h1, h2, h3, h4⟩ hg hr => ⟨C, r, u, h1, h2, own_cells _ () X Y row h3 hg hr, h4⟩
          case assign =>
            intro l' k hk X K2 hi hK2
            have hr0 : D[k]? = some D[k] := List.getElem?_eq_getElem hk
            obtain ⟨r, hr⟩ : ∃ r, r = D[k] := ⟨_, rfl⟩
            rw [← hr] at hr0
            rw [← hr]
            have HK2 := Lib.hid hK2
            have HI := Lib.hid hi
            have HR0 := Lib.hid hr0
            clear hK2 hr hi hr0 HY
            obtain ⟨⟨bl, va, pa, ag⟩, pl⟩ := r
            simp only [ev]
            gi_wp2
            have hbX : Below X.heap.size X (X.alloc (.cells #[.int .i64 bl, .int .i64 va, .int .i64 pa, .int .i64 ag] 23)) := ((Gr.refl _).alloc _).below
            have hC := heap_alloc_new X (.cells #[.int .i64 bl, .int .i64 va, .int .i64 pa, .int .i64 ag] 23)
            obtain ⟨i1, i2, i3, i4, i5⟩ := HI.out
            exact HK2.out _ _ ⟨hbX.size, fun k o hk ho _ => (hbX.block k (Array.getElem?_eq_some_iff.1 ho).1).trans ho⟩ (Kc.of_below hbX) ⟨i1.below hbX, i2.below hbX, i3.trans (hbX.mono i3.size), i4.below hbX, i5⟩ (Ra.mk' (C := X.heap.size) HR0.out rfl hC i1.lt)
          case body =>
            rintro l' k hk a' X hl ⟨i1, i2, i3, i4, i5⟩ ⟨C, r, u2, hr, rfl, hC, hNC⟩
            have hoX := HOE.out.below i3
            have hkO : k < O.length := by omega
            have hkz : (k : Int) < (O.length : Int) := by omega
            have hOz : (O.length : Int) ≤ 30 := by have := HDL.out.2.2; omega
            have hrk : r = gk l O[k] := by
              have := hr
              rw [HDL.out.1, List.getElem?_map, List.getElem?_eq_getElem hkO] at this
              simpa using this.symm
            have hj : O[k] < l.length := HDL.out.2.1 _ (List.getElem_mem _)
            obtain ⟨j, hjj⟩ : ∃ j, j = O[k] := ⟨_, rfl⟩
            rw [← hjj] at hrk hj
            rw [gk_at hj] at hrk
            obtain ⟨g4, rfl, -, hg4, hc4⟩ := hoX.hi (by omega)
            have xk := hc4 k hkO
            rw [← hjj] at xk
            have xk0 : X.cell? ⟨g4, 0 + k, none⟩ = some (.int .i64 (j : Int)) := by rw [Nat.zero_add]; exact xk
            obtain ⟨A', c', e', hcs⟩ := hoX.hc
            simp only [Value.slice.injEq] at e'
            obtain ⟨rfl, -, rfl⟩ := e'
            obtain ⟨g0, o0, rfl, hg0, hcd⟩ := hcs (by omega)
            have hy := hcd j hj
            obtain ⟨y, hyy⟩ : ∃ y, y = l[j] := ⟨_, rfl⟩
            rw [← hyy] at hy hrk
            subst hrk
            obtain ⟨bl, va, pa, ag⟩ := y
            have hne := gw_ne X
            have d0 := fun z : Gw X => z.cell hy.c0
            have d1 := fun z : Gw X => z.cell hy.c1
            have d2 := fun z : Gw X => z.cell hy.c2
            have d3 := fun z : Gw X => z.cell hy.c3
            have e0 := fun z : Gw X => z.cell (g := C) (o := 0) (v := .int .i64 bl) (by rw [cell_of_row X C 0 _ 23 (0, 0) hC]; rfl)
            have e1 := fun z : Gw X => z.cell (g := C) (o := 1) (v := .int .i64 va) (by rw [cell_of_row X C 1 _ 23 (0, 0) hC]; rfl)
            have e2 := fun z : Gw X => z.cell (g := C) (o := 2) (v := .int .i64 pa) (by rw [cell_of_row X C 2 _ 23 (0, 0) hC]; rfl)
            have e3 := fun z : Gw X => z.cell (g := C) (o := 3) (v := .int .i64 ag) (by rw [cell_of_row X C 3 _ 23 (0, 0) hC]; rfl)
            have n0 := fun z : Gw X => z.cell i1.cell
            have l0 := fun z : Gw X => z.cell hoX.hl.cell
            have o1 := fun z : Gw X => z.cell hoX.ho.cell
            have xk1 := fun z : Gw X => z.cell xk
            have hjz : (j : Int) < (l.length : Int) := by omega
            have HI := Lib.hid (show Ri wr T N turn Ds many k X from ⟨i1, i2, i3, i4, i5⟩)
            clear hr hC hcs hcd hy hyy hc4 xk xk0 hjj i1 i2 i3 i4 i5 hoX HY hb2 hN2 ht2 hE2 hM2
            have g1 : decide ((k : Int) ≥ (O.length : Int)) = false := decide_eq_false (by omega)
            have g2 : decide ((O.length : Int) ≤ (k : Int)) = false := decide_eq_false (by omega)
            have g3 : decide (O.length ≤ k) = false := decide_eq_false (by omega)
            have g4 : ¬ O.length ≤ k := by omega
            simp only [ovG]
            gi_wp2
            refine wpIn_region_gw_round (by kernel_rfl) (by kernel_rfl) (by kernel_rfl) ?_
            repeat (gi_big_quiet_step ((fail)))
            refine wpQuietIn_nil ?_
            rintro X2 ⟨⟨_, hgX⟩, rfl⟩
            obtain ⟨i1, i2, i3, i4, i5⟩ := HI.out
            have hR2 : Ri wr T N turn Ds many k X2 := ⟨i1.below hgX.below, i2.below hgX.below, i3.trans (hgX.below.mono i3.size), i4.below hgX.below, i5⟩
            have hPU := ri_put hR2 HN.out.1 HN.out.2.2
            have hKF := ri_kf (B := W2.heap.size) hgX.below HN.out.2.1 (.int .i64 ((k : Int) + 1))
            have HPU := Lib.hid hPU
            have HKF := Lib.hid hKF
            have HR2 := Lib.hid hR2
            have hoX2 := HOE.out.below hR2.2.2.1
            have n2 := hR2.1.cell
            have n3 := hR2.1.free
            have t2 := hR2.2.1.cell
            have m2 := hoX2.hm.cell
            have hNT : N ≠ T := by have := HN.out.2.2; omega
            have hTN : T ≠ N := by omega
            have hwr1 := HOE.out.hm.lt
            have hNw : N ≠ w.heap.size + 1 := by have := HN.out.1; omega
            have hNw2 : w.heap.size + 1 ≠ N := by omega
            clear i1 i2 i3 i4 i5 hPU hKF hR2 hoX2 hgX d0 d1 d2 d3 e0 e1 e2 e3 n0 l0 o1 xk1 hne HI
            by_cases ht : turn = 0
            · have ht0 : (turn : Int) = 0 := by omega
              rw [ht0] at t2
              have HT := Lib.hid ht
              clear ht
              by_cases hmn : many ≤ (k : Int) + 1
              · have hmn2 : decide (many ≤ (k : Int) + 1) = true := decide_eq_true hmn
                gi_wp2
                refine ⟨HKF.out.1, rfl, HPU.out.1, HPU.out.2.1, HPU.out.2.2.1, HPU.out.2.2.2, HT.out, by omega, by omega, ?_⟩
                have := HR2.out.2.2.2.2 HT.out
                omega
              · have hmn2 : decide (many ≤ (k : Int) + 1) = false := decide_eq_false hmn
                gi_wp2
                exact ⟨HKF.out.1, HKF.out.2, HPU.out.1, HPU.out.2.1, HPU.out.2.2.1, HPU.out.2.2.2, fun _ => .inr (by omega)⟩
            · have ht1 : (turn : Int) = 1 := by omega
              rw [ht1] at t2
              gi_wp2
              exact ⟨HKF.out.1, HKF.out.2, HPU.out.1, HPU.out.2.1, HPU.out.2.2.1, HPU.out.2.2.2, fun h => absurd h ht⟩
          case done =>
            rintro D7 W7 hD7 ⟨i1, i2, i3, i4, i5⟩ hd7
            rw [hDn] at i1 i5
            have hM7 := i4.cons (n1 := W2.heap.size) HE2.out hD7 HDs.out hd7
            have hO7 := HOE.out.below i3
            have n7 := i1.cell
            have t7 := i2.cell
            have o7 := hO7.ho.cell
            have m7 := hO7.hm.cell
            have HM7 := Lib.hid hM7
            have HB7 := Lib.hid i3
            have hOz : (O.length : Int) ≤ 30 := by have := HDL.out.2.2; omega
            clear i1 i2 i3 i4 hO7 hM7 hd7 hD7 HY hb2 hN2 ht2 hE2 hM2
            by_cases ht : turn = 0
            · have ht0 : (turn : Int) = 0 := by omega
              rw [ht0] at t7
              have hmin : min (O.length : Int) (max 1 many) = (O.length : Int) := by have := i5 ht; omega
              gi_wp2
              obtain ⟨g1, g2, g3, g4⟩ := ov_next (turn := turn) HB7.out HM7.out 1 (by omega)
              exact HKK.out (m - 1) _ _ _ (by have := HM.out; omega) (OvI.mk' (turn := turn + 1) (T := W7.heap.size) (Ds := D7 :: Ds) (by have := HM.out; omega) rfl rfl g1 g2 g3 g4)
            · have ht1 : (turn : Int) = 1 := by omega
              rw [ht1] at t7
              gi_wp2
              obtain ⟨g1, g2, g3, g4⟩ := ov_next (turn := turn) HB7.out HM7.out 2 (by omega)
              exact HKK.out (m - 1) _ _ _ (by have := HM.out; omega) (OvI.mk' (turn := turn + 1) (T := W7.heap.size) (Ds := D7 :: Ds) (by have := HM.out; omega) rfl rfl g1 g2 g3 g4)
          case stop =>
            rintro D7 cc k W7 hD7 hk ⟨rfl, i1, i2, i3, i4, ht, h1, h2, h3⟩ hd7
            rw [hDn] at hk
            have hM7 := i4.cons (n1 := W2.heap.size) HE2.out hD7 HDs.out hd7
            have hO7 := HOE.out.below i3
            have n7 := i1.cell
            have t7 := i2.cell
            have o7 := hO7.ho.cell
            have m7 := hO7.hm.cell
            have HM7 := Lib.hid hM7
            have HB7 := Lib.hid i3
            have hOz : (O.length : Int) ≤ 30 := by have := HDL.out.2.2; omega
            clear i1 i2 i3 i4 hO7 hM7 hd7 hD7 HY hb2 hN2 ht2 hE2 hM2
            have ht0 : (turn : Int) = 0 := by omega
            rw [ht0] at t7
            have hmin : min (O.length : Int) (max 1 many) = (k : Int) := by omega
            gi_wp2
            obtain ⟨g1, g2, g3, g4⟩ := ov_next (turn := turn) HB7.out HM7.out 1 (by omega)
            exact HKK.out (m - 1) _ _ _ (by have := HM.out; omega) (OvI.mk' (turn := turn + 1) (T := W7.heap.size) (Ds := D7 :: Ds) (by have := HM.out; omega) rfl rfl g1 g2 g3 g4)
        · have htz : ¬ (turn : Int) < 2 := by omega
          clear hK hoW hbe hT hxT hmk hm
          gi_wp2
          go_wp2_with ((go_at_call 13; (with_reducible refine (HWK.out _).mono ?_)); rintro e W2 ⟨rfl, hb2⟩; have HW2 := Lib.hid hb2; have x2 := (HOW.out.hr.below hb2).cell; have y2 := (HOW.out.hr.below hb2).free; clear hb2)
          exact or_end (Ds := Ds) (((HMK.out.below HW2.out)).from (HOE.out.hb.size)) (HOW.out.hb.trans (HW2.out.mono HOW.out.hb.size)) (HOW.out.hr.below HW2.out) (by omega) rfl
end Go.Proofs.Ytfcddkehodceaaa
