/- The contract of Decode. Conditions stand in each theorem. -/
import Derived.Test.YtajlddgemkkcdaaGreatPD
import Derived.Test.YtajlddgemkkcdaaGreatUE
import Derived.Defers
import Derived.Recover
import Derived.Laws.Pointers
import Derived.WalkLawsBesides
import Derived.Deep.RegionLaw
namespace Go.Proofs.YtajlddgemkkcdaaGreat
open Go.RowKit
set_option linter.unusedVariables false
set_option maxHeartbeats 4000000
set_option maxRecDepth 100000
attribute [local go_sem ↓ 100000] builtin_appX
theorem entry_no (g : Nat) (vd : Value) (l : List UInt8) (a : Nat) (w : World) (h : Rd w g vd l a) (hf : l.length < a + 8) :
    Calls Tryz.prog 19 #[.pointer (some ⟨g, 0, none⟩)] w fun e w' => Raised e ∧ Chg (· = g) w w' := by
  have hgl := h.lt
  have HRD := Lib.hid (read_two_no g vd l a w (w.alloc (.cells #[.int .i64 0, .int .i64 0] 37)) (w.heap.size + 1) (by simp) h (alloc_below w _) hf)
  clear h hf
  go_enter Tryz.func19, Tryz.ntmps19
  go_wp2_with ((go_at_call 18; with_reducible refine HRD.out.mono ?_); rintro e w1 ⟨hR, hch⟩; unfold Raised at hR; subst hR; (obtain ⟨-, hcw⟩ := ent_box hgl hch); have HCW := Lib.hid hcw; clear hch hcw)
  exact ⟨rfl, rfl, HCW.out⟩
theorem read_one (g : Nat) (vd : Value) (l : List UInt8) (w W : World) (n : Nat) (hn : n = W.heap.size) (h : Rd W g vd l 0) (hf : 4 ≤ l.length) :
    Calls Tryz.prog 18 #[.pointer (some ⟨g, 0, none⟩), .slice (some ⟨n, 0, none⟩) 1 1] (W.alloc (.cells #[.int .i64 4] 3)) fun e w' =>
      (∃ b o c, e = .returned (.slice (some ⟨b, o, none⟩) 1 c) ∧ 1 ≤ c ∧ w'.cell? ⟨b, o, none⟩ = some (.int .u64 (g4 l 0 : Int))) ∧ Rd w' g vd l 4 ∧ Chg (· = g) (W.alloc (.cells #[.int .i64 4] 3)) w' := by
  subst hn
  have hs : Ints .i64 (W.alloc (.cells #[.int .i64 4] 3)) (.slice (some ⟨W.heap.size, 0, none⟩) 1 1) [4] := by
    refine ⟨_, 1, rfl, Nat.le_refl _, fun _ => ⟨W.heap.size, 0, rfl, by simp, fun j hj => ?_⟩⟩
    rw [Nat.zero_add, cell_of_row _ W.heap.size j _ 3 (0, 0) (heap_alloc_new W _)]
    match j, hj with
    | 0, _ => rfl
  refine (read_ok g vd _ l 0 [4] _ (h.below (alloc_below W _)) hs (fun b hb => by cases hb; simp) ⟨by omega, by omega, by show 0 + 4 ≤ _; omega, trivial⟩ (by simp) (by show 0 + 4 ≤ _; omega)).mono ?_
  rintro e w' ⟨⟨A, c, rfl, hi⟩, hrd, hch⟩
  have hv : vals l 0 [4] = [(g4 l 0 : Int)] := rfl
  rw [hv] at hi ⊢
  obtain ⟨A', c', he, hc, hr⟩ := hi
  cases he
  obtain ⟨b, o, rfl, -, hcell⟩ := hr (by simp)
  exact ⟨⟨b, o, c, rfl, hc, hcell 0 (by simp)⟩, hrd, hch⟩
theorem assert_some (w : World) : (Instr.typeAssert (.iface 25 (.int .i64 6)) 20 25 true).run Tryz.prog w = .ok (.tuple #[.int .i64 6, .bool true]) w := by kernel_rfl
theorem assert_none (w : World) : (Instr.typeAssert .nilIface 20 25 true).run Tryz.prog w = .ok (.tuple #[.int .i64 0, .bool false]) w := by kernel_rfl
theorem box_other (w : World) (g j k : Nat) (v : Value) (h : k ≠ g) : (w.setCell ⟨g, j, none⟩ v).heap[k]? = w.heap[k]? := Below.heap_setCell w ⟨g, j, none⟩ v k h
theorem catch_panicking (p q : Nat) (u x : Value) (older : List PanicEntry) (w : World) (hp : w.heap[p]? = some (.cells #[u] 24 (0, 0))) (hq : w.heap[q]? = some (.cells #[x] 25 (0, 0))) (hpq : p < q) :
    CallsD Tryz.prog 16 #[.pointer (some ⟨p, 0, none⟩), .pointer (some ⟨q, 0, none⟩)] (.panicking ({ v := .iface 25 (.int .i64 6), recovered := false } :: older)) w fun e u' w' =>
      e = .returned (.tuple #[]) ∧ u' = .panicking ({ v := .iface 25 (.int .i64 6), recovered := true } :: older) ∧ Chg (fun b => b = p ∨ b = q) w w' ∧
        w'.heap[p]? = some (.cells #[.slice none 0 0] 24 (0, 0)) ∧ w'.heap[q]? = some (.cells #[.int .i64 6] 25 (0, 0)) := by
  refine callsD_of_wpS Tryz.func16 rfl fun c₀ cs hu => ?_
  apply wpS_seq
  apply wpS_region
  simp [wpOpsS, go_sem, recoverD, hu, Tryz.ntmps16, Exit.thenS, assert_some]
  have hc0 := fun j => cell_of_row w p j _ _ _ hp
  have hf0 := fun j => frozen_of_row w p j _ _ hp
  have hc1 := fun j => cell_of_row w q j _ _ _ hq
  have hf1 := fun j => frozen_of_row w q j _ _ hq
  have Hp := Lib.hid hp; have Hq := Lib.hid hq; clear hp hq
  refine wpS_of_wp ?_
  change Code.wp _ _ _ { tmps := #[.pointer (some ⟨p, 0, none⟩), .pointer (some ⟨q, 0, none⟩), .int .i64 6, .bool true, .tuple #[.int .i64 6, .bool true], .iface 25 (.int .i64 6), .tuple #[.int .i64 6, .bool true], .int .i64 6, .bool true, undef, undef], defers := [] } _
  go_wp2
  have r0 := box_row w p 0 _ _ (.slice none 0 0) Hp.out
  have q5 : (w.setCell ⟨p, 0, none⟩ (.slice none 0 0)).heap[q]? = some (.cells #[x] 25 (0, 0)) := by
    rw [box_other _ _ _ _ _ (by omega)]
    exact Hq.out
  have q6 := box_row _ q 0 _ _ (.int .i64 6) q5
  have fin1 : Chg (fun b => b = p ∨ b = q) w ((w.setCell ⟨p, 0, none⟩ (.slice none 0 0)).setCell ⟨q, 0, none⟩ (.int .i64 6)) := ((Chg.refl _ w).setCell (.inl rfl) _).setCell (.inr rfl) _
  have fin2 : ((w.setCell ⟨p, 0, none⟩ (.slice none 0 0)).setCell ⟨q, 0, none⟩ (.int .i64 6)).heap[p]? = _ := (box_other _ _ _ _ _ (by omega)).trans r0
  clear r0 q5
  generalize (w.setCell ⟨p, 0, none⟩ (.slice none 0 0)).setCell ⟨q, 0, none⟩ (.int .i64 6) = W at *
  exact ⟨rfl, _, rfl, _, by simp [results, Tryz.results16, go_sem], rfl, rfl, fin1, fin2, q6⟩
theorem catch_idle (p q : Nat) (w : World) :
    CallsD Tryz.prog 16 #[.pointer (some ⟨p, 0, none⟩), .pointer (some ⟨q, 0, none⟩)] .returning w fun e u' w' => e = .returned (.tuple #[]) ∧ u' = .returning ∧ w' = w := by
  refine callsD_of_wpS Tryz.func16 rfl fun c₀ cs hu => ?_
  apply wpS_seq
  apply wpS_region
  simp [wpOpsS, go_sem, recoverD, hu, Tryz.ntmps16, Exit.thenS, assert_none]
  refine wpS_of_wp ?_
  change Code.wp _ _ _ { tmps := #[.pointer (some ⟨p, 0, none⟩), .pointer (some ⟨q, 0, none⟩), .int .i64 0, .bool false, .tuple #[.int .i64 0, .bool false], .nilIface, .tuple #[.int .i64 0, .bool false], .int .i64 0, .bool false, undef, undef], defers := [] } _
  go_wp2
  cases c₀
  simp_all [bodyPostS, results, Tryz.results16]
theorem re_kept2 {wr w1 : World} {base h k sz : Nat} {v : Value} {xs : List Value} {e : TypeId} (HO : wr.ownsRow base e sz v k xs) (hC : Chg (· = h) wr w1) (hh : h < base) : w1.ownsRow base e sz v k xs :=
  HO.kept (chg_grown hC) (.inr (fun e' => by have := (HO.lt h e').1; omega))
/-- The state of Decode behind k entries: the boxes of its results, the reader, the entries. -/
structure DS (w W : World) (g : Nat) (vd : Value) (l : List UInt8) (k : Nat) (A : Option Addr) (c base a : Nat) : Prop where
  bx : W.heap[w.heap.size]? = some (.cells #[.slice A k c] 24 (0, 0))
  er : W.heap[w.heap.size + 1]? = some (.cells #[.int .i64 0] 25 (0, 0))
  rd : Rd W g vd l a
  own : W.ownsRow base 37 2 (.slice A k c) (ents l k).length (en2 (ents l k))
  bel : Below w.heap.size w W
  ng : w.heap.size + 1 < g
  gb : g < base
  vn : ∀ b, vd.ownBlock = some b → w.heap.size + 1 < b ∧ b < base
  bs : base ≤ W.heap.size
section
variable {w W W' : World} {g : Nat} {vd : Value} {l : List UInt8} {k : Nat} {A : Option Addr} {c base a a' : Nat}
theorem DS.call (h : DS w W g vd l k A c base a) (hr : Rd W' g vd l a') (hc : Chg (· = g) W W') : DS w W' g vd l k A c base a' := by
  have e : ∀ k (o : Obj), W.heap[k]? = some o → k ≠ g → W'.heap[k]? = some o := fun k o hk hne => (hc.block k (Array.getElem?_eq_some_iff.1 hk).1 hne).trans hk
  have hng := h.ng
  refine ⟨e _ _ h.bx (by omega), e _ _ h.er (by omega), hr, re_kept2 h.own hc h.gb, h.bel.trans (hc.below ?_ ?_), h.ng, h.gb, h.vn, Nat.le_trans h.bs hc.size⟩
  · exact Nat.le_of_lt (Array.getElem?_eq_some_iff.1 h.bx).1
  · rintro i rfl; omega
theorem DS.below (h : DS w W g vd l k A c base a) (hb : Below W.heap.size W W') : DS w W' g vd l k A c base a := h.call (h.rd.below hb) (Chg.of_below hb)
end
theorem ds_round {w w1 : World} {g : Nat} {vd : Value} {l : List UInt8} {k : Nat} {A : Option Addr} {c base a : Nat} (h : DS w w1 g vd l k A c base a) (hk : k ≤ 8192) :
    ∃ B d W2, (appX #[24, 24] 24 #[.slice A k c, .slice (some ⟨w1.heap.size, 0, none⟩) 1 1]).run Tryz.prog (w1.alloc (.cells #[.int .i64 (entAt l (4 + 8 * k)).1, .int .i64 (entAt l (4 + 8 * k)).2] 37)) = .ok (.value (.slice B (k + 1) d)) W2 ∧
      W2.cell? ⟨w.heap.size, 0, none⟩ = some (.slice A k c) ∧ W2.frozen? ⟨w.heap.size, 0, none⟩ = false ∧ DS w (W2.setCell ⟨w.heap.size, 0, none⟩ (.slice B (k + 1) d)) g vd l (k + 1) B d base a := by
  have h1 := h.below (alloc_below w1 (.cells #[.int .i64 (entAt l (4 + 8 * k)).1, .int .i64 (entAt l (4 + 8 * k)).2] 37))
  have hx : Ent (w1.alloc (.cells #[.int .i64 (entAt l (4 + 8 * k)).1, .int .i64 (entAt l (4 + 8 * k)).2] 37)) (.slice (some ⟨w1.heap.size, 0, none⟩) 1 1) [entAt l (4 + 8 * k)] := by
    refine ⟨_, 1, rfl, Nat.le_refl _, fun _ => ⟨w1.heap.size, 0, rfl, by simp, fun j hj => ?_⟩⟩
    obtain rfl : j = 0 := by simpa using hj
    have e := heap_alloc_new w1 (.cells #[.int .i64 (entAt l (4 + 8 * k)).1, .int .i64 (entAt l (4 + 8 * k)).2] 37)
    exact ⟨cell_of_row _ w1.heap.size 0 _ _ _ e, cell_of_row _ w1.heap.size 1 _ _ _ e⟩
  obtain ⟨B, d, W2, hrun, hown, hgr⟩ := app_ent (l := [entAt l (4 + 8 * k)]) h1.own hx (by rw [ents_length]; simp; omega) h1.bs
  simp only [ents_length, List.length_append, List.length_cons, List.length_nil, Nat.zero_add] at hrun hown
  rw [← ents_succ] at hown
  have hown2 : W2.ownsRow base 37 2 (.slice B (k + 1) d) (ents l (k + 1)).length (en2 (ents l (k + 1))) := by rw [ents_length]; exact hown
  have hrow : ∀ b, (Value.slice A k c).ownBlock = some b → base ≤ b := fun b hb => (h1.own.lt b hb).1
  have hlt : ∀ q, q < base → W2.heap[q]? = (w1.alloc (.cells #[.int .i64 (entAt l (4 + 8 * k)).1, .int .i64 (entAt l (4 + 8 * k)).2] 37)).heap[q]? := fun q hq => hgr.block q (Nat.lt_of_lt_of_le hq h1.bs) (fun e => by have := hrow q e.symm; omega)
  have hng := h.ng
  have hgb := h.gb
  have b0 := (hlt w.heap.size (by omega)).trans h1.bx
  have b1 := (hlt (w.heap.size + 1) (by omega)).trans h1.er
  have hrd2 : Rd W2 g vd l a := h1.rd.grown hgr hgb (fun b hb => (h.vn b hb).2) hrow
  have hbel : Below w.heap.size w W2 := h1.bel.grown hgr (by have := h1.bs; omega) (fun b hb => by have := hrow b hb; omega)
  refine ⟨B, d, W2, hrun, cell_of_row _ _ 0 _ _ _ b0, frozen_of_row _ _ 0 _ _ b0, box_row _ _ 0 _ _ _ b0, (box_other _ _ _ _ _ (by omega)).trans b1, hrd2.box (by omega) (fun b hb => by have := h.vn b hb; omega), ?_, hbel.setCell (p := ⟨w.heap.size, 0, none⟩) (Nat.le_refl _) _, h.ng, h.gb, h.vn, by have := hgr.size; have := h1.bs; simp [World.setCell]; omega⟩
  have hgs : W2.grownBy (W2.setCell ⟨w.heap.size, 0, none⟩ (.slice B (k + 1) d)) (some w.heap.size) := ⟨rfl, rfl, rfl, by simp [World.setCell], fun q hq hne => box_other _ _ _ _ _ (fun e => hne (by rw [e]))⟩
  exact hown2.kept hgs (.inr (fun e => by have := (hown2.lt _ e).1; omega))
theorem step_appX {ops : Array Oper} {o : Oper} {a : Act} {W : World} {K : Act → World → Prop} {Q : Exit → Act → World → Prop} {E : Prop} (hgd : o.guard = none) (s x : Operand) (t : TypeId)
    (ho : o.op = .call { callee := .builtin .append, args := #[s, x], argTypes := #[t, t] }) (v xv v' : Value) (w' : World) (hs : a.eval s = v) (hx : a.eval x = xv)
    (hr : (appX #[t, t] o.type #[v, xv]).run Tryz.prog W = .ok (.value v') w') (h : K (a.put o.dst v') w') :
    if Region.wanted o (yielded ops a.tmps) = true then Oper.wp Tryz.prog o a W K Q else E := by
  have hw : Region.wanted o (yielded ops a.tmps) = true := by simp [Region.wanted, hgd]
  rw [if_pos hw]
  unfold Oper.wp execOp
  simp only [ho, resolve, invoke, builtin_appX, Sem.run_bind, Sem.run_pure, Result.andThen_ok, List.map_toArray, List.map_cons, List.map_nil, hs, hx, hr]
  exact h
theorem step_call {ops : Array Oper} {o : Oper} {a : Act} {W : World} {K : Act → World → Prop} {Q : Exit → Act → World → Prop} {E : Prop} {f : FuncId} {args : Array Value} {R : Ending → World → Prop} (hgd : o.guard = none)
    (xs : Array Operand) (ts : Array TypeId) (ho : o.op = .call { callee := .value (.func f), args := xs, argTypes := ts }) (hc : Calls Tryz.prog f args W R) (hrun : (execOp a.eval o).run Tryz.prog W = .ok (.enter f args) W) (h : ∀ e w', R e w' → ∃ v, e = .returned v ∧ K (a.put o.dst v) w') :
    if Region.wanted o (yielded ops a.tmps) = true then Oper.wp Tryz.prog o a W K Q else E := by
  have hw : Region.wanted o (yielded ops a.tmps) = true := by simp [Region.wanted, hgd]
  rw [if_pos hw]
  unfold Oper.wp
  rw [hrun, Oper.upon_enter]
  refine hc.mono fun e w' hr => ?_
  obtain ⟨v, rfl, hk⟩ := h e w' hr
  exact hk
/-- What Decode leaves. -/
def DecPost (w : World) (l : List UInt8) (e : Ending) (w' : World) : Prop := (∃ A c, e = .returned (.tuple #[.slice A (decL l).length c, .int .i64 (decE l)]) ∧ Ent w' (.slice A (decL l).length c) (decL l)) ∧ Below w.heap.size w w'
theorem dec_leaves {W : World} {n : Nat} {x y : Value} {tmps : Array Value} {R : Ending → World → Prop} {u : FrameMode} (hx : W.heap[n]? = some (.cells #[x] 24 (0, 0))) (hy : W.heap[n + 1]? = some (.cells #[y] 25 (0, 0)))
    (hu : u = .returning) (t2 : tmps[2]? = some (.pointer (some ⟨n, 0, none⟩))) (t3 : tmps[3]? = some (.pointer (some ⟨n + 1, 0, none⟩))) (hR : R (.returned (.tuple #[x, y])) W) : Leaves Tryz.prog Tryz.f6 tmps R [] u W := by
  subst hu
  have c0 : W.cell? ⟨n, 0, none⟩ = some x := cell_of_row W n 0 _ _ _ hx
  have c1 : W.cell? ⟨n + 1, 0, none⟩ = some y := cell_of_row W (n + 1) 0 _ _ _ hy
  clear hx hy
  simp [Leaves, results, Tryz.results6, go_sem, t2, t3, c0, c1]
  exact hR
theorem boxes2 (w : World) (o1 o2 : Obj) : ((w.alloc o1).alloc o2).heap[w.heap.size]? = some o1 ∧ ((w.alloc o1).alloc o2).heap[w.heap.size + 1]? = some o2 ∧ Below w.heap.size w ((w.alloc o1).alloc o2) := by
  have h1 := heap_alloc_new (w.alloc o1) o2
  rw [World.size_alloc] at h1
  exact ⟨(Below.heap_alloc _ _ _ (by simp)).trans (heap_alloc_new w o1), h1, ((Below.refl _ _).alloc (Nat.le_refl _) _).alloc (by simp) _⟩
/-- What Decode leaves where it fails. -/
theorem dec_bad {w W W' : World} {l : List UInt8} (hb : Below w.heap.size w W) (hC : Chg (fun b => b = w.heap.size ∨ b = w.heap.size + 1) W W') (hc : capF l.length ≠ 0) (hg : ¬ Good l) : DecPost w l (.returned (.tuple #[.slice none 0 0, .int .i64 6])) W' := by
  have e1 := decE_bad hc hg
  have e2 : decL l = [] := decL_bad (by rw [e1]; decide)
  refine ⟨⟨none, 0, by rw [e1, e2]; rfl, by rw [e2]; exact ⟨none, 0, rfl, Nat.le_refl _, fun h => absurd h (by simp)⟩⟩, hb.trans (hC.below hb.size ?_)⟩
  rintro i (rfl | rfl) <;> omega
theorem DS.boxes {w W W' : World} {g : Nat} {vd : Value} {l : List UInt8} {k : Nat} {A : Option Addr} {c base a : Nat} (h : DS w W g vd l k A c base a) (hc : Chg (· = g) W W') :
    W'.heap[w.heap.size]? = some (.cells #[.slice A k c] 24 (0, 0)) ∧ W'.heap[w.heap.size + 1]? = some (.cells #[.int .i64 0] 25 (0, 0)) ∧ Below w.heap.size w W' := by
  have e : ∀ k (o : Obj), W.heap[k]? = some o → k ≠ g → W'.heap[k]? = some o := fun k o hk hne => (hc.block k (Array.getElem?_eq_some_iff.1 hk).1 hne).trans hk
  have hng := h.ng
  exact ⟨e _ _ h.bx (by omega), e _ _ h.er (by omega), h.bel.trans (hc.below h.bel.size (fun i hi => by omega))⟩
theorem zeros_yes {w : World} {g : Nat} {vd : Value} {l : List UInt8} {a : Nat} (h : Rd w g vd l a) (K : Int) (hK : K = (l.length : Int) - (a : Int)) (hz : l.drop a = List.replicate (l.length - a) 0) :
    Calls Tryz.prog 21 #[.pointer (some ⟨g, 0, none⟩), .int .i64 K] w fun e w' => e = .returned (.int .i64 0) ∧ Rd w' g vd l l.length ∧ Chg (· = g) w w' := by
  have hle := h.le
  obtain rfl : K = ((l.length - a : Nat) : Int) := by omega
  refine (Zeros_ok g vd l a (l.length - a) w h (by omega) ?_).mono ?_
  · rw [List.take_of_length_le (by rw [List.length_drop]; omega)]; exact hz
  · rintro e W' ⟨rfl, hr, hc⟩
    rw [show a + (l.length - a) = l.length by omega] at hr
    exact ⟨rfl, hr, hc⟩
theorem zeros_no {w : World} {g : Nat} {vd : Value} {l : List UInt8} {a : Nat} (h : Rd w g vd l a) (K : Int) (hK : K = (l.length : Int) - (a : Int)) (hz : l.drop a ≠ List.replicate (l.length - a) 0) :
    Calls Tryz.prog 21 #[.pointer (some ⟨g, 0, none⟩), .int .i64 K] w fun e w' => e = .returned (.int .i64 6) ∧ Chg (· = g) w w' := by
  have hle := h.le
  obtain rfl : K = ((l.length - a : Nat) : Int) := by omega
  have et : (l.drop a).take (l.length - a) = l.drop a := List.take_of_length_le (by rw [List.length_drop]; omega)
  refine (Zeros_format g vd l a (l.length - a) w h (by omega) (fun hall => hz ?_)).mono ?_
  · rw [et] at hall
    refine List.ext_getElem (by simp) fun j h1 h2 => ?_
    rw [hall j h1]; simp
  · rintro e W' ⟨rfl, hr, hc⟩
    exact ⟨rfl, hc⟩
theorem dec_good {w W : World} {g : Nat} {vd : Value} {l : List UInt8} {A : Option Addr} {c base a : Nat} (h : DS w W g vd l (g4 l 0) A c base a) (hc : capF l.length ≠ 0) (hg : Good l) :
    DecPost w l (.returned (.tuple #[.slice A (g4 l 0) c, .int .i64 0])) ((W.setCell ⟨w.heap.size, 0, none⟩ (.slice A (g4 l 0) c)).setCell ⟨w.heap.size + 1, 0, none⟩ (.int .i64 0)) := by
  have e1 := decE_ok hc hg
  have e2 := decL_ok e1
  have hbel : Below w.heap.size w ((W.setCell ⟨w.heap.size, 0, none⟩ (.slice A (g4 l 0) c)).setCell ⟨w.heap.size + 1, 0, none⟩ (.int .i64 0)) := (h.bel.setCell (p := ⟨w.heap.size, 0, none⟩) (Nat.le_refl _) _).setCell (p := ⟨w.heap.size + 1, 0, none⟩) (Nat.le_succ _) _
  have hng := h.ng
  have hgb := h.gb
  have ho : ∀ q (U : World) (u : Value), q < base → U.ownsRow base 37 2 (.slice A (g4 l 0) c) (ents l (g4 l 0)).length (en2 (ents l (g4 l 0))) → (U.setCell ⟨q, 0, none⟩ u).ownsRow base 37 2 (.slice A (g4 l 0) c) (ents l (g4 l 0)).length (en2 (ents l (g4 l 0))) := fun q U u hq ho => by
    have hgs : U.grownBy (U.setCell ⟨q, 0, none⟩ u) (some q) := ⟨rfl, rfl, rfl, by simp [World.setCell], fun t ht hne => box_other _ _ _ _ _ (fun e => hne (by rw [e]))⟩
    exact ho.kept hgs (.inr (fun e => by have := (ho.lt _ e).1; omega))
  have o1 := ho (w.heap.size + 1) _ (.int .i64 0) (by omega) (ho w.heap.size _ (.slice A (g4 l 0) c) (by omega) h.own)
  have o2 := Ent.of_own o1
  refine ⟨⟨A, c, by rw [e1, e2, ents_length], ?_⟩, hbel⟩
  rw [e2]
  have : (Value.slice A (g4 l 0) c) = .slice A (ents l (g4 l 0)).length c := by rw [ents_length]
  rw [← this]
  exact o2
theorem ds_start {w w2 w3 : World} {g : Nat} {vd : Value} {l : List UInt8} (hb1 : Below (w.heap.size + 2) ((w.alloc (.cells #[.slice none 0 0] 24)).alloc (.cells #[.int .i64 0] 25)) w2) (hg : w.heap.size + 2 ≤ g) (hgl : g < w2.heap.size) (hvd : ∀ b, vd.ownBlock = some b → w.heap.size + 2 ≤ b) (hrd : Rd w3 g vd l 4)
    (hvl : ∀ b, vd.ownBlock = some b → b < w2.heap.size) (hch : Chg (· = g) (w2.alloc (.cells #[.int .i64 4] 3)) w3) : DS w w3 g vd l 0 none 0 w3.heap.size 4 := by
  obtain ⟨x1, x2, x3⟩ := boxes2 w (.cells #[.slice none 0 0] 24) (.cells #[.int .i64 0] 25)
  have hs2 := hb1.size
  simp only [World.size_alloc] at hs2
  have hs3 := hch.size
  simp only [World.size_alloc] at hs3
  have e : ∀ q, q < w.heap.size + 2 → w3.heap[q]? = ((w.alloc (.cells #[.slice none 0 0] 24)).alloc (.cells #[.int .i64 0] 25)).heap[q]? := fun q hq =>
    (hch.block q (by simp; omega) (by omega)).trans ((Below.heap_alloc _ _ _ (by omega)).trans (hb1.block q hq))
  refine ⟨(e _ (by omega)).trans x1, (e _ (by omega)).trans x2, hrd, World.ownsRow_nil _ _ _ _, ?_, by omega, by omega, fun b hb => ⟨by have := hvd b hb; omega, by have := hvl b hb; omega⟩, Nat.le_refl _⟩
  exact (x3.trans (hb1.mono (by omega))).trans (((Below.refl w.heap.size w2).alloc (by omega) _).trans (hch.below (by simp; omega) (fun i hi => by omega)))
theorem good_at {l : List UInt8} (h : Good l) {k : Nat} (hk : k < g4 l 0) : 4 + 8 * k + 8 ≤ l.length ∧ vldB (entAt l (4 + 8 * k)) = true := by
  refine ⟨by have := h.1; omega, ?_⟩
  have := allB_at h.2.1 k (by rw [ents_length]; exact hk)
  rwa [ents_get] at this
theorem allB_snoc {l : List UInt8} {k : Nat} (h : allB (ents l k) = true) (hv : vldB (entAt l (4 + 8 * k)) = true) : allB (ents l (k + 1)) = true := by
  unfold allB at h ⊢
  rw [ents_succ, List.all_append, h]
  simp [hv]
theorem decode_any (v : Value) (l : List UInt8) (w : World) (h : Byt w v l) (hl : l.length ≤ 1000000) : Calls Tryz.prog 6 #[v] w (DecPost w l) := by
  have hmf : ∀ (fn : Fn) (first cap : Array Value) (w : World), (Instr.makeFunc fn first cap).run Tryz.prog w = .ok (.func fn first cap) w := fun _ _ _ _ => rfl
  have H := Lib.hid h
  obtain ⟨A, c, rfl, -, -⟩ := h
  have HC := Lib.hid (fun W => cap_any (l.length : Int) W)
  obtain ⟨x1, x2, x3⟩ := boxes2 w (.cells #[.slice none 0 0] 24) (.cells #[.int .i64 0] 25)
  have hls : (l.length : Int) ≤ 1000000 := by omega
  by_cases hc : capF l.length = 0
  · rw [hc] at HC
    have e1 := decE_arg hc
    have e2 : decL l = [] := decL_bad (by rw [e1]; decide)
    have HP : Hid (∀ W, Below w.heap.size w W → DecPost w l (.returned (.tuple #[.slice none 0 0, .int .i64 2])) W) := Lib.hid (fun W hW => ⟨⟨none, 0, by rw [e1, e2]; rfl, by rw [e2]; exact ⟨none, 0, rfl, Nat.le_refl _, fun h => absurd h (by simp)⟩⟩, hW⟩)
    have HX1 := Lib.hid x1
    have HX2 := Lib.hid x2
    have HX3 := Lib.hid x3
    clear x1 x2 x3 e1 e2 hc
    go_enter_defers Tryz.func6, Tryz.ntmps6
    go_wp2_with ((go_at_call 11; with_reducible refine (HC.out _).mono ?_); rintro e w1 ⟨rfl, hg⟩; (have hb := hg.below); have HY1 := Lib.hid ((hb.block w.heap.size (Array.getElem?_eq_some_iff.1 HX1.out).1).trans HX1.out); have HY2 := Lib.hid ((hb.block (w.heap.size + 1) (Array.getElem?_eq_some_iff.1 HX2.out).1).trans HX2.out); have HB := Lib.hid (HX3.out.trans (hb.mono (by simp; omega))); have z1 := cell_of_row _ _ 0 _ _ _ HY1.out; have z2 := cell_of_row _ _ 0 _ _ _ HY2.out; have z3 := frozen_of_row _ _ 0 _ _ HY1.out; have z4 := frozen_of_row _ _ 0 _ _ HY2.out; clear hg hb)
    have y1 := (box_other (w1.setCell ⟨w.heap.size, 0, none⟩ (.slice none 0 0)) (w.heap.size + 1) 0 w.heap.size (.int .i64 2) (by omega)).trans (box_row _ _ 0 _ _ (.slice none 0 0) HY1.out)
    have y2 := box_row _ _ 0 _ _ (.int .i64 2) ((box_other w1 w.heap.size 0 (w.heap.size + 1) (.slice none 0 0) (by omega)).trans HY2.out)
    exact dec_leaves y1 y2 rfl rfl rfl (HP.out _ ((HB.out.setCell (p := ⟨w.heap.size, 0, none⟩) (Nat.le_refl _) _).setCell (p := ⟨w.heap.size + 1, 0, none⟩) (Nat.le_succ _) _))
  have HCN := Lib.hid hc
  have hlen : 12 ≤ l.length ∧ l.length ≤ 8192 := by
    have := capF_pos hc
    omega
  have hlenL := hlen.1
  have hlenR := hlen.2
  have hcb : (capF (l.length : Int) == 0) = false := by simpa using hc
  have HNR := Lib.hid (fun (W : World) (hW : Below w.heap.size w W) => NewReader_any (.slice A l.length c) l W (H.out.below hW) (by omega))
  have HBX := Lib.hid (And.intro x1 (And.intro x2 x3))
  clear x1 x2 x3 hlen hc
  generalize capF (l.length : Int) = cf at HC hcb
  have hn4 := g4_lt l 0
  go_enter_defers Tryz.func6, Tryz.ntmps6
  go_upto_region 5 with (first
    | ((go_at_call 11; with_reducible refine (HC.out _).mono ?_); rintro e w1 ⟨rfl, hg⟩; (have hb := hg.below); have HB1 := Lib.hid hb; have HBW := Lib.hid (HBX.out.2.2.trans (hb.mono (by simp; omega))); clear hg hb)
    | ((go_at_call 17; with_reducible refine (HNR.out _ HBW.out).mono ?_); rintro e w2 ⟨⟨g, vd, rfl, hg, hvd, hrd⟩, hb2⟩; have HRD := Lib.hid hrd; have HB2 := Lib.hid hb2; have HVD := Lib.hid hvd; have HG := Lib.hid hg; clear hrd hb2 hvd hg))
  have hs12 : w.heap.size + 2 ≤ w1.heap.size := by have := HB1.out.size; simp at this; omega
  have hb02 : Below (w.heap.size + 2) ((w.alloc (.cells #[.slice none 0 0] 24)).alloc (.cells #[.int .i64 0] 25)) w2 := (HB1.out.mono (by simp)).trans (HB2.out.mono hs12)
  have HRO := Lib.hid (read_one g vd l w w2 w2.heap.size rfl HRD.out (by omega))
  have HST := Lib.hid (fun (w3 : World) (hrd : Rd w3 g vd l 4) (hch : Chg (· = g) (w2.alloc (.cells #[.int .i64 4] 3)) w3) => ds_start (w := w) hb02 (Nat.le_trans hs12 HG.out) HRD.out.lt (fun b hb => Nat.le_trans hs12 (HVD.out b hb)) hrd HRD.out.lo hch)
  clear hs12 hb02 HRD HB1 HB2 HVD HG HBW HBX HC HNR
  go_wp2_with ((go_at_call 18; with_reducible refine HRO.out.mono ?_); rintro e w3 ⟨⟨b, o, cc, rfl, hcc, hcell⟩, hrd3, hch3⟩; have HD0 := Lib.hid (HST.out w3 hrd3 hch3); clear hrd3 hch3)
  obtain ⟨N, hN⟩ : ∃ N, N = g4 l 0 := ⟨_, rfl⟩
  rw [← hN] at hcell hn4 ⊢
  have HN := Lib.hid hN
  clear hN HST HRO
  obtain ⟨base, hbase⟩ : ∃ base, base = w3.heap.size := ⟨_, rfl⟩
  rw [← hbase] at HD0
  clear hbase hcell
  trace_state
  go_loopw [17] (fun i wr => ∃ (k : Nat) (A1 : Option Addr) (c1 : Nat), k ≤ N ∧ i = .int .u64 (k : Int) ∧ Hid (DS w wr g vd l k A1 c1 base (4 + 8 * k)) ∧ Hid (4 + 8 * k ≤ l.length ∧ allB (ents l k) = true)) (fun i _ => N - (RowKit.intOf i).toNat)
  case atStart => exact ⟨0, none, 0, Nat.zero_le _, rfl, HD0, Lib.hid ⟨by omega, rfl⟩⟩
  case round =>
    obtain ⟨k, A1, c1, hk, rfl, HD, HOK⟩ := hrel
    clear HD0
    by_cases hlt : k < N
    · have hki : (k : Int) < (N : Int) := by omega
      by_cases hfit : 4 + 8 * k + 8 ≤ l.length ∧ vldB (entAt l (4 + 8 * k)) = true
      · have hd : DS w wr.drew g vd l k A1 c1 base (4 + 8 * k) := HD.out.below (below_drewN (Below.refl _ _) 1)
        have HDR := Lib.hid hd
        have HEN := Lib.hid ((entry_any g vd l (4 + 8 * k) _ hd.rd hfit.1 true hfit.2).mono (R' := fun e w' => e = .returned (.agg #[.int .i64 (entAt l (4 + 8 * k)).1, .int .i64 (entAt l (4 + 8 * k)).2]) ∧ Rd w' g vd l (4 + 8 * k + 8) ∧ Chg (· = g) wr.drew w') (fun e w' h => by rw [if_pos rfl] at h; exact ⟨h.1.1, h.1.2, h.2⟩))
        have k0 := cell_of_row wr w.heap.size 0 _ _ _ HD.out.bx
        have HOK2 := Lib.hid (show 4 + 8 * (k + 1) ≤ l.length ∧ allB (ents l (k + 1)) = true from ⟨by omega, allB_snoc HOK.out.2 hfit.2⟩)
        have HKB := Lib.hid (show k ≤ 8192 by omega)
        clear hd HOK hfit
        go_upto_region 7 with fail
        refine wp_region_any (by kernel_rfl) ?_
        change wpAny _ _ _ _ _ _ _ (World.drew _)
        refine wpAny_ready (rs := [0, 1]) (by kernel_rfl) (by simp) ?_
        refine AllReady.cons rfl (fun K hK => ?_) ?_
        · go_simp
          refine hK _ _ ?_
          clear hK K
          refine wpAny_ready (rs := [1]) (by kernel_rfl) (by simp) ?_
          refine AllReady.cons rfl (fun K hK => ?_) AllReady.nil
          go_simp
          refine hK _ _ ?_
          clear hK K
          refine wpAny_ready (rs := [2]) (by kernel_rfl) (by simp) ?_
          refine AllReady.cons rfl (fun K hK => ?_) AllReady.nil
          refine step_call (f := 19) rfl _ _ rfl HEN.out (by go_simp) ?_
          rintro e w4 ⟨rfl, hrd4, hch4⟩
          have hd4 := HDR.out.call hrd4 hch4
          obtain ⟨B, d, W5, hrun, hc5, hf5, hd6⟩ := ds_round hd4 HKB.out
          have k4 := cell_of_row w4 w.heap.size 0 _ _ _ hd4.bx
          have k5 := cell_of_row _ w.heap.size 0 _ _ _ (hd4.below (alloc_below w4 (.cells #[.int .i64 (entAt l (4 + 8 * k)).1, .int .i64 (entAt l (4 + 8 * k)).2] 37))).bx
          have HD6 := Lib.hid hd6
          clear hrd4 hch4 hd4 hd6
          refine ⟨_, rfl, ?_⟩
          try go_simp
          refine hK _ _ ?_
          clear hK K
          refine wpAny_ready (rs := [3]) (by kernel_rfl) (by simp) ?_
          refine AllReady.cons rfl (fun K hK => ?_) AllReady.nil
          go_simp
          refine hK _ _ ?_
          clear hK K
          refine wpAny_ready (rs := [4]) (by kernel_rfl) (by simp) ?_
          refine AllReady.cons rfl (fun K hK => ?_) AllReady.nil
          refine step_appX rfl (.tmp 19) (.tmp 22) 24 rfl _ _ _ _ rfl rfl hrun ?_
          try go_simp
          refine hK _ _ ?_
          clear hK K
          refine wpAny_ready (rs := [5]) (by kernel_rfl) (by simp) ?_
          refine AllReady.cons rfl (fun K hK => ?_) AllReady.nil
          go_simp
          refine hK _ _ ?_
          clear hK K
          refine wpAny_done (by kernel_rfl) ?_ _
          go_wp2
          go_roundw
          case rel => exact ⟨k + 1, B, d, by omega, by go_num, Lib.hid (by rw [show 4 + 8 * (k + 1) = 4 + 8 * k + 8 by omega]; exact HD6.out), HOK2⟩
          case measure => simp [RowKit.intOf]; omega
        refine AllReady.cons rfl (fun K hK => ?_) AllReady.nil
        go_simp
        refine hK _ _ ?_
        clear hK K
        refine wpAny_ready (rs := [0, 2]) (by kernel_rfl) (by simp) ?_
        refine AllReady.cons rfl (fun K hK => ?_) ?_
        · go_simp
          refine hK _ _ ?_
          clear hK K
          refine wpAny_ready (rs := [2]) (by kernel_rfl) (by simp) ?_
          refine AllReady.cons rfl (fun K hK => ?_) AllReady.nil
          refine step_call (f := 19) rfl _ _ rfl HEN.out (by go_simp) ?_
          rintro e w4 ⟨rfl, hrd4, hch4⟩
          have hd4 := HDR.out.call hrd4 hch4
          obtain ⟨B, d, W5, hrun, hc5, hf5, hd6⟩ := ds_round hd4 HKB.out
          have k4 := cell_of_row w4 w.heap.size 0 _ _ _ hd4.bx
          have k5 := cell_of_row _ w.heap.size 0 _ _ _ (hd4.below (alloc_below w4 (.cells #[.int .i64 (entAt l (4 + 8 * k)).1, .int .i64 (entAt l (4 + 8 * k)).2] 37))).bx
          have HD6 := Lib.hid hd6
          clear hrd4 hch4 hd4 hd6
          refine ⟨_, rfl, ?_⟩
          try go_simp
          refine hK _ _ ?_
          clear hK K
          refine wpAny_ready (rs := [3]) (by kernel_rfl) (by simp) ?_
          refine AllReady.cons rfl (fun K hK => ?_) AllReady.nil
          go_simp
          refine hK _ _ ?_
          clear hK K
          refine wpAny_ready (rs := [4]) (by kernel_rfl) (by simp) ?_
          refine AllReady.cons rfl (fun K hK => ?_) AllReady.nil
          refine step_appX rfl (.tmp 19) (.tmp 22) 24 rfl _ _ _ _ rfl rfl hrun ?_
          try go_simp
          refine hK _ _ ?_
          clear hK K
          refine wpAny_ready (rs := [5]) (by kernel_rfl) (by simp) ?_
          refine AllReady.cons rfl (fun K hK => ?_) AllReady.nil
          go_simp
          refine hK _ _ ?_
          clear hK K
          refine wpAny_done (by kernel_rfl) ?_ _
          go_wp2
          go_roundw
          case rel => exact ⟨k + 1, B, d, by omega, by go_num, Lib.hid (by rw [show 4 + 8 * (k + 1) = 4 + 8 * k + 8 by omega]; exact HD6.out), HOK2⟩
          case measure => simp [RowKit.intOf]; omega
        refine AllReady.cons rfl (fun K hK => ?_) AllReady.nil
        refine step_call (f := 19) rfl _ _ rfl HEN.out (by go_simp) ?_
        rintro e w4 ⟨rfl, hrd4, hch4⟩
        have hd4 := HDR.out.call hrd4 hch4
        obtain ⟨B, d, W5, hrun, hc5, hf5, hd6⟩ := ds_round hd4 HKB.out
        have k4 := cell_of_row w4 w.heap.size 0 _ _ _ hd4.bx
        have k5 := cell_of_row _ w.heap.size 0 _ _ _ (hd4.below (alloc_below w4 (.cells #[.int .i64 (entAt l (4 + 8 * k)).1, .int .i64 (entAt l (4 + 8 * k)).2] 37))).bx
        have HD6 := Lib.hid hd6
        clear hrd4 hch4 hd4 hd6
        refine ⟨_, rfl, ?_⟩
        try go_simp
        refine hK _ _ ?_
        clear hK K
        refine wpAny_ready (rs := [0, 3]) (by kernel_rfl) (by simp) ?_
        refine AllReady.cons rfl (fun K hK => ?_) ?_
        · go_simp
          refine hK _ _ ?_
          clear hK K
          refine wpAny_ready (rs := [3]) (by kernel_rfl) (by simp) ?_
          refine AllReady.cons rfl (fun K hK => ?_) AllReady.nil
          go_simp
          refine hK _ _ ?_
          clear hK K
          refine wpAny_ready (rs := [4]) (by kernel_rfl) (by simp) ?_
          refine AllReady.cons rfl (fun K hK => ?_) AllReady.nil
          refine step_appX rfl (.tmp 19) (.tmp 22) 24 rfl _ _ _ _ rfl rfl hrun ?_
          try go_simp
          refine hK _ _ ?_
          clear hK K
          refine wpAny_ready (rs := [5]) (by kernel_rfl) (by simp) ?_
          refine AllReady.cons rfl (fun K hK => ?_) AllReady.nil
          go_simp
          refine hK _ _ ?_
          clear hK K
          refine wpAny_done (by kernel_rfl) ?_ _
          go_wp2
          go_roundw
          case rel => exact ⟨k + 1, B, d, by omega, by go_num, Lib.hid (by rw [show 4 + 8 * (k + 1) = 4 + 8 * k + 8 by omega]; exact HD6.out), HOK2⟩
          case measure => simp [RowKit.intOf]; omega
        refine AllReady.cons rfl (fun K hK => ?_) AllReady.nil
        go_simp
        refine hK _ _ ?_
        clear hK K
        refine wpAny_ready (rs := [0]) (by kernel_rfl) (by simp) ?_
        refine AllReady.cons rfl (fun K hK => ?_) AllReady.nil
        go_simp
        refine hK _ _ ?_
        clear hK K
        refine wpAny_ready (rs := [4]) (by kernel_rfl) (by simp) ?_
        refine AllReady.cons rfl (fun K hK => ?_) AllReady.nil
        refine step_appX rfl (.tmp 19) (.tmp 22) 24 rfl _ _ _ _ rfl rfl hrun ?_
        try go_simp
        refine hK _ _ ?_
        clear hK K
        refine wpAny_ready (rs := [5]) (by kernel_rfl) (by simp) ?_
        refine AllReady.cons rfl (fun K hK => ?_) AllReady.nil
        go_simp
        refine hK _ _ ?_
        clear hK K
        refine wpAny_done (by kernel_rfl) ?_ _
        go_wp2
        go_roundw
        case rel => exact ⟨k + 1, B, d, by omega, by go_num, Lib.hid (by rw [show 4 + 8 * (k + 1) = 4 + 8 * k + 8 by omega]; exact HD6.out), HOK2⟩
        case measure => simp [RowKit.intOf]; omega
      · have hd : DS w wr.drew g vd l k A1 c1 base (4 + 8 * k) := HD.out.below (below_drewN (Below.refl _ _) 1)
        have HDR := Lib.hid hd
        have HEN : Hid (Calls Tryz.prog 19 #[.pointer (some ⟨g, 0, none⟩)] wr.drew fun e w' => Raised e ∧ Chg (· = g) wr.drew w') := Lib.hid (by
          by_cases h8 : 4 + 8 * k + 8 ≤ l.length
          · refine (entry_any g vd l (4 + 8 * k) _ hd.rd h8 false (by cases e : vldB (entAt l (4 + 8 * k)) with | false => rfl | true => exact absurd ⟨h8, e⟩ hfit)).mono ?_
            intro e w' h
            rw [if_neg (by decide)] at h
            exact h
          · exact entry_no g vd l (4 + 8 * k) _ hd.rd (by omega))
        have k0 := cell_of_row wr w.heap.size 0 _ _ _ HD.out.bx
        have HNG := Lib.hid (show ¬ Good l from fun hG => hfit (good_at hG (by rw [← HN.out]; exact hlt)))
        clear hd HOK hfit
        go_upto_region 7 with fail
        refine wp_region_any (by kernel_rfl) ?_
        change wpAny _ _ _ _ _ _ _ (World.drew _)
        refine wpAny_ready (rs := [0, 1]) (by kernel_rfl) (by simp) ?_
        refine AllReady.cons rfl (fun K hK => ?_) ?_
        · go_simp
          refine hK _ _ ?_
          clear hK K
          refine wpAny_ready (rs := [1]) (by kernel_rfl) (by simp) ?_
          refine AllReady.cons rfl (fun K hK => ?_) AllReady.nil
          go_simp
          refine hK _ _ ?_
          clear hK K
          refine wpAny_ready (rs := [2]) (by kernel_rfl) (by simp) ?_
          refine AllReady.cons rfl (fun K hK => ?_) AllReady.nil
          go_simp
          refine HEN.out.mono ?_
          rintro e w4 ⟨hR, hch4⟩
          unfold Raised at hR
          subst hR
          obtain ⟨x1, x2, x3⟩ := HDR.out.boxes hch4
          go_wp2
          refine leaves_cons (f := 16) (args := #[.pointer (some ⟨w.heap.size, 0, none⟩), .pointer (some ⟨w.heap.size + 1, 0, none⟩)]) (by simp) (by simp [go_sem]) ?_
          refine (catch_panicking w.heap.size (w.heap.size + 1) _ _ [] _ x1 x2 (by omega)).mono ?_
          rintro e u' w'' ⟨rfl, rfl, hC, hr, he⟩
          exact dec_leaves hr he rfl rfl rfl (dec_bad x3 hC HCN.out HNG.out)
        refine AllReady.cons rfl (fun K hK => ?_) AllReady.nil
        go_simp
        refine hK _ _ ?_
        clear hK K
        refine wpAny_ready (rs := [0, 2]) (by kernel_rfl) (by simp) ?_
        refine AllReady.cons rfl (fun K hK => ?_) ?_
        · go_simp
          refine hK _ _ ?_
          clear hK K
          refine wpAny_ready (rs := [2]) (by kernel_rfl) (by simp) ?_
          refine AllReady.cons rfl (fun K hK => ?_) AllReady.nil
          go_simp
          refine HEN.out.mono ?_
          rintro e w4 ⟨hR, hch4⟩
          unfold Raised at hR
          subst hR
          obtain ⟨x1, x2, x3⟩ := HDR.out.boxes hch4
          go_wp2
          refine leaves_cons (f := 16) (args := #[.pointer (some ⟨w.heap.size, 0, none⟩), .pointer (some ⟨w.heap.size + 1, 0, none⟩)]) (by simp) (by simp [go_sem]) ?_
          refine (catch_panicking w.heap.size (w.heap.size + 1) _ _ [] _ x1 x2 (by omega)).mono ?_
          rintro e u' w'' ⟨rfl, rfl, hC, hr, he⟩
          exact dec_leaves hr he rfl rfl rfl (dec_bad x3 hC HCN.out HNG.out)
        refine AllReady.cons rfl (fun K hK => ?_) AllReady.nil
        go_simp
        refine HEN.out.mono ?_
        rintro e w4 ⟨hR, hch4⟩
        unfold Raised at hR
        subst hR
        obtain ⟨x1, x2, x3⟩ := HDR.out.boxes hch4
        go_wp2
        refine leaves_cons (f := 16) (args := #[.pointer (some ⟨w.heap.size, 0, none⟩), .pointer (some ⟨w.heap.size + 1, 0, none⟩)]) (by simp) (by simp [go_sem]) ?_
        refine (catch_panicking w.heap.size (w.heap.size + 1) _ _ [] _ x1 x2 (by omega)).mono ?_
        rintro e u' w'' ⟨rfl, rfl, hC, hr, he⟩
        exact dec_leaves hr he rfl rfl rfl (dec_bad x3 hC HCN.out HNG.out)
    · obtain rfl : k = N := by omega
      have hki : ¬ (k : Int) < (k : Int) := by omega
      have HLF := Lib.hid (Left_any g vd l (4 + 8 * k) wr HD.out.rd)
      by_cases hz : l.drop (4 + 8 * k) = List.replicate (l.length - (4 + 8 * k)) 0
      · have HG : Hid (Good l) := Lib.hid ⟨by rw [← HN.out]; exact HOK.out.1, by rw [← HN.out]; exact HOK.out.2, by rw [← HN.out]; exact hz⟩
        have HZ := Lib.hid (fun (W : World) (K : Int) (hK : K = (l.length : Int) - ((4 + 8 * k : Nat) : Int)) (h : DS w W g vd l k A1 c1 base (4 + 8 * k)) => zeros_yes h.rd K hK hz)
        clear hz HOK
        go_wp2_with (first
          | ((go_at_call 22; with_reducible refine HLF.out.mono ?_); rintro e w4 ⟨rfl, q, rfl⟩; have HD4 := Lib.hid (HD.out.below (below_drewN (Below.refl _ _) q)))
          | ((go_at_call 21; with_reducible refine (HZ.out _ _ (by omega) HD4.out).mono ?_); rintro e w5 ⟨rfl, hr5, hc5⟩; have HD5 := Lib.hid (HD4.out.call hr5 hc5); have z1 := cell_of_row _ _ 0 _ _ _ HD5.out.bx; have z2 := cell_of_row _ _ 0 _ _ _ HD5.out.er; have z3 := frozen_of_row _ _ 0 _ _ HD5.out.bx; have z4 := frozen_of_row _ _ 0 _ _ HD5.out.er; clear hr5 hc5)
          | ((go_at_call 20; with_reducible refine (require_yes _).mono ?_); rintro e w6 ⟨rfl, rfl⟩))
        refine leaves_cons (f := 16) (args := #[.pointer (some ⟨w.heap.size, 0, none⟩), .pointer (some ⟨w.heap.size + 1, 0, none⟩)]) (by simp) (by simp [go_sem]) ?_
        refine (catch_idle w.heap.size (w.heap.size + 1) _).mono ?_
        rintro e u' w'' ⟨rfl, rfl, rfl⟩
        have y1 := (box_other (w5.setCell ⟨w.heap.size, 0, none⟩ (.slice A1 k c1)) (w.heap.size + 1) 0 w.heap.size (.int .i64 0) (by omega)).trans (box_row _ _ 0 _ _ (.slice A1 k c1) HD5.out.bx)
        have y2 := box_row _ _ 0 _ _ (.int .i64 0) ((box_other w5 w.heap.size 0 (w.heap.size + 1) (.slice A1 k c1) (by omega)).trans HD5.out.er)
        have hdg := HD5.out
        have hkn := HN.out
        subst hkn
        exact dec_leaves y1 y2 rfl rfl rfl (dec_good hdg HCN.out HG.out)
      · have HNG := Lib.hid (show ¬ Good l from fun hG => hz (by have := hG.2.2; rw [← HN.out] at this; exact this))
        have HZ := Lib.hid (fun (W : World) (K : Int) (hK : K = (l.length : Int) - ((4 + 8 * k : Nat) : Int)) (h : DS w W g vd l k A1 c1 base (4 + 8 * k)) => zeros_no h.rd K hK hz)
        clear hz HOK
        go_wp2_with (first
          | ((go_at_call 22; with_reducible refine HLF.out.mono ?_); rintro e w4 ⟨rfl, q, rfl⟩; have HD4 := Lib.hid (HD.out.below (below_drewN (Below.refl _ _) q)))
          | ((go_at_call 21; with_reducible refine (HZ.out _ _ (by omega) HD4.out).mono ?_); rintro e w5 ⟨rfl, hc5⟩; have HX5 := Lib.hid (HD4.out.boxes hc5); clear hc5)
          | ((go_at_call 20; with_reducible refine (require_no _).mono ?_); rintro e w6 ⟨hR, rfl⟩; unfold Raised at hR; subst hR))
        obtain ⟨x1, x2, x3⟩ := HX5.out
        refine leaves_cons (f := 16) (args := #[.pointer (some ⟨w.heap.size, 0, none⟩), .pointer (some ⟨w.heap.size + 1, 0, none⟩)]) (by simp) (by simp [go_sem]) ?_
        refine (catch_panicking w.heap.size (w.heap.size + 1) _ _ [] _ x1 x2 (by omega)).mono ?_
        rintro e u' w'' ⟨rfl, rfl, hC, hr, he⟩
        exact dec_leaves hr he rfl rfl rfl (dec_bad x3 hC HCN.out HNG.out)
end Go.Proofs.YtajlddgemkkcdaaGreat
