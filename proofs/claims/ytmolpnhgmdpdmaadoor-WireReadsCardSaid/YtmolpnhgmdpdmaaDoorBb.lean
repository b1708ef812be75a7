/- Two rows of integers that grow side by side in whatever order, and the fields of a slice that came in. Conditions stand in each theorem. -/
import Derived.Test.YtmolpnhgmdpdmaaDoorBa
import Derived.Test.YtmolpnhgmdpdmaaDoorLf
import Derived.Deep.RegionLaw
import Derived.Deep.SlicePairs
namespace Go.Proofs.YtmolpnhgmdpdmaaDoor
open Go.RowKit
set_option linter.unusedVariables false
set_option maxHeartbeats 400000

/-- Nothing that was there has changed. -/
def Ext (w w' : World) : Prop := Chg (fun _ => False) w w'
theorem Ext.refl (w : World) : Ext w w := Chg.refl _ _
theorem Ext.alloc {a w : World} (h : Ext a w) (o : Obj) : Ext a (w.alloc o) := Chg.trans h (T := fun _ => False) (Chg.of_below ((Below.refl _ _).alloc (Nat.le_refl _) o)) (fun i hi _ => hi.elim)
theorem Ext.drew {a w : World} (h : Ext a w) : Ext a w.drew := ⟨h.os, h.tape, h.output, h.size, h.block⟩
theorem Ext.grown {a w : World} (h : Ext a w) (row : Option Nat) : a.grownBy w row := ⟨h.os, h.tape, h.output, h.size, fun k hk _ => h.block k hk (fun hf => hf)⟩
theorem Ext.own {a w : World} (h : Ext a w) {base n : Nat} {e : TypeId} {v : Value} {xs : List Value} (ho : a.ownsRow base e 1 v n xs) : w.ownsRow base e 1 v n xs :=
  ho.kept (h.grown none) (by cases v.ownBlock <;> simp)
theorem Ext.cell {a w : World} (h : Ext a w) {p : Addr} {x : Value} (hc : a.cell? p = some x) : w.cell? p = some x := (h.grown none).cell hc (by simp)

/-- What one append of an integer leaves. -/
structure AppR (W w' : World) (base : Nat) (e : TypeId) (k : IntKind) (v v' : Value) (n : Nat) (xs : List Int) : Prop where
  own : w'.ownsRow base e 1 v' n (xs.map (Value.int k))
  grow : W.grownBy w' v.ownBlock
theorem step_a {ops : Array Oper} {o : Oper} {a : Act} {W : World} {K : Act → World → Prop} {Q : Exit → Act → World → Prop} {E : Prop} (hgd : o.guard = none) (s x : Operand) (t : TypeId)
    (ho : o.op = .call { callee := .builtin .append, args := #[s, x], argTypes := #[t, t] })
    (e : TypeId) (k : IntKind) (i : TypeInfo) (ht : Tryd.prog.underlying t = some (.slice e)) (hi : Tryd.prog.info? e = some i) (hz : i.zero = some (.int k 0)) (hsize : i.size = 1) (hby : i.bytes = 8)
    (base : Nat) (v : Value) (n : Nat) (xs : List Int) (B : Nat) (y : Int) (hn : n ≤ 1048576)
    (hs : a.eval s = v) (hx : a.eval x = .slice (some ⟨B, 0, none⟩) 1 1) (hown : W.ownsRow base e 1 v n (xs.map (Value.int k))) (hcell : W.cell? ⟨B, 0, none⟩ = some (.int k y)) (hbase : base ≤ W.heap.size)
    (h : ∀ v' w', Hid (AppR W w' base e k v v' (n + 1) (xs ++ [y])) → K (a.put o.dst v') w') :
    if Region.wanted o (yielded ops a.tmps) = true then Oper.wp Tryd.prog o a W K Q else E := by
  have hw : Region.wanted o (yielded ops a.tmps) = true := by simp [Region.wanted, hgd]
  rw [if_pos hw]
  obtain ⟨v', w', hr, h2, h3, _, _⟩ := run_append_own_at (P := Tryd.prog) W base t o.type e i (.int k 0) 1 8 ht hi hz hsize hby rfl (by decide) v n (xs.map (Value.int k)) hown ⟨B, 0, none⟩ 1 1 [.int k y] rfl
    (fun j u hj => by
      match j, hj with
      | 0, hj => simp at hj; subst hj; rw [add_plain]; exact hcell)
    (fun u hu => by simp at hu; subst hu; rfl) (by unfold maxLen; omega) (by omega) hbase
  unfold Oper.wp execOp
  simp only [ho, resolve, invoke, builtin, Sem.run_bind, Sem.run_pure, Result.andThen_ok, List.map_toArray, List.map_cons, List.map_nil, hs, hx, hr]
  exact h v' w' ⟨by rw [List.map_append]; exact h2, h3⟩
/-- Rows of different element types do not share a block. -/
theorem own_ne {w : World} {base base' n m : Nat} {e e' : TypeId} {v v' : Value} {xs ys : List Value} (h : w.ownsRow base e 1 v n xs) (h' : w.ownsRow base' e' 1 v' m ys) (hne : e ≠ e') : v.ownBlock = none ∨ v.ownBlock ≠ v'.ownBlock := by
  rcases h.2 with ⟨rfl, _⟩ | ⟨g, cap, cur, rfl, _, hh, _⟩
  · exact .inl rfl
  · right
    rcases h'.2 with ⟨rfl, _⟩ | ⟨g', cap', cur', rfl, _, hh', _⟩
    · simp [Value.ownBlock]
    · intro he
      have : g = g' := by simpa [Value.ownBlock] using he
      subst this
      rw [hh] at hh'
      injection hh' with hh'
      injection hh' with _ ht
      exact hne ht
/-- What the first append leaves for the other row, and for its pending cell. -/
theorem other_own {wr W w' : World} {base n m : Nat} {e e' : TypeId} {k k' : IntKind} {v v' u : Value} {xs : List Int} {ys : List Value} (hx : Ext wr W) (hv : wr.ownsRow base e 1 v m ys) (hu : wr.ownsRow base e' 1 u n (xs.map (Value.int k'))) (hne : e' ≠ e)
    {N : Nat} {zs : List Int} (hA : AppR W w' base e k v v' N zs) : w'.ownsRow base e' 1 u n (xs.map (Value.int k')) :=
  (hx.own hu).kept hA.grow (own_ne (hx.own hu) (hx.own hv) hne)
theorem other_cell {wr W w' : World} {base m : Nat} {e : TypeId} {k : IntKind} {v v' : Value} {ys : List Value} (hx : Ext wr W) (hv : wr.ownsRow base e 1 v m ys) {N : Nat} {zs : List Int} (hA : AppR W w' base e k v v' N zs) {B : Nat} {x : Value} (hB : wr.heap.size ≤ B) (hc : W.cell? ⟨B, 0, none⟩ = some x) : w'.cell? ⟨B, 0, none⟩ = some x :=
  hA.grow.cell hc (fun e' => by have := (hv.lt B e'.symm).2; omega)
/-- Both appends, one behind the other. -/
theorem both {w wr W1 wa W2 wb : World} {n m : Nat} {e e' : TypeId} {k k' : IntKind} {v v' u u' : Value} {xs ys : List Int} {N M : Nat} {xs' ys' : List Int} (hB : Below w.heap.size w wr) (hv : wr.ownsRow w.heap.size e 1 v n (xs.map (Value.int k))) (hu : wr.ownsRow w.heap.size e' 1 u m (ys.map (Value.int k'))) (hne : e ≠ e')
    (x1 : Ext wr W1) (hA : AppR W1 wa w.heap.size e k v v' N xs') (x2 : Ext wa W2) (hA2 : AppR W2 wb w.heap.size e' k' u u' M ys') :
    wb.ownsRow w.heap.size e 1 v' N (xs'.map (Value.int k)) ∧ wb.ownsRow w.heap.size e' 1 u' M (ys'.map (Value.int k')) ∧ Below w.heap.size w wb := by
  have hu1 := other_own x1 hv hu (Ne.symm hne) hA
  refine ⟨(x2.own hA.own).kept hA2.grow (own_ne (x2.own hA.own) (x2.own hu1) hne), hA2.own, ?_⟩
  have b1 : Below w.heap.size w W1 := hB.trans (Chg.below x1 hB.size (fun i hi => hi.elim))
  have b2 : Below w.heap.size w wa := b1.grown hA.grow b1.size (own_row_ge hv)
  have b3 : Below w.heap.size w W2 := b2.trans (Chg.below x2 b2.size (fun i hi => hi.elim))
  exact b3.grown hA2.grow b3.size (own_row_ge hu)

theorem AddAll_empty (g c : Nat) (A : Option Addr) (v : Value) (l : List UInt8) (w : World) (h : Wr w g v l) : Calls Tryd.prog 34 #[.pointer (some ⟨g, 0, none⟩), .slice A 0 c] w (WPost w g v l 0) := by
  have HW := Lib.hid h; clear h
  go_enter Tryd.func34, Tryd.ntmps34
  go_wp2_with fail
  refine (room_any g v l _ HW.out).mono ?_
  rintro e w' ⟨rfl, rfl⟩
  go_wp2
  refine wp_loop_rounds 1 ?_
  rw [rounds_succ]
  go_wp2
  refine wp_loop_rounds 1 ?_
  rw [rounds_succ]
  go_wp2
  go_ret
  exact WPost.same HW.out 0
theorem AddAll_fits (g : Nat) (v xv : Value) (l : List UInt8) (fs : List (Int × Int)) (w w0 : World) (h : Wr w g v l) (hx : Fl w xv fs) (hx0 : Fl w0 xv fs) (hg : w0.heap.size ≤ g) (hv : ∀ b, v.ownBlock = some b → w0.heap.size ≤ b) (hfs : ∀ f ∈ fs, 0 ≤ f.1) (hlen : fs.length ≤ 1048576) (hk : chk (1048576 - l.length) fs = 0) :
    Calls Tryd.prog 34 #[.pointer (some ⟨g, 0, none⟩), xv] w (WPost w g v (l ++ flat fs) 0) := by
  rcases Nat.eq_zero_or_pos fs.length with h0 | h0
  · have hn : fs = [] := List.eq_nil_of_length_eq_zero h0
    subst hn
    obtain ⟨A, c, rfl, _, _⟩ := hx
    simpa [flat] using AddAll_empty g c A v l w h
  · refine AddAll_ok g v xv l fs w h hx hfs (fun b hb => ?_) hlen hk
    obtain ⟨A, c, rfl, _, hr⟩ := hx0
    obtain ⟨b', o, rfl, hb', _⟩ := hr h0
    have e : b' = b := by simpa [Value.ownBlock] using hb
    subst e
    exact ⟨by omega, fun e => by have := hv _ e; omega⟩
theorem cells74 : Tryd.prog.cellsOf 74 = 2 := by kernel_rfl
theorem cells22 : Tryd.prog.cellsOf 22 = 1 := by kernel_rfl
theorem cells3 : Tryd.prog.cellsOf 3 = 1 := by kernel_rfl
end Go.Proofs.YtmolpnhgmdpdmaaDoor
