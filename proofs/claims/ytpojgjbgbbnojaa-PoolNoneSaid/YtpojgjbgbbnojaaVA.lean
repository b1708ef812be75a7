/- The iterator of slices.All over a pool's blocks. Conditions stand in each theorem. -/
import Derived.Test.YtpojgjbgbbnojaaV
namespace Go.Proofs.Ytpojgjbgbbnojaa
open Go.RowKit Go.Shelf
attribute [local go_sem] Oper.semAt_some
set_option linter.unusedVariables false
set_option maxHeartbeats 2000000
set_option maxRecDepth 100000
section
variable {S : Nat → Prop} {A B C W W' : World}
theorem Kc.row (h : Kc S W W') {g cap : Nat} {l : List Blk} (hr : Row W g cap l) (hS : ¬ S g) : Row W' g cap l := by
  obtain ⟨cur, h1, r⟩ := hr
  exact ⟨cur, h.2 g _ h1 rfl hS, r⟩
/-- A box of one cell. -/
def Bx1 (W : World) (q : Nat) (t : TypeId) (v : Value) : Prop := W.heap[q]? = some (.cells #[v] t (0, 0))
theorem Bx1.cell {q : Nat} {t : TypeId} {v : Value} (h : Bx1 W q t v) : W.cell? ⟨q, 0, none⟩ = some v := by rw [cell_of_row W q 0 _ t (0, 0) h]; rfl
theorem Bx1.free {q : Nat} {t : TypeId} {v : Value} (h : Bx1 W q t v) : W.frozen? ⟨q, 0, none⟩ = false := frozen_of_row W q 0 _ t h
theorem Bx1.lt {q : Nat} {t : TypeId} {v : Value} (h : Bx1 W q t v) : q < W.heap.size := (Array.getElem?_eq_some_iff.1 h).1
theorem Bx1.kc {q : Nat} {t : TypeId} {v : Value} (hb : Bx1 W q t v) (h : Kc S W W') (hS : ¬ S q) : Bx1 W' q t v := h.2 q _ hb rfl hS
theorem Bx1.below {q : Nat} {t : TypeId} {v : Value} (hb : Bx1 W q t v) (h : Below W.heap.size W W') : Bx1 W' q t v := (h.block q hb.lt).trans hb
theorem Bx1.new (W : World) (t : TypeId) (v : Value) : Bx1 (W.alloc (.cells #[v] t)) W.heap.size t v := heap_alloc_new W _
theorem Bx1.put {q : Nat} {t : TypeId} {v : Value} (hb : Bx1 W q t v) {l : Nat} {o o' : Obj} (h : W.heap[l]? = some o) (hc : o.isCells = false) : Bx1 (W.putObj l o') q t v :=
  (Kc.putObj (fun _ => False) W l o o' h hc).2 q _ hb rfl (fun h => h)
theorem own_row {g cap : Nat} {l : List Blk} (B : Nat) : OwnFrom B (fun (_ : Nat) W => Row W g cap l) := fun k X Y row hs hg hr => by
  obtain ⟨cur, h1, r⟩ := hs
  refine ⟨cur, (hg.block g (Array.getElem?_eq_some_iff.1 h1).1 (fun e => ?_)).trans h1, r⟩
  obtain ⟨o, ho, hc⟩ := (hr g e.symm).2
  rw [h1] at ho; cases ho; cases hc
theorem own_bx {β : Type} {q : Nat} {t : TypeId} {v : Value} (B : Nat) : OwnFrom B (fun (_ : β) W => Bx1 W q t v) := fun k X Y row hs hg hr => by
  refine (hg.block q hs.lt (fun e => ?_)).trans hs
  obtain ⟨o, ho, hc⟩ := (hr q e.symm).2
  rw [show X.heap[q]? = _ from hs] at ho; cases ho; cases hc
end
/-- The blocks with their numbers. -/
def enum (l : List Blk) : List (Nat × Blk) := (List.range l.length).map fun i => (i, l.getD i ⟨0, 0⟩)
theorem enum_length (l : List Blk) : (enum l).length = l.length := by simp [enum]
theorem enum_at {l : List Blk} {k : Nat} (h : k < l.length) : (enum l)[k]'(by rw [enum_length]; exact h) = (k, l[k]) := by simp [enum, h]
abbrev ev (x : Nat × Blk) : Array Value := #[.int .i64 (x.1 : Int), .agg #[.int .i64 x.2.er, .int .i64 x.2.st]]
theorem all1_in (S : Nat → Prop) (B' l0 B g cap : Nat) (l : List Blk) (hl : l.length ≤ 4096) (hgS : ¬ S g) (J Jx : Nat → World → Prop) (W0 : World) (hJ : OwnFrom W0.heap.size J)
    (hY : ∀ k (hk : k < l.length) W1, J k W1 → Ynd Try.prog l0 #[.int .i64 (k : Int), .agg #[.int .i64 l[k].er, .int .i64 l[k].st]] W1 fun e W' => (e = .returned (.bool true) ∧ J (k + 1) W' ∧ Kd S B' W1 W') ∨ (e = .returned (.bool false) ∧ Jx (k + 1) W' ∧ KeepsFrom B' W1 W'))
    (hc : W0.cell? ⟨B, 0, none⟩ = some (.slice (some ⟨g, 0, none⟩) l.length cap)) (hr : Row W0 g cap l) (h0 : J 0 W0) :
    CallsIn Fence.wide 9 Try.prog 56 #[.func (.yield l0) #[] #[], .pointer (some ⟨B, 0, none⟩)] W0 fun e W' => (∃ v, e = .returned v) ∧ (J l.length W' ∨ ∃ k, k ≤ l.length ∧ Jx k W') := by
  have H0 := Lib.hid h0
  have HR := Lib.hid hr
  have HY := Lib.hid hY
  have HJ := Lib.hid hJ
  have hl2 : (l.length : Int) ≤ 4096 := by omega
  clear h0 hr hY hJ
  refine callsIn_of_wp Try.func56 rfl trivial ?_ rfl
  simp only [Try.ntmps56, List.size_toArray, List.length_cons, List.length_nil, Nat.reduceAdd, Nat.reduceSub, Array.replicate_succ, Array.replicate_zero, List.push_toArray, List.append_toArray, List.nil_append, List.cons_append]
  gi_wp2
  gi_loopw [7] (fun i wr => ∃ k : Nat, k ≤ l.length ∧ i = .int .i64 k ∧ Hid (J k wr) ∧ Hid (Row wr g cap l)) (fun i _ => l.length - (RowKit.intOf i).toNat)
  case atStart => exact ⟨0, Nat.zero_le _, rfl, H0, HR⟩
  case round =>
    obtain ⟨k, hk, rfl, HJk, HRk⟩ := hrel
    by_cases hlt : k < l.length
    · obtain ⟨c0, c1⟩ := HRk.out.at hlt
      have hJ2 := HJ.out.alloc (.cells #[.int .i64 l[k].er, .int .i64 l[k].st] 69) HJk.out
      obtain ⟨fn, tmps, assign, body, hy, hR⟩ := HY.out k hlt _ hJ2
      have HR2 := Lib.hid (HRk.out.below (below_alloc wr (.cells #[.int .i64 l[k].er, .int .i64 l[k].st] 69)))
      have HRR := Lib.hid hR
      clear hR hJ2
      generalize l[k] = x at *
      gi_wp2
      refine (RoundIn.deep 8 HRR.out).mono ?_
      rintro e W3 (⟨rfl, hJ3, hk3⟩ | ⟨rfl, hJx3, hkx⟩)
      · have HJ3 := Lib.hid hJ3
        have HR3 := Lib.hid (hk3.1.row HR2.out hgS)
        clear hJ3 hk3
        gi_wp2
        go_roundw
        case rel => exact ⟨k + 1, by omega, by go_num, HJ3, HR3⟩
        case measure => simp [RowKit.intOf]; omega
      · have HJ3 := Lib.hid hJx3
        clear hJx3
        gi_wp2
        refine bodyPost_ret (results_none rfl _ _ _) rfl ?_
        exact ⟨⟨_, rfl⟩, .inr ⟨k + 1, by omega, HJ3.out⟩⟩
    · have hkl : k = l.length := by omega
      subst hkl
      gi_wp2
      go_end0
      exact ⟨⟨_, rfl⟩, .inl HJk.out⟩
theorem all1_yields (S : Nat → Prop) (B' B g cap : Nat) (l : List Blk) (w : World) (hl : l.length ≤ 4096) (hgS : ¬ S g) (hc : Bx1 w B 48 (.slice (some ⟨g, 0, none⟩) l.length cap)) (hr : Row w g cap l) :
    Yields Try.prog 56 #[.pointer (some ⟨B, 0, none⟩)] ev S B' (enum l) w := fun l0 J Jx W hW hB' hJ hJx hY h0 => by
  have hy : ∀ k (hk : k < l.length) W1, J k W1 → Ynd Try.prog l0 #[.int .i64 (k : Int), .agg #[.int .i64 l[k].er, .int .i64 l[k].st]] W1 fun e W' => (e = .returned (.bool true) ∧ J (k + 1) W' ∧ Kd S B' W1 W') ∨ (e = .returned (.bool false) ∧ Jx (k + 1) W' ∧ KeepsFrom B' W1 W') := fun k hk W1 h1 => by
    have := hY k (by rw [enum_length]; exact hk) W1 h1
    rw [enum_at hk] at this
    exact this
  have := all1_in S B' l0 B g cap l hl hgS J Jx W hJ hy (hc.below hW).cell (hr.below hW) h0
  rw [enum_length]
  exact this
theorem all1_nil (S : Nat → Prop) (B' B : Nat) (w : World) (hc : Bx1 w B 48 (.slice none 0 0)) :
    Yields Try.prog 56 #[.pointer (some ⟨B, 0, none⟩)] ev S B' (enum []) w := fun l0 J Jx W hW hB' hJ hJx hY h0 => by
  have c0 := (hc.below hW).cell
  have H0 := Lib.hid h0
  clear hY hJ hJx h0 hc
  refine callsIn_of_wp Try.func56 rfl trivial ?_ rfl
  simp only [Try.ntmps56, List.size_toArray, List.length_cons, List.length_nil, Nat.reduceAdd, Nat.reduceSub, Array.replicate_succ, Array.replicate_zero, List.push_toArray, List.append_toArray, List.nil_append, List.cons_append]
  gi_wp2
  refine wpIn_loop_rounds 1 ?_
  rw [roundsIn_succ]
  gi_wp2
  go_end0
  exact ⟨⟨_, rfl⟩, .inl H0.out⟩
theorem All_any (A : Option Addr) (n c : Nat) (W : World) : Calls Try.prog 40 #[.slice A n c] W fun e W' => e = .returned (.func (.func 56) #[] #[.pointer (some ⟨W.heap.size, 0, none⟩)]) ∧ W' = W.alloc (.cells #[.slice A n c] 48) := by
  refine (callsIn_wide (n := 9)).1 ?_
  refine callsIn_of_wp_marks Try.func40 rfl trivial ?_ rfl
  simp only [Try.ntmps40, List.size_toArray, List.length_cons, List.length_nil, Nat.reduceAdd, Nat.reduceSub, Array.replicate_succ, Array.replicate_zero, List.push_toArray, List.append_toArray, List.nil_append, List.cons_append]
  gi_wp2
  exact ⟨_, results_tmp rfl _ _ _, rfl, rfl⟩
end Go.Proofs.Ytpojgjbgbbnojaa
