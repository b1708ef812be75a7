/- Slices that read as pairs; the iterator of slices.Backward; the contract of restore. Conditions stand in each theorem. -/
import Derived.Test.YteiemegkdnjpgaaV
namespace Go.Proofs.Yteiemegkdnjpgaa
open Go.RowKit Go.Shelf
attribute [local go_sem] Oper.semAt_some
set_option linter.unusedVariables false
set_option maxHeartbeats 2000000
set_option maxRecDepth 100000
/-- A slice value that reads as pairs. -/
def Ent (W : World) (v : Value) (l : List (Int × Int)) : Prop :=
  ∃ A c, v = .slice A l.length c ∧ l.length ≤ c ∧ (0 < l.length → ∃ g o cs ty fr, A = some ⟨g, o, none⟩ ∧ W.heap[g]? = some (.cells cs ty fr) ∧ ∀ j (hj : j < l.length), cs[o + j * 2]? = some (.int .i64 l[j].1) ∧ cs[o + j * 2 + 1]? = some (.int .i64 l[j].2))
section
variable {S : Nat → Prop} {A B C W W' : World} {v : Value} {l : List (Int × Int)}
theorem Ent.nil (W : World) (c : Nat) (A : Option Addr) : Ent W (.slice A 0 c) [] := ⟨A, c, rfl, Nat.zero_le _, fun h => absurd h (by simp)⟩
theorem Ent.keep (h : Ent W v l) (hk : ∀ b, v.ownBlock = some b → ∀ o, W.heap[b]? = some o → o.isCells = true → W'.heap[b]? = some o) : Ent W' v l := by
  obtain ⟨A, c, rfl, hc, hr⟩ := h
  refine ⟨A, c, rfl, hc, fun h0 => ?_⟩
  obtain ⟨g, o, cs, ty, fr, rfl, hg, hj⟩ := hr h0
  exact ⟨g, o, cs, ty, fr, rfl, hk g rfl _ hg rfl, hj⟩
theorem Ent.below (h : Ent W v l) (hb : Below W.heap.size W W') : Ent W' v l := h.keep fun b _ o ho _ => (hb.block b (Array.getElem?_eq_some_iff.1 ho).1).trans ho
theorem Ent.kc (h : Ent W v l) (hk : Kc S W W') (hS : ∀ b, v.ownBlock = some b → ¬ S b) : Ent W' v l := h.keep fun b hb o ho hc => hk.2 b o ho hc (hS b hb)
theorem Ent.chg (h : Ent W v l) (hk : Chg S W W') (hS : ∀ b, v.ownBlock = some b → ¬ S b) : Ent W' v l := h.keep fun b hb o ho hc => (hk.block b (Array.getElem?_eq_some_iff.1 ho).1 (hS b hb)).trans ho
theorem Ent.at (h : Ent W v l) {j : Nat} (hj : j < l.length) : ∃ g o c, v = .slice (some ⟨g, o, none⟩) l.length c ∧ W.cell? ⟨g, o + j * 2, none⟩ = some (.int .i64 l[j].1) ∧ W.cell? ⟨g, o + j * 2 + 1, none⟩ = some (.int .i64 l[j].2) := by
  obtain ⟨A, c, rfl, hc, hr⟩ := h
  obtain ⟨g, o, cs, ty, fr, rfl, hg, hj'⟩ := hr (by omega)
  exact ⟨g, o, c, rfl, (cell_of_row W g _ cs ty fr hg).trans (hj' j hj).1, (cell_of_row W g _ cs ty fr hg).trans (hj' j hj).2⟩
theorem Ent.form (h : Ent W v l) : ∃ A c, v = .slice A l.length c ∧ l.length ≤ c := by
  obtain ⟨A, c, h1, h2, _⟩ := h
  exact ⟨A, c, h1, h2⟩
/-- A box of one cell. -/
def Bx1 (W : World) (q : Nat) (t : TypeId) (v : Value) : Prop := W.heap[q]? = some (.cells #[v] t (0, 0))
theorem Bx1.cell {q : Nat} {t : TypeId} {v : Value} (h : Bx1 W q t v) : W.cell? ⟨q, 0, none⟩ = some v := by rw [cell_of_row W q 0 _ t (0, 0) h]; rfl
theorem Bx1.free {q : Nat} {t : TypeId} {v : Value} (h : Bx1 W q t v) : W.frozen? ⟨q, 0, none⟩ = false := frozen_of_row W q 0 _ t h
theorem Bx1.lt {q : Nat} {t : TypeId} {v : Value} (h : Bx1 W q t v) : q < W.heap.size := (Array.getElem?_eq_some_iff.1 h).1
theorem Bx1.kc {q : Nat} {t : TypeId} {v : Value} (hb : Bx1 W q t v) (h : Kc S W W') (hS : ¬ S q) : Bx1 W' q t v := h.2 q _ hb rfl hS
theorem Bx1.chg {q : Nat} {t : TypeId} {v : Value} (hb : Bx1 W q t v) (h : Chg S W W') (hS : ¬ S q) : Bx1 W' q t v := (h.block q hb.lt hS).trans hb
theorem Bx1.below {q : Nat} {t : TypeId} {v : Value} (hb : Bx1 W q t v) (h : Below W.heap.size W W') : Bx1 W' q t v := (h.block q hb.lt).trans hb
theorem Bx1.new (W : World) (t : TypeId) (v : Value) : Bx1 (W.alloc (.cells #[v] t)) W.heap.size t v := heap_alloc_new W _
theorem own_bx {β : Type} {q : Nat} {t : TypeId} {v : Value} (B : Nat) : OwnFrom B (fun (_ : β) W => Bx1 W q t v) := fun k X Y row hs hg hr => by
  refine (hg.block q hs.lt (fun e => ?_)).trans hs
  obtain ⟨o, ho, hc⟩ := (hr q e.symm).2
  rw [show X.heap[q]? = _ from hs] at ho; cases ho; cases hc
theorem own_ent {β : Type} {v : Value} {l : List (Int × Int)} (B : Nat) : OwnFrom B (fun (_ : β) W => Ent W v l) := fun k X Y row hs hg hr =>
  hs.keep fun b hb o ho hc => (hg.block b (Array.getElem?_eq_some_iff.1 ho).1 (fun e => by
    obtain ⟨o', ho', hc'⟩ := (hr b e.symm).2
    rw [ho] at ho'; cases ho'; rw [hc] at hc'; cases hc')).trans ho
theorem own_chg {β : Type} {E : World} {B : Nat} (hB : E.heap.size ≤ B) : OwnFrom B (fun (_ : β) W => Chg S E W) := fun k X Y row hs hg hr =>
  ⟨hg.os.trans hs.os, hg.tape.trans hs.tape, hg.output.trans hs.output, Nat.le_trans hs.size hg.size, fun i hi hn => (hg.block i (Nat.lt_of_lt_of_le hi hs.size) (fun e => by have := (hr i e.symm).1; omega)).trans (hs.block i hi hn)⟩
theorem own_mg {β : Type} {base bb m1 m2 g cap s b p : Nat} {L : List (Int × Int)} {B : Nat} (hB : m1 < B ∧ m2 < B) : OwnFrom B (fun (_ : β) W => Mg W base bb m1 m2 g cap s b p L) := fun k X Y row hs hg hr => by
  have hc : ∀ (t : Nat) (o : Obj), X.heap[t]? = some o → o.isCells = true → Y.heap[t]? = X.heap[t]? := fun t o ho hc => hg.block t (Array.getElem?_eq_some_iff.1 ho).1 fun e => by
    obtain ⟨o', ho', hc'⟩ := (hr t e.symm).2
    rw [ho] at ho'; cases ho'; rw [hc] at hc'; cases hc'
  obtain ⟨cur, h1, _⟩ := hs.row
  refine hs.keep (hc _ _ hs.blk rfl) fun t ht => ?_
  rcases ht with rfl | rfl | rfl
  · exact hg.block _ hs.map1.lt fun e => by have := (hr _ e.symm).1; omega
  · exact hg.block _ hs.map2.lt fun e => by have := (hr _ e.symm).1; omega
  · exact hc _ _ h1 rfl
end
/-- What slices.Backward yields. -/
def bwl (l : List (Int × Int)) : List (Nat × (Int × Int)) := (List.range l.length).map fun r => (l.length - 1 - r, l.getD (l.length - 1 - r) (0, 0))
theorem bwl_length (l : List (Int × Int)) : (bwl l).length = l.length := by simp [bwl]
theorem bwl_at {l : List (Int × Int)} {r : Nat} (h : r < l.length) : (bwl l)[r]'(by rw [bwl_length]; exact h) = (l.length - 1 - r, l[l.length - 1 - r]) := by
  simp [bwl]
  rw [List.getElem?_eq_getElem (by omega)]
  rfl
abbrev ev (x : Nat × (Int × Int)) : Array Value := #[.int .i64 (x.1 : Int), .agg #[.int .i64 x.2.1, .int .i64 x.2.2]]
theorem bw_in (S : Nat → Prop) (B' l0 B : Nat) (v : Value) (l : List (Int × Int)) (hl : l.length ≤ 4096) (hgS : ∀ b, v.ownBlock = some b → ¬ S b) (hBS : ¬ S B) (J Jx : Nat → World → Prop) (W0 : World)
    (hY : ∀ r (hr : r < l.length) W1, J r W1 → Ynd Try.prog l0 (ev (l.length - 1 - r, l[l.length - 1 - r])) W1 fun e W' => (e = .returned (.bool true) ∧ J (r + 1) W' ∧ Kd S B' W1 W') ∨ (e = .returned (.bool false) ∧ Jx (r + 1) W' ∧ KeepsFrom B' W1 W'))
    (hc : Bx1 W0 B 27 v) (hr : Ent W0 v l) (h0 : J 0 W0) :
    CallsIn Fence.wide 9 Try.prog 54 #[.func (.yield l0) #[] #[], .pointer (some ⟨B, 0, none⟩)] W0 fun e W' => (∃ u, e = .returned u) ∧ (J l.length W' ∨ ∃ k, k ≤ l.length ∧ Jx k W') := by
  have H0 := Lib.hid h0
  have HR := Lib.hid hr
  have HY := Lib.hid hY
  have HC := Lib.hid hc
  have k0 := hc.cell
  obtain ⟨A, c, hv, _⟩ := hr.form
  rw [hv] at k0
  have HV := Lib.hid hv
  have hl2 : (l.length : Int) ≤ 4096 := by omega
  clear h0 hr hY hc hv
  refine callsIn_of_wp Try.func54 rfl trivial ?_ rfl
  simp only [Try.ntmps54, List.size_toArray, List.length_cons, List.length_nil, Nat.reduceAdd, Nat.reduceSub, Array.replicate_succ, Array.replicate_zero, List.push_toArray, List.append_toArray, List.nil_append, List.cons_append]
  gi_wp2
  gi_loopw [3] (fun i wr => ∃ (k : Nat) (z : Int), k ≤ l.length ∧ i = .int .i64 z ∧ z = (k : Int) - 1 ∧ Hid (J (l.length - k) wr) ∧ Hid (Ent wr v l) ∧ Hid (Bx1 wr B 27 v)) (fun i _ => (RowKit.intOf i + 1).toNat)
  case atStart => exact ⟨l.length, _, Nat.le_refl _, rfl, rfl, Lib.hid (by rw [Nat.sub_self]; exact H0.out), HR, HC⟩
  case round =>
    obtain ⟨k, z, hk, rfl, hz, HJk, HRk, HBk⟩ := hrel
    by_cases hk0 : k = 0
    · have hz1 : z = -1 := by omega
      subst hz1
      have HJ2 := Lib.hid (show J l.length wr by have := HJk.out; rw [hk0] at this; exact this)
      clear hz HJk
      gi_wp2
      go_end0
      exact ⟨⟨_, rfl⟩, .inl HJ2.out⟩
    · obtain ⟨k', rfl⟩ : ∃ k', k = k' + 1 := ⟨k - 1, by omega⟩
      have hz1 : z = (k' : Int) := by omega
      subst hz1
      have hlt : k' < l.length := by omega
      obtain ⟨g, o, cc, hvg, c0, c1⟩ := HRk.out.at hlt
      have kb := HBk.out.cell
      rw [hvg] at kb
      have hYY := HY.out (l.length - (k' + 1)) (by omega) _ HJk.out
      have e3 : ev (l.length - 1 - (l.length - (k' + 1)), l[l.length - 1 - (l.length - (k' + 1))]) = ev (k', l[k']) := by
        have e1 : l.length - 1 - (l.length - (k' + 1)) = k' := by omega
        simp only [e1]
      rw [e3, show l.length - (k' + 1) + 1 = l.length - k' by omega] at hYY
      obtain ⟨fn, tmps, assign, body, hy, hR⟩ := hYY
      dsimp only [ev] at hy
      have HRR := Lib.hid hR
      have hli : (k' : Int) < l.length := by omega
      clear hR hz e3 hvg
      generalize l[k'] = x at *
      gi_wp2
      refine (RoundIn.deep 8 HRR.out).mono ?_
      rintro e W3 (⟨rfl, hJ3, hk3⟩ | ⟨rfl, hJx3, hkx⟩)
      · have HJ3 := Lib.hid hJ3
        have HR3 := Lib.hid (HRk.out.kc hk3.1 hgS)
        have HB3 := Lib.hid (HBk.out.kc hk3.1 hBS)
        clear hJ3 hk3
        gi_wp2
        go_roundw
        case rel => exact ⟨k', _, by omega, by go_num, rfl, HJ3, HR3, HB3⟩
        case measure => simp [RowKit.intOf]
      · have HJ3 := Lib.hid hJx3
        clear hJx3
        gi_wp2
        refine bodyPost_ret (results_none rfl _ _ _) rfl ?_
        exact ⟨⟨_, rfl⟩, .inr ⟨l.length - k', by omega, HJ3.out⟩⟩
theorem bw_yields (S : Nat → Prop) (B' B : Nat) (v : Value) (l : List (Int × Int)) (w : World) (hl : l.length ≤ 4096) (hgS : ∀ b, v.ownBlock = some b → ¬ S b) (hBS : ¬ S B) (hc : Bx1 w B 27 v) (hr : Ent w v l) :
    Yields Try.prog 54 #[.pointer (some ⟨B, 0, none⟩)] ev S B' (bwl l) w := fun l0 J Jx W hW hB' hJ hJx hY h0 => by
  have hy : ∀ k (hk : k < l.length) W1, J k W1 → Ynd Try.prog l0 (ev (l.length - 1 - k, l[l.length - 1 - k])) W1 fun e W' => (e = .returned (.bool true) ∧ J (k + 1) W' ∧ Kd S B' W1 W') ∨ (e = .returned (.bool false) ∧ Jx (k + 1) W' ∧ KeepsFrom B' W1 W') := fun k hk W1 h1 => by
    have := hY k (by rw [bwl_length]; exact hk) W1 h1
    rw [bwl_at hk] at this
    exact this
  have := bw_in S B' l0 B v l hl hgS hBS J Jx W hy (hc.below hW) (hr.below hW) h0
  rw [bwl_length]
  exact this
theorem Backward_any (A : Option Addr) (n c : Nat) (W : World) : Calls Try.prog 46 #[.slice A n c] W fun e W' => e = .returned (.func (.func 54) #[] #[.pointer (some ⟨W.heap.size, 0, none⟩)]) ∧ W' = W.alloc (.cells #[.slice A n c] 27) := by
  refine (callsIn_wide (n := 9)).1 ?_
  refine callsIn_of_wp_marks Try.func46 rfl trivial ?_ rfl
  simp only [Try.ntmps46, List.size_toArray, List.length_cons, List.length_nil, Nat.reduceAdd, Nat.reduceSub, Array.replicate_succ, Array.replicate_zero, List.push_toArray, List.append_toArray, List.nil_append, List.cons_append]
  gi_wp2
  exact ⟨_, results_tmp rfl _ _ _, rfl, rfl⟩
end Go.Proofs.Yteiemegkdnjpgaa
