/- The state of MappingCopies. Conditions stand in each theorem. -/
import Derived.Test.YteiemegkdnjpgaaYB
import Derived.Test.YteiemegkdnjpgaaYD
namespace Go.Proofs.Yteiemegkdnjpgaa
open Go.RowKit Go.Shelf
set_option linter.unusedVariables false
set_option maxRecDepth 100000
section
variable {X Y s b p : Nat} {S T : Nat → Prop} {u u' v : Value} {L L' L1 : List (Int × Int)} {W W' w5 : World}
theorem Rf.widen (h : Rf X s b p S u L W) (hT : ∀ k, T k → W.heap.size ≤ k) : Rf X s b p (fun k => S k ∨ T k) u L W :=
  ⟨h.row, h.ent, fun h0 k hk => ⟨(h.own h0 k hk).1, fun hs => hs.elim (h.own h0 k hk).2 (fun ht => by have := hT k ht; have := old_own h.ent h0 hk; omega)⟩, fun hs => hs.elim h.nx (fun ht => by have := hT X ht; have := h.lt; omega)⟩
/-- The list that Apply of the reference gives lies apart. -/
theorem rap_apart {N : Nat} (hr : Rf X s b p S u L W) (he : Ent w5 u' L1) (ho : u' = u ∨ (0 < L1.length → ∀ k, u'.ownBlock = some k → N ≤ k)) (hN : W.heap.size ≤ N) (hS : ∀ k, S k → k < W.heap.size) : 0 < L1.length → ∀ k, u'.ownBlock = some k → k ≠ X ∧ ¬ S k := by
  intro h0 k hk
  rcases ho with e | e
  · obtain ⟨A, c, e1, _⟩ := he.form
    obtain ⟨A', c', e2, _⟩ := hr.ent.form
    rw [e, e2] at e1
    injection e1 with _ el _
    rw [e] at hk
    exact hr.own (by omega) k hk
  · have h1 := e h0 k hk
    have h2 := hr.lt
    exact ⟨by omega, fun hs => by have := hS k hs; omega⟩
/-- The result in a block of its own. -/
theorem rap_new {N : Nat} (hr : Rf X s b p S u L W) (he : Ent w5 u' L1) (ho : u' = u ∨ (0 < L1.length → ∀ k, u'.ownBlock = some k → N ≤ k)) (hN : W.heap.size ≤ N) (hS : ∀ k, S k → k < W.heap.size) (h5 : W.heap.size ≤ w5.heap.size) :
    Rf w5.heap.size s b p S u' L1 (w5.alloc (.cells #[.int .i64 (s : Int), .int .i64 (b : Int), .int .i64 (p : Int), u'] 29)) :=
  ⟨heap_alloc_new w5 _, he.below (below_alloc w5 _), fun h0 k hk => ⟨by have := old_own he h0 hk; omega, (rap_apart hr he ho hN hS h0 k hk).2⟩, fun hs => by have := hS _ hs; omega⟩
/-- An iterator over pairs, apart from S. -/
structure Sq (B : Nat) (v : Value) (l : List (Int × Int)) (S : Nat → Prop) (W : World) : Prop where
  bx : Bx1 W B 79 v
  ent : Ent W v l
  lt : ∀ k, v.ownBlock = some k → k < W.heap.size
  nB : ¬ S B
  own : ∀ k, v.ownBlock = some k → ¬ S k
variable {B : Nat} {l : List (Int × Int)}
theorem Sq.later (h : Sq B v l S W) (hb : Below W.heap.size W W') : Sq B v l S W' := ⟨h.bx.below hb, h.ent.below hb, fun k hk => Nat.lt_of_lt_of_le (h.lt k hk) hb.size, h.nB, h.own⟩
theorem Sq.chg (h : Sq B v l S W) (hc : Chg S W W') : Sq B v l S W' := ⟨h.bx.chg hc h.nB, h.ent.chg hc (fun k hk => h.own k hk), fun k hk => Nat.lt_of_lt_of_le (h.lt k hk) hc.size, h.nB, h.own⟩
theorem Sq.widen (h : Sq B v l S W) (hT : ∀ k, T k → W.heap.size ≤ k) : Sq B v l (fun k => S k ∨ T k) W :=
  ⟨h.bx, h.ent, h.lt, fun hs => hs.elim h.nB (fun ht => by have := hT B ht; have := h.bx.lt; omega), fun k hk hs => hs.elim (h.own k hk) (fun ht => by have := hT k ht; have := h.lt k hk; omega)⟩
theorem sq_of {E : World} (h0 : W.heap.size ≤ B) (hx : Bx1 E B 79 v) (he : Ent E v l) (hv : ∀ k, v.ownBlock = some k → W.heap.size ≤ k ∧ k < E.heap.size) (hS : ∀ k, S k → k < W.heap.size) : Sq B v l S E :=
  ⟨hx, he, fun k hk => (hv k hk).2, fun hs => by have := hS B hs; omega, fun k hk hs => by have := hS k hs; have := (hv k hk).1; omega⟩
theorem Sq.read (h : Sq B v l S W) (hl : l.length ≤ 16777216) (sec : Bool) (most : Int) : Calls Try.prog 21 #[.func (.func 50) #[] #[.pointer (some ⟨B, 0, none⟩)], .bool sec, .int .i64 most] W (LisP W (rdl sec most l)) := read_any h.bx h.ent h.lt hl sec most
end
def FsP (P : Pt) (k : Nat) : Prop := Fs P.bb P.m1 P.m2 P.g k
def S12 (P Q : Pt) (k : Nat) : Prop := FsP P k ∨ FsP Q k
/-- Two mappings, three maps of the reference, two iterators, two lists of entries. -/
structure Cs (w1 : World) (A T X Y1 Y2 B1 B2 : Nat) (P Q : Pt) (s b p : Nat) (u0 u1 u ux uy sv1 sv2 : Value) (M O L L1 L2 pl : List (Int × Int)) (W : World) : Prop where
  t : W.heap[T]? = some (.cells #[u0, u1] 39 (0, 0))
  m : Mq W w1.heap.size P s b p M
  o : Mq W A Q s b p O
  u : Rf X s b p (S12 P Q) u L W
  x : Rf Y1 s b p (S12 P Q) ux L1 W
  y : Rf Y2 s b p (S12 P Q) uy L2 W
  q1 : Sq B1 sv1 L (S12 P Q) W
  q2 : Sq B2 sv2 pl (S12 P Q) W
  bel : Below w1.heap.size w1 W
  lo : ∀ k, FsP P k → k < A
  ht : T < w1.heap.size
  hA : w1.heap.size ≤ A
section
variable {w1 W W' : World} {A T X Y1 Y2 B1 B2 : Nat} {P Q : Pt} {s b p : Nat} {u0 u1 u ux uy sv1 sv2 : Value} {M O L L1 L2 pl : List (Int × Int)}
theorem mq_fs {base : Nat} (h : Mq W base P s b p M) {k : Nat} (hk : FsP P k) : base ≤ k ∧ k < W.heap.size := by
  rcases hk with rfl | hk
  · exact ⟨h.h0, Mg.lt h⟩
  · exact ⟨Mg.ft_ge h hk, Mg.ft_lt h hk⟩
theorem Cs.later (h : Cs w1 A T X Y1 Y2 B1 B2 P Q s b p u0 u1 u ux uy sv1 sv2 M O L L1 L2 pl W) (hb : Below W.heap.size W W') : Cs w1 A T X Y1 Y2 B1 B2 P Q s b p u0 u1 u ux uy sv1 sv2 M O L L1 L2 pl W' :=
  ⟨(hb.block _ (Array.getElem?_eq_some_iff.1 h.t).1).trans h.t, Mg.below h.m hb, Mg.below h.o hb, h.u.later hb, h.x.later hb, h.y.later hb, h.q1.later hb, h.q2.later hb, h.bel.trans (hb.mono h.bel.size), h.lo, h.ht, h.hA⟩
theorem Cs.t0 (h : Cs w1 A T X Y1 Y2 B1 B2 P Q s b p u0 u1 u ux uy sv1 sv2 M O L L1 L2 pl W) : W.cell? ⟨T, 0, none⟩ = some u0 := by rw [cell_of_row W _ 0 _ _ _ h.t]; rfl
theorem Cs.t1 (h : Cs w1 A T X Y1 Y2 B1 B2 P Q s b p u0 u1 u ux uy sv1 sv2 M O L L1 L2 pl W) : W.cell? ⟨T, 1, none⟩ = some u1 := by rw [cell_of_row W _ 1 _ _ _ h.t]; rfl
theorem Cs.ap1 (h : Cs w1 A T X Y1 Y2 B1 B2 P Q s b p u0 u1 u ux uy sv1 sv2 M O L L1 L2 pl W) {v : Value} {xs : List (Int × Int)} (hv : Ent w1 v xs) (hl : xs.length ≤ 4096) (hR : Rng xs) : Calls Try.prog 14 #[.pointer (some ⟨P.bb, 0, none⟩), v] W fun e w' => e = .returned (.int .i64 (appE s b p M xs)) ∧ Cs w1 A T X Y1 Y2 B1 B2 P Q s b p u0 u1 u ux uy sv1 sv2 (appS s b p M M xs) O L L1 L2 pl w' :=
  (Apply_any h.m (hv.below h.bel) (fun h0 k hk hf => by have := old_own hv h0 hk; have := Mg.ft_ge h.m hf; omega) hl hR).mono fun e w' ⟨a1, a2, a3⟩ => by
    have hc : Chg (S12 P Q) W w' := a3.mono fun i hi => .inl (.inr hi)
    have hne : ∀ k, FsP Q k → ¬ Ft P.m1 P.m2 P.g k := fun k hq hp => by have := (mq_fs h.o hq).1; have := h.lo k (.inr hp); omega
    refine ⟨a1, (a3.block T (Array.getElem?_eq_some_iff.1 h.t).1 (fun hf => by have := Mg.ft_ge h.m hf; have := h.ht; omega)).trans h.t, a2, Mg.chg h.o a3 (hne _ (.inl rfl)) (fun k hk => hne k (.inr hk)), h.u.chg hc, h.x.chg hc, h.y.chg hc, h.q1.chg hc, h.q2.chg hc, h.bel.trans (a3.below h.bel.size (fun k hk => Mg.ft_ge h.m hk)), h.lo, h.ht, h.hA⟩
theorem Cs.ap2 (h : Cs w1 A T X Y1 Y2 B1 B2 P Q s b p u0 u1 u ux uy sv1 sv2 M O L L1 L2 pl W) {v : Value} {xs : List (Int × Int)} (hv : Ent w1 v xs) (hl : xs.length ≤ 4096) (hR : Rng xs) : Calls Try.prog 14 #[.pointer (some ⟨Q.bb, 0, none⟩), v] W fun e w' => e = .returned (.int .i64 (appE s b p O xs)) ∧ Cs w1 A T X Y1 Y2 B1 B2 P Q s b p u0 u1 u ux uy sv1 sv2 M (appS s b p O O xs) L L1 L2 pl w' :=
  (Apply_any h.o (hv.below h.bel) (fun h0 k hk hf => by have := old_own hv h0 hk; have := Mg.ft_ge h.o hf; have := h.hA; omega) hl hR).mono fun e w' ⟨a1, a2, a3⟩ => by
    have hc : Chg (S12 P Q) W w' := a3.mono fun i hi => .inr (.inr hi)
    have hne : ∀ k, FsP P k → ¬ Ft Q.m1 Q.m2 Q.g k := fun k hp hq => by have := (mq_fs h.o (k := k) (.inr hq)).1; have := h.lo k hp; omega
    refine ⟨a1, (a3.block T (Array.getElem?_eq_some_iff.1 h.t).1 (fun hf => by have := Mg.ft_ge h.o hf; have := h.ht; have := h.hA; omega)).trans h.t, Mg.chg h.m a3 (hne _ (.inl rfl)) (fun k hk => hne k (.inr hk)), a2, h.u.chg hc, h.x.chg hc, h.y.chg hc, h.q1.chg hc, h.q2.chg hc, h.bel.trans (a3.below h.bel.size (fun k hk => by have := Mg.ft_ge h.o hk; have := h.hA; omega)), h.lo, h.ht, h.hA⟩
end
end Go.Proofs.Yteiemegkdnjpgaa
