/- Words for the memory: what has changed, bytes. No condition. -/
import Derived.Test.YtngaifokkkmmcaaRows
import Derived.WalkKit
import Derived.Below
import Derived.Laws.OwnMore
import Derived.Deep.AppendLies
import Derived.Deep.Draws
import Derived.OwnWalk
import Derived.Maps.AppendAt
import Derived.Maps.Own
import Derived.Maps.OwnOps
import Derived.Maps.OwnSet
import Derived.Maps.Views
import Derived.Lib.Hide
import Derived.Lib.SlKeysI
import Derived.Outline
import Derived.WalkSpells
import Derived.BigQuiet
import Derived.Deep.QuietTactic
import Derived.RegionTactic
import Derived.Deep.RegionHeld3
import Derived.Laws.BytesArg
import Derived.Laws.IdiomStrings
namespace Go.Proofs.Ytngaifokkkmmcaa
open Go.RowKit
set_option linter.unusedVariables false

/-- At most the blocks of S, and new ones, have changed. -/
structure Chg (S : Nat → Prop) (w w' : World) : Prop where
  os : w'.os = w.os
  tape : w'.tape = w.tape
  output : w'.output = w.output
  size : w.heap.size ≤ w'.heap.size
  block : ∀ k, k < w.heap.size → ¬ S k → w'.heap[k]? = w.heap[k]?
theorem Chg.refl (S : Nat → Prop) (w : World) : Chg S w w := ⟨rfl, rfl, rfl, Nat.le_refl _, fun _ _ _ => rfl⟩
theorem Chg.trans {S T : Nat → Prop} {a b c : World} (h : Chg S a b) (k : Chg T b c) (hT : ∀ i, T i → i < a.heap.size → S i) : Chg S a c :=
  ⟨k.os.trans h.os, k.tape.trans h.tape, k.output.trans h.output, Nat.le_trans h.size k.size, fun i hi hS => (k.block i (Nat.lt_of_lt_of_le hi h.size) (fun hTi => hS (hT i hTi hi))).trans (h.block i hi hS)⟩
theorem Chg.also {S : Nat → Prop} {a b c : World} (h : Chg S a b) (k : Chg S b c) : Chg S a c := h.trans k (fun _ h _ => h)
theorem Chg.of_below {S : Nat → Prop} {w w' : World} (h : Below w.heap.size w w') : Chg S w w' := ⟨h.os, h.tape, h.output, h.size, fun k hk _ => h.block k hk⟩
theorem Chg.then_below {S : Nat → Prop} {w w1 w' : World} (h : Chg S w w1) (k : Below w1.heap.size w1 w') : Chg S w w' := h.also (Chg.of_below k)
theorem Chg.of_grown {w w' : World} {row : Option Nat} (h : w.grownBy w' row) : Chg (fun b => row = some b) w w' := ⟨h.os, h.tape, h.output, h.size, fun k hk hn => h.block k hk (fun e => hn e.symm)⟩
theorem Chg.below {S : Nat → Prop} {B : Nat} {w w' : World} (h : Chg S w w') (hB : B ≤ w.heap.size) (hS : ∀ i, S i → B ≤ i) : Below B w w' :=
  ⟨h.os, h.tape, h.output, h.size, fun k hk => h.block k (by omega) (fun hk' => by have := hS k hk'; omega)⟩
theorem Chg.setCell {S : Nat → Prop} {a w : World} (h : Chg S a w) {p : Addr} (hp : S p.block) (u : Value) : Chg S a (w.setCell p u) :=
  ⟨h.os, h.tape, h.output, by simpa [World.setCell] using h.size, fun k hk hn => (Below.heap_setCell w p u k (by rintro rfl; exact hn hp)).trans (h.block k hk hn)⟩
theorem Chg.mono {S T : Nat → Prop} {w w' : World} (h : Chg S w w') (hST : ∀ i, S i → T i) : Chg T w w' := ⟨h.os, h.tape, h.output, h.size, fun k hk hn => h.block k hk (fun hs => hn (hST k hs))⟩
theorem Chg.drew {S : Nat → Prop} {a w : World} (h : Chg S a w) : Chg S a w.drew := ⟨h.os, h.tape, h.output, h.size, h.block⟩
theorem Chg.alloc {S : Nat → Prop} {a w : World} (h : Chg S a w) (o : Obj) : Chg S a (w.alloc o) := h.then_below ((Below.refl _ _).alloc (Nat.le_refl _) _)
theorem Chg.cell {S : Nat → Prop} {w w' : World} (h : Chg S w w') {p : Addr} (hp : p.block < w.heap.size) (hS : ¬ S p.block) : w'.cell? p = w.cell? p := World.cell?_of_block (w := w) (h.block p.block hp hS)
theorem Chg.frozen {S : Nat → Prop} {w w' : World} (h : Chg S w w') {p : Addr} (hp : p.block < w.heap.size) (hS : ¬ S p.block) : w'.frozen? p = w.frozen? p := World.frozen?_of_block (w := w) (h.block p.block hp hS)
theorem bcell {W w1 : World} (hb : Below W.heap.size W w1) : (∀ b o, b < W.heap.size → w1.cell? ⟨b, o, none⟩ = W.cell? ⟨b, o, none⟩) ∧ (∀ b o, b < W.heap.size → w1.frozen? ⟨b, o, none⟩ = W.frozen? ⟨b, o, none⟩) :=
  ⟨fun b o h => hb.cell (p := ⟨b, o, none⟩) h, fun b o h => hb.frozen (p := ⟨b, o, none⟩) h⟩
theorem add_plain (g o j : Nat) : (⟨g, o, none⟩ : Addr).add j = ⟨g, o + j, none⟩ := by unfold Addr.add; split <;> simp_all
def upd {α : Type} (V : Nat → α) (c : Nat) (v : α) (i : Nat) : α := if i = c then v else V i
theorem upd_same {α : Type} (V : Nat → α) (c : Nat) (v : α) : upd V c v c = v := by simp [upd]
theorem upd_ne {α : Type} (V : Nat → α) {c i : Nat} (v : α) (h : i ≠ c) : upd V c v i = V i := by simp [upd, h]

/-- The cells of bytes. -/
def bv (l : List UInt8) : List Value := l.map fun b => .int .u8 (b.toNat : Int)
theorem bv_length (l : List UInt8) : (bv l).length = l.length := by simp [bv]
theorem bv_append (a b : List UInt8) : bv (a ++ b) = bv a ++ bv b := by simp [bv]
theorem bv_one (l : List UInt8) : ∀ u ∈ bv l, u.oneCell' = true := by
  intro u hu
  simp only [bv, List.mem_map] at hu
  obtain ⟨b, _, rfl⟩ := hu
  rfl
theorem bv_get {l : List UInt8} {j : Nat} (h : j < l.length) : (bv l)[j]? = some (.int .u8 (l[j].toNat : Int)) := by simp [bv, h]

/-- A slice value that reads as the bytes l. -/
def Byt (w : World) (v : Value) (l : List UInt8) : Prop :=
  ∃ A c, v = .slice A l.length c ∧ l.length ≤ c ∧ (0 < l.length → ∃ g o, A = some ⟨g, o, none⟩ ∧ g < w.heap.size ∧ ∀ j (hj : j < l.length), w.cell? ⟨g, o + j, none⟩ = some (.int .u8 (l[j].toNat : Int)))
theorem Byt.keep {w w' : World} {v : Value} {l : List UInt8} (h : Byt w v l) (hs : w.heap.size ≤ w'.heap.size) (hk : ∀ p : Addr, p.block < w.heap.size → w'.cell? p = w.cell? p) : Byt w' v l := by
  obtain ⟨A, c, rfl, hc, hr⟩ := h
  refine ⟨A, c, rfl, hc, fun hn => ?_⟩
  obtain ⟨g, o, rfl, hg, hcell⟩ := hr hn
  exact ⟨g, o, rfl, by omega, fun j hj => (hk _ hg).trans (hcell j hj)⟩
theorem Byt.below {w w' : World} {v : Value} {l : List UInt8} (h : Byt w v l) (hb : Below w.heap.size w w') : Byt w' v l := h.keep hb.size fun _ hp => hb.cell hp
theorem Byt.nil (w : World) : Byt w (.slice none 0 0) [] := ⟨_, 0, rfl, by simp, fun h => absurd h (by simp)⟩
/-- The row of the bytes is none of the blocks of S. -/
def Off (S : Nat → Prop) (v : Value) (l : List UInt8) : Prop := 0 < l.length → ∀ b, v.ownBlock = some b → ¬ S b
theorem Byt.chg {S : Nat → Prop} {w w' : World} {v : Value} {l : List UInt8} (h : Byt w v l) (hc : Chg S w w') (ho : Off S v l) : Byt w' v l := by
  obtain ⟨A, c, rfl, hl, hr⟩ := h
  refine ⟨A, c, rfl, hl, fun hn => ?_⟩
  obtain ⟨g, o, rfl, hg, hcell⟩ := hr hn
  exact ⟨g, o, rfl, Nat.lt_of_lt_of_le hg hc.size, fun j hj => (hc.cell (p := ⟨g, o + j, none⟩) hg (ho hn g rfl)).trans (hcell j hj)⟩
theorem Byt.lt {w : World} {v : Value} {l : List UInt8} (h : Byt w v l) (h0 : 0 < l.length) {b : Nat} (hb : v.ownBlock = some b) : b < w.heap.size := by
  obtain ⟨A, c, rfl, hl, hr⟩ := h
  obtain ⟨g, o, rfl, hg, _⟩ := hr h0
  simp only [Value.ownBlock, Option.some.injEq] at hb
  omega
theorem Byt.off {w : World} {v : Value} {l : List UInt8} {S : Nat → Prop} (h : Byt w v l) (hS : ∀ b, S b → w.heap.size ≤ b) : Off S v l := fun h0 b hb hs => by
  have h1 := h.lt h0 hb
  have h2 := hS b hs
  omega
theorem Off.mono {S T : Nat → Prop} {v : Value} {l : List UInt8} (h : Off S v l) (hT : ∀ i, T i → S i) : Off T v l := fun h0 b hb ht => h h0 b hb (hT b ht)
theorem Byt.of_own {w : World} {base n : Nat} {e : TypeId} {v : Value} {l : List UInt8} (h : w.ownsRow base e 1 v n (bv l)) : Byt w v l := by
  have hn : n = l.length := by have := h.1; rw [bv_length] at this; omega
  subst hn
  rcases h.2 with ⟨rfl, h0⟩ | ⟨g, cap, cur, rfl, _, hg, hnc, _, _, _⟩
  · exact ⟨Option.none, 0, by rw [h0], by omega, fun hp => absurd hp (by omega)⟩
  · refine ⟨_, cap, rfl, hnc, fun hp => ⟨g, 0, rfl, (Array.getElem?_eq_some_iff.1 hg).1, fun j hj => ?_⟩⟩
    rw [Nat.zero_add, h.cellAt j (by omega), bv_get hj]
/-- The same, in a block of bytes. -/
def BytT (w : World) (v : Value) (l : List UInt8) : Prop := Byt w v l ∧ (0 < l.length → ∀ b, v.ownBlock = some b → ∃ cs fr, w.heap[b]? = some (.cells cs 5 fr))
theorem BytT.nil (w : World) : BytT w (.slice none 0 0) [] := ⟨Byt.nil w, fun h => absurd h (by simp)⟩
/-- The blocks of S bear other types than bytes. -/
def NoBytes (S : Nat → Prop) (w : World) : Prop := ∀ b, b < w.heap.size → S b → ∀ cs fr, w.heap[b]? ≠ some (.cells cs 5 fr)
theorem BytT.chg {S : Nat → Prop} {w w' : World} {v : Value} {l : List UInt8} (h : BytT w v l) (hc : Chg S w w') (hS : NoBytes S w) : BytT w' v l := by
  have ho : Off S v l := fun h0 b hb hs => by
    obtain ⟨cs, fr, e⟩ := h.2 h0 b hb
    exact hS b (h.1.lt h0 hb) hs cs fr e
  refine ⟨h.1.chg hc ho, fun h0 b hb => ?_⟩
  obtain ⟨cs, fr, e⟩ := h.2 h0 b hb
  exact ⟨cs, fr, (hc.block b (h.1.lt h0 hb) (ho h0 b hb)).trans e⟩
theorem BytT.below {w w' : World} {v : Value} {l : List UInt8} (h : BytT w v l) (hb : Below w.heap.size w w') : BytT w' v l := h.chg (S := fun _ => False) (Chg.of_below hb) fun _ _ hf => hf.elim
theorem BytT.off {S : Nat → Prop} {w : World} {v : Value} {l : List UInt8} (h : BytT w v l) (hS : NoBytes S w) : Off S v l := fun h0 b hb hs => by
  obtain ⟨cs, fr, e⟩ := h.2 h0 b hb
  exact hS b (h.1.lt h0 hb) hs cs fr e
theorem BytT.of_own {w : World} {base n : Nat} {v : Value} {l : List UInt8} (h : w.ownsRow base 5 1 v n (bv l)) : BytT w v l := by
  refine ⟨Byt.of_own h, fun h0 b hb => ?_⟩
  rcases h.2 with ⟨rfl, h0⟩ | ⟨g, cap, cur, rfl, _, hg, hnc, _, _, _⟩
  · cases hb
  · simp only [Value.ownBlock, Option.some.injEq] at hb
    subst hb
    exact ⟨_, _, hg⟩

end Go.Proofs.Ytngaifokkkmmcaa
