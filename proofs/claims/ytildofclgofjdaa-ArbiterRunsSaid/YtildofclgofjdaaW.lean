/- Words for the memory that package arbiter keeps: what has changed, a map of queues, an arbiter. No condition. -/
import Derived.Test.YtildofclgofjdaaRows
import Derived.WalkKit
import Derived.Below
import Derived.Laws.OwnMore
import Derived.Deep.AppendLies
import Derived.Deep.Draws
import Derived.OwnWalk
import Derived.Maps.AppendAt
import Derived.Maps.Own
import Derived.Maps.OwnOps
import Derived.Maps.OwnSet
import Derived.Maps.Views
import Derived.Lib.Hide
import Derived.Lib.SlKeysI
import Derived.Outline
import Derived.WalkSpells
import Derived.BigQuiet
import Derived.Deep.QuietTactic
import Derived.RegionTactic
import Derived.Deep.RegionHeld3
namespace Go.Proofs.Ytildofclgofjdaa
open Go.RowKit
set_option linter.unusedVariables false

/-- At most the blocks of S, and new ones, have changed. -/
structure Chg (S : Nat → Prop) (w w' : World) : Prop where
  os : w'.os = w.os
  tape : w'.tape = w.tape
  output : w'.output = w.output
  size : w.heap.size ≤ w'.heap.size
  block : ∀ k, k < w.heap.size → ¬ S k → w'.heap[k]? = w.heap[k]?
theorem Chg.refl (S : Nat → Prop) (w : World) : Chg S w w := ⟨rfl, rfl, rfl, Nat.le_refl _, fun _ _ _ => rfl⟩
theorem Chg.trans {S T : Nat → Prop} {a b c : World} (h : Chg S a b) (k : Chg T b c) (hT : ∀ i, T i → i < a.heap.size → S i) : Chg S a c :=
  ⟨k.os.trans h.os, k.tape.trans h.tape, k.output.trans h.output, Nat.le_trans h.size k.size, fun i hi hS => (k.block i (Nat.lt_of_lt_of_le hi h.size) (fun hTi => hS (hT i hTi hi))).trans (h.block i hi hS)⟩
theorem Chg.also {S : Nat → Prop} {a b c : World} (h : Chg S a b) (k : Chg S b c) : Chg S a c := h.trans k (fun _ h _ => h)
theorem Chg.of_below {S : Nat → Prop} {w w' : World} (h : Below w.heap.size w w') : Chg S w w' := ⟨h.os, h.tape, h.output, h.size, fun k hk _ => h.block k hk⟩
theorem Chg.then_below {S : Nat → Prop} {w w1 w' : World} (h : Chg S w w1) (k : Below w1.heap.size w1 w') : Chg S w w' := h.also (Chg.of_below k)
theorem Chg.of_grown {w w' : World} {row : Option Nat} (h : w.grownBy w' row) : Chg (fun b => row = some b) w w' := ⟨h.os, h.tape, h.output, h.size, fun k hk hn => h.block k hk (fun e => hn e.symm)⟩
theorem Chg.below {S : Nat → Prop} {B : Nat} {w w' : World} (h : Chg S w w') (hB : B ≤ w.heap.size) (hS : ∀ i, S i → B ≤ i) : Below B w w' :=
  ⟨h.os, h.tape, h.output, h.size, fun k hk => h.block k (by omega) (fun hk' => by have := hS k hk'; omega)⟩
theorem Chg.setCell {S : Nat → Prop} {a w : World} (h : Chg S a w) {p : Addr} (hp : S p.block) (u : Value) : Chg S a (w.setCell p u) :=
  ⟨h.os, h.tape, h.output, by simpa [World.setCell] using h.size, fun k hk hn => (Below.heap_setCell w p u k (by rintro rfl; exact hn hp)).trans (h.block k hk hn)⟩
theorem Chg.mono {S T : Nat → Prop} {w w' : World} (h : Chg S w w') (hST : ∀ i, S i → T i) : Chg T w w' := ⟨h.os, h.tape, h.output, h.size, fun k hk hn => h.block k hk (fun hs => hn (hST k hs))⟩
theorem Chg.drew {S : Nat → Prop} {a w : World} (h : Chg S a w) : Chg S a w.drew := ⟨h.os, h.tape, h.output, h.size, h.block⟩
theorem Chg.cell {S : Nat → Prop} {w w' : World} (h : Chg S w w') {p : Addr} (hp : p.block < w.heap.size) (hS : ¬ S p.block) : w'.cell? p = w.cell? p := World.cell?_of_block (w := w) (h.block p.block hp hS)

/-- What a list of entries holds at a key. -/
def look (L : List (Int × Int)) (q : Int) : Option Int := (L.find? (fun p => p.1 == q)).map (·.2)

/-- Block m is a map whose entries are L. -/
def Mp (w : World) (m : Nat) (L : List (Int × Int)) : Prop :=
  ∃ D : DataW Unit, w.ownsMap Try.prog 3 (plainElem Try.prog 39) m L.length D ∧
    ∀ q : Int, Maps.has D (.int .i64 q) = (look L q).isSome ∧ D.atKey (.int .i64 q) (.lit (.int .i64 0)) = .lit (.int .i64 ((look L q).getD 0))

theorem own_tight {w : World} {m n : Nat} {D : DataW Unit} {k e : TypeId} (h : w.ownsMap Try.prog k (plainElem Try.prog e) m n D) : w.ownsMap Try.prog k (plainElem Try.prog e) m (Maps.size D) D := by
  obtain ⟨es, clock, hb, F, hs, rfl⟩ := h
  exact ⟨es, clock, hb, F, by rw [Maps.size_eq, length_read]; exact Nat.le_refl _, rfl⟩
theorem Mp.lt {w : World} {m : Nat} {L : List (Int × Int)} (h : Mp w m L) : m < w.heap.size := by
  obtain ⟨D, h, _⟩ := h
  exact h.lt
theorem Mp.isMap {w : World} {m : Nat} {L : List (Int × Int)} (h : Mp w m L) : ∃ es c, w.heap[m]? = some (.map es c) := by
  obtain ⟨D, ⟨es, c, hb, _⟩, _⟩ := h
  exact ⟨es, c, hb⟩
theorem Mp.kept {w w' : World} {m : Nat} {L : List (Int × Int)} (h : Mp w m L) (hb : w'.heap[m]? = w.heap[m]?) : Mp w' m L := by
  obtain ⟨D, ⟨es, c, hm, r⟩, hq⟩ := h
  exact ⟨D, ⟨es, c, hb.trans hm, r⟩, hq⟩
theorem Mp.chg {S : Nat → Prop} {w w' : World} {m : Nat} {L : List (Int × Int)} (h : Mp w m L) (hc : Chg S w w') (hS : ¬ S m) : Mp w' m L := h.kept (hc.block m h.lt hS)
theorem Mp.below {w w' : World} {m : Nat} {L : List (Int × Int)} (h : Mp w m L) (hc : Below w.heap.size w w') : Mp w' m L := h.kept (hc.block m h.lt)

/-- The state of an arbiter: its configuration, its queues with their classes, the numbers picked last, the credits. -/
structure St where
  wt : Bool
  bu : Int
  hi : Int
  me : Int
  lo : Int
  L : List (Int × Int)
  last : Nat → Int
  cr : Nat → Int

/-- Block b is an arbiter in the state s, block m its map. -/
structure Arb (w : World) (b m : Nat) (s : St) : Prop where
  blk : w.heap[b]? = some (.cells #[.bool s.wt, .int .i64 s.bu, .int .i64 s.hi, .int .i64 s.me, .int .i64 s.lo, .map (some m), .int .i64 (s.last 0), .int .i64 (s.last 1), .int .i64 (s.last 2), .int .i64 (s.last 3), .int .i64 (s.cr 0), .int .i64 (s.cr 1), .int .i64 (s.cr 2), .int .i64 (s.cr 3)] 70 (0, 0))
  map : Mp w m s.L
theorem Arb.lt {w : World} {b m : Nat} {s : St} (h : Arb w b m s) : b < w.heap.size := (Array.getElem?_eq_some_iff.1 h.blk).1
theorem Arb.ne {w : World} {b m : Nat} {s : St} (h : Arb w b m s) : b ≠ m := by
  rintro rfl
  obtain ⟨es, c, hb⟩ := h.map.isMap
  rw [h.blk] at hb
  cases hb
theorem Arb.kept {w w' : World} {b m : Nat} {s : St} (h : Arb w b m s) (hb : w'.heap[b]? = w.heap[b]?) (hm : w'.heap[m]? = w.heap[m]?) : Arb w' b m s := ⟨hb.trans h.blk, h.map.kept hm⟩
theorem Arb.chg {S : Nat → Prop} {w w' : World} {b m : Nat} {s : St} (h : Arb w b m s) (hc : Chg S w w') (hb : ¬ S b) (hm : ¬ S m) : Arb w' b m s := h.kept (hc.block b h.lt hb) (hc.block m h.map.lt hm)
theorem Arb.below {w w' : World} {b m : Nat} {s : St} (h : Arb w b m s) (hc : Below w.heap.size w w') : Arb w' b m s := h.kept (hc.block b h.lt) (hc.block m h.map.lt)
theorem Arb.free {w : World} {b m : Nat} {s : St} (h : Arb w b m s) (k : Nat) : w.frozen? ⟨b, k, none⟩ = false := frozen_of_row w b k _ 70 h.blk
theorem Arb.cWt {w : World} {b m : Nat} {s : St} (h : Arb w b m s) : w.cell? ⟨b, 0, none⟩ = some (.bool s.wt) := by rw [cell_of_row w b 0 _ 70 (0, 0) h.blk]; rfl
theorem Arb.cBu {w : World} {b m : Nat} {s : St} (h : Arb w b m s) : w.cell? ⟨b, 1, none⟩ = some (.int .i64 s.bu) := by rw [cell_of_row w b 1 _ 70 (0, 0) h.blk]; rfl
theorem Arb.cHi {w : World} {b m : Nat} {s : St} (h : Arb w b m s) : w.cell? ⟨b, 2, none⟩ = some (.int .i64 s.hi) := by rw [cell_of_row w b 2 _ 70 (0, 0) h.blk]; rfl
theorem Arb.cMe {w : World} {b m : Nat} {s : St} (h : Arb w b m s) : w.cell? ⟨b, 3, none⟩ = some (.int .i64 s.me) := by rw [cell_of_row w b 3 _ 70 (0, 0) h.blk]; rfl
theorem Arb.cLo {w : World} {b m : Nat} {s : St} (h : Arb w b m s) : w.cell? ⟨b, 4, none⟩ = some (.int .i64 s.lo) := by rw [cell_of_row w b 4 _ 70 (0, 0) h.blk]; rfl
theorem Arb.cMap {w : World} {b m : Nat} {s : St} (h : Arb w b m s) : w.cell? ⟨b, 5, none⟩ = some (.map (some m)) := by rw [cell_of_row w b 5 _ 70 (0, 0) h.blk]; rfl
theorem Arb.cLast {w : World} {b m : Nat} {s : St} (h : Arb w b m s) (k : Nat) (hk : k < 4) : w.cell? ⟨b, 6 + k, none⟩ = some (.int .i64 (s.last k)) := by
  rw [cell_of_row w b (6 + k) _ 70 (0, 0) h.blk]
  match k, hk with
  | 0, _ => rfl
  | 1, _ => rfl
  | 2, _ => rfl
  | 3, _ => rfl
theorem Arb.cCr {w : World} {b m : Nat} {s : St} (h : Arb w b m s) (k : Nat) (hk : k < 4) : w.cell? ⟨b, 10 + k, none⟩ = some (.int .i64 (s.cr k)) := by
  rw [cell_of_row w b (10 + k) _ 70 (0, 0) h.blk]
  match k, hk with
  | 0, _ => rfl
  | 1, _ => rfl
  | 2, _ => rfl
  | 3, _ => rfl
theorem bcell {W w1 : World} (hb : Below W.heap.size W w1) : (∀ b o, b < W.heap.size → w1.cell? ⟨b, o, none⟩ = W.cell? ⟨b, o, none⟩) ∧ (∀ b o, b < W.heap.size → w1.frozen? ⟨b, o, none⟩ = W.frozen? ⟨b, o, none⟩) :=
  ⟨fun b o h => hb.cell (p := ⟨b, o, none⟩) h, fun b o h => hb.frozen (p := ⟨b, o, none⟩) h⟩
/-- Block b of w is the five cells of a configuration. -/
def CfgAt (w : World) (b : Nat) (wt : Bool) (bu hi me lo : Int) : Prop := b < w.heap.size ∧ w.heap[b]? = some (.cells #[.bool wt, .int .i64 bu, .int .i64 hi, .int .i64 me, .int .i64 lo] 23 (0, 0))
theorem CfgAt.new (w : World) (wt : Bool) (bu hi me lo : Int) : CfgAt (w.alloc (.cells #[.bool wt, .int .i64 bu, .int .i64 hi, .int .i64 me, .int .i64 lo] 23)) w.heap.size wt bu hi me lo := ⟨by simp, heap_alloc_new w _⟩
theorem CfgAt.below {w w' : World} {b : Nat} {wt : Bool} {bu hi me lo : Int} (h : CfgAt w b wt bu hi me lo) (hb : Below w.heap.size w w') : CfgAt w' b wt bu hi me lo := ⟨Nat.lt_of_lt_of_le h.1 hb.size, (hb.block b h.1).trans h.2⟩
theorem CfgAt.chg {S : Nat → Prop} {w w' : World} {b : Nat} {wt : Bool} {bu hi me lo : Int} (h : CfgAt w b wt bu hi me lo) (hb : Chg S w w') (hS : ¬ S b) : CfgAt w' b wt bu hi me lo := ⟨Nat.lt_of_lt_of_le h.1 hb.size, (hb.block b h.1 hS).trans h.2⟩
theorem CfgAt.cells {w : World} {b : Nat} {wt : Bool} {bu hi me lo : Int} (h : CfgAt w b wt bu hi me lo) :
    w.cell? ⟨b, 0, none⟩ = some (.bool wt) ∧ w.cell? ⟨b, 1, none⟩ = some (.int .i64 bu) ∧ w.cell? ⟨b, 2, none⟩ = some (.int .i64 hi) ∧ w.cell? ⟨b, 3, none⟩ = some (.int .i64 me) ∧ w.cell? ⟨b, 4, none⟩ = some (.int .i64 lo) := by
  refine ⟨?_, ?_, ?_, ?_, ?_⟩ <;> (rw [cell_of_row w b _ _ 23 (0, 0) h.2]; rfl)
end Go.Proofs.Ytildofclgofjdaa
