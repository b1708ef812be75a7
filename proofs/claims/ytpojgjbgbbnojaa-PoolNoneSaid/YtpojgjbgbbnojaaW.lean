/- Words for the memory of package pool: what has changed, the blocks' row, a pool. No condition. -/
import Derived.Test.YtpojgjbgbbnojaaRows
import Derived.WalkKit
import Derived.Below
import Derived.Laws.OwnMore
import Derived.Deep.AppendLies
import Derived.Deep.Draws
import Derived.OwnWalk
import Derived.Lib.Hide
import Derived.Lib.SliceRun
import Derived.Outline
import Derived.WalkSpells
import Derived.BigQuiet
import Derived.Deep.QuietTactic
import Derived.RegionTactic
import Derived.Deep.RegionHeld3
namespace Go.Proofs.Ytpojgjbgbbnojaa
open Go.RowKit
set_option linter.unusedVariables false

/-- At most the blocks of S, and new ones, have changed. -/
structure Chg (S : Nat → Prop) (w w' : World) : Prop where
  os : w'.os = w.os
  tape : w'.tape = w.tape
  output : w'.output = w.output
  size : w.heap.size ≤ w'.heap.size
  block : ∀ k, k < w.heap.size → ¬ S k → w'.heap[k]? = w.heap[k]?
theorem Chg.refl (S : Nat → Prop) (w : World) : Chg S w w := ⟨rfl, rfl, rfl, Nat.le_refl _, fun _ _ _ => rfl⟩
theorem Chg.trans {S T : Nat → Prop} {a b c : World} (h : Chg S a b) (k : Chg T b c) (hT : ∀ i, T i → i < a.heap.size → S i) : Chg S a c :=
  ⟨k.os.trans h.os, k.tape.trans h.tape, k.output.trans h.output, Nat.le_trans h.size k.size, fun i hi hS => (k.block i (Nat.lt_of_lt_of_le hi h.size) (fun hTi => hS (hT i hTi hi))).trans (h.block i hi hS)⟩
theorem Chg.also {S : Nat → Prop} {a b c : World} (h : Chg S a b) (k : Chg S b c) : Chg S a c := h.trans k (fun _ h _ => h)
theorem Chg.of_below {S : Nat → Prop} {w w' : World} (h : Below w.heap.size w w') : Chg S w w' := ⟨h.os, h.tape, h.output, h.size, fun k hk _ => h.block k hk⟩
theorem Chg.then_below {S : Nat → Prop} {w w1 w' : World} (h : Chg S w w1) (k : Below w1.heap.size w1 w') : Chg S w w' := h.also (Chg.of_below k)
theorem Chg.of_grown {w w' : World} {row : Option Nat} (h : w.grownBy w' row) : Chg (fun b => row = some b) w w' := ⟨h.os, h.tape, h.output, h.size, fun k hk hn => h.block k hk (fun e => hn e.symm)⟩
theorem Chg.below {S : Nat → Prop} {B : Nat} {w w' : World} (h : Chg S w w') (hB : B ≤ w.heap.size) (hS : ∀ i, S i → B ≤ i) : Below B w w' :=
  ⟨h.os, h.tape, h.output, h.size, fun k hk => h.block k (by omega) (fun hk' => by have := hS k hk'; omega)⟩
theorem Chg.setCell {S : Nat → Prop} {a w : World} (h : Chg S a w) {p : Addr} (hp : S p.block) (u : Value) : Chg S a (w.setCell p u) :=
  ⟨h.os, h.tape, h.output, by simpa [World.setCell] using h.size, fun k hk hn => (Below.heap_setCell w p u k (by rintro rfl; exact hn hp)).trans (h.block k hk hn)⟩
theorem Chg.mono {S T : Nat → Prop} {w w' : World} (h : Chg S w w') (hST : ∀ i, S i → T i) : Chg T w w' := ⟨h.os, h.tape, h.output, h.size, fun k hk hn => h.block k hk (fun hs => hn (hST k hs))⟩
theorem Chg.drew {S : Nat → Prop} {a w : World} (h : Chg S a w) : Chg S a w.drew := ⟨h.os, h.tape, h.output, h.size, h.block⟩
theorem Chg.alloc {S : Nat → Prop} {a w : World} (h : Chg S a w) (o : Obj) : Chg S a (w.alloc o) := h.then_below ((Below.refl _ _).alloc (Nat.le_refl _) _)
theorem Chg.cell {S : Nat → Prop} {w w' : World} (h : Chg S w w') {p : Addr} (hp : p.block < w.heap.size) (hS : ¬ S p.block) : w'.cell? p = w.cell? p := World.cell?_of_block (w := w) (h.block p.block hp hS)
theorem Chg.frozen {S : Nat → Prop} {w w' : World} (h : Chg S w w') {p : Addr} (hp : p.block < w.heap.size) (hS : ¬ S p.block) : w'.frozen? p = w.frozen? p := World.frozen?_of_block (w := w) (h.block p.block hp hS)
theorem bcell {W w1 : World} (hb : Below W.heap.size W w1) : (∀ b o, b < W.heap.size → w1.cell? ⟨b, o, none⟩ = W.cell? ⟨b, o, none⟩) ∧ (∀ b o, b < W.heap.size → w1.frozen? ⟨b, o, none⟩ = W.frozen? ⟨b, o, none⟩) :=
  ⟨fun b o h => hb.cell (p := ⟨b, o, none⟩) h, fun b o h => hb.frozen (p := ⟨b, o, none⟩) h⟩
theorem add_plain (g o j : Nat) : (⟨g, o, none⟩ : Addr).add j = ⟨g, o + j, none⟩ := by unfold Addr.add; split <;> simp_all
theorem below_alloc (w : World) (o : Obj) : Below w.heap.size w (w.alloc o) := (Below.refl _ _).alloc (Nat.le_refl _) _

/-- A block: its erase count, its state. -/
structure Blk where
  er : Int
  st : Int
def Blk.ok (b : Blk) : Prop := 0 ≤ b.er ∧ b.er ≤ 1099511627776 ∧ 1 ≤ b.st ∧ b.st ≤ 4
/-- A pool's blocks fit. -/
structure Fit (l : List Blk) : Prop where
  pos : 0 < l.length
  len : l.length ≤ 4096
  ok : ∀ b ∈ l, b.ok
theorem Fit.at {l : List Blk} (h : Fit l) {i : Nat} (hi : i < l.length) : l[i].ok := h.ok _ (List.getElem_mem hi)
theorem Fit.set {l : List Blk} (h : Fit l) {i : Nat} {b : Blk} (hb : b.ok) : Fit (l.set i b) :=
  ⟨by rw [List.length_set]; exact h.pos, by rw [List.length_set]; exact h.len, fun x hx => by
    rcases List.mem_or_eq_of_mem_set hx with h1 | h1
    · exact h.ok x h1
    · rw [h1]; exact hb⟩
/-- How many blocks have a state. -/
def cnt (l : List Blk) (s : Int) : Int := ((l.filter fun b => decide (b.st = s)).length : Int)
theorem cnt_nonneg (l : List Blk) (s : Int) : 0 ≤ cnt l s := by unfold cnt; omega
theorem cnt_le (l : List Blk) (s : Int) : cnt l s ≤ l.length := by
  unfold cnt
  have := List.length_filter_le (fun b : Blk => decide (b.st = s)) l
  omega
theorem cnt_cons (x : Blk) (r : List Blk) (s : Int) : cnt (x :: r) s = (if x.st = s then 1 else 0) + cnt r s := by
  unfold cnt
  rw [List.filter_cons]
  by_cases h : x.st = s <;> simp [h]; omega
theorem cnt_set (l : List Blk) (i : Nat) (hi : i < l.length) (b : Blk) (s : Int) : cnt (l.set i b) s = cnt l s - (if l[i].st = s then 1 else 0) + (if b.st = s then 1 else 0) := by
  induction l generalizing i with
  | nil => cases hi
  | cons x r ih =>
    cases i with
    | zero => simp only [List.set_cons_zero, List.getElem_cons_zero, cnt_cons]; omega
    | succ i =>
      have := ih i (by simpa using hi)
      simp only [List.set_cons_succ, List.getElem_cons_succ, cnt_cons, this]; omega
theorem cnt_out {l : List Blk} (h : ∀ b ∈ l, b.ok) {s : Int} (hs : s < 1 ∨ 4 < s) : cnt l s = 0 := by
  unfold cnt
  have : l.filter (fun b => decide (b.st = s)) = [] := by
    rw [List.filter_eq_nil_iff]
    intro b hb
    have := h b hb
    unfold Blk.ok at this
    simp
    omega
  rw [this]; rfl
theorem cnt_pos {l : List Blk} {i : Nat} (hi : i < l.length) : 1 ≤ cnt l l[i].st := by
  unfold cnt
  have : 0 < (l.filter fun b => decide (b.st = l[i].st)).length := List.length_pos_of_mem (List.mem_filter.2 ⟨List.getElem_mem hi, by simp⟩)
  omega
/-- Block g holds the blocks l, in room for cap. -/
def Row (w : World) (g cap : Nat) (l : List Blk) : Prop :=
  ∃ cur, w.heap[g]? = some (.cells cur 69 (0, 0)) ∧ l.length ≤ cap ∧ cap ≤ maxLen ∧ cur.size = cap * 2 ∧ ∀ i (h : i < l.length), cur[i * 2]? = some (.int .i64 l[i].er) ∧ cur[i * 2 + 1]? = some (.int .i64 l[i].st)
/-- The cells of a pool's head. -/
def plCells (g cap : Nat) (l : List Blk) : Array Value := #[.slice (some ⟨g, 0, none⟩) l.length cap, .int .i64 (cnt l 0), .int .i64 (cnt l 1), .int .i64 (cnt l 2), .int .i64 (cnt l 3), .int .i64 (cnt l 4)]
/-- Block b is a pool of the blocks l, which lie in block g. All of it lies from base on. -/
structure Pl (w : World) (base b g cap : Nat) (l : List Blk) : Prop where
  blk : w.heap[b]? = some (.cells (plCells g cap l) 51 (0, 0))
  row : Row w g cap l
  hb : base ≤ b
  hg : base ≤ g
  fit : Fit l
theorem Row.lt {w : World} {g cap : Nat} {l : List Blk} (h : Row w g cap l) : g < w.heap.size := by
  obtain ⟨cur, h, _⟩ := h
  exact (Array.getElem?_eq_some_iff.1 h).1
theorem Row.at {w : World} {g cap : Nat} {l : List Blk} (h : Row w g cap l) {i : Nat} (hi : i < l.length) : w.cell? ⟨g, i * 2, none⟩ = some (.int .i64 l[i].er) ∧ w.cell? ⟨g, i * 2 + 1, none⟩ = some (.int .i64 l[i].st) := by
  obtain ⟨cur, h, _, _, _, hc⟩ := h
  have e := fun k => cell_of_row w g k cur 69 (0, 0) h
  exact ⟨(e _).trans (hc i hi).1, (e _).trans (hc i hi).2⟩
theorem Row.free {w : World} {g cap : Nat} {l : List Blk} (h : Row w g cap l) (k : Nat) : w.frozen? ⟨g, k, none⟩ = false := by
  obtain ⟨cur, h, _⟩ := h
  exact frozen_of_row w g k _ 69 h
theorem Row.keep {w w' : World} {g cap : Nat} {l : List Blk} (h : Row w g cap l) (hb : w'.heap[g]? = w.heap[g]?) : Row w' g cap l := by
  obtain ⟨cur, h, r⟩ := h
  exact ⟨cur, hb.trans h, r⟩
section
variable {w w' : World} {base b g cap : Nat} {l : List Blk}
theorem Pl.lt (h : Pl w base b g cap l) : b < w.heap.size := (Array.getElem?_eq_some_iff.1 h.blk).1
theorem Pl.ne (h : Pl w base b g cap l) : g ≠ b := by
  rintro rfl
  obtain ⟨cur, h1, _⟩ := h.row
  have := h.blk
  rw [h1] at this
  injection this with this
  injection this with _ ht
  exact absurd ht (by decide)
theorem Pl.c0 (h : Pl w base b g cap l) : w.cell? ⟨b, 0, none⟩ = some (.slice (some ⟨g, 0, none⟩) l.length cap) := by rw [cell_of_row w b 0 _ 51 (0, 0) h.blk]; rfl
theorem Pl.free (h : Pl w base b g cap l) (k : Nat) : w.frozen? ⟨b, k, none⟩ = false := frozen_of_row w b k _ 51 h.blk
theorem Pl.cs (h : Pl w base b g cap l) {s : Nat} (hs : s ≤ 4) : w.cell? ⟨b, 1 + s, none⟩ = some (.int .i64 (cnt l s)) := by
  rw [cell_of_row w b (1 + s) _ 51 (0, 0) h.blk]
  have : s = 0 ∨ s = 1 ∨ s = 2 ∨ s = 3 ∨ s = 4 := by omega
  rcases this with rfl | rfl | rfl | rfl | rfl <;> rfl
/-- The blocks of a pool. -/
def Ft (b g : Nat) (k : Nat) : Prop := k = b ∨ k = g
theorem Pl.ft_lt (h : Pl w base b g cap l) {k : Nat} (hk : Ft b g k) : k < w.heap.size := by
  rcases hk with rfl | rfl
  · exact h.lt
  · exact h.row.lt
theorem Pl.ft_ge (h : Pl w base b g cap l) {k : Nat} (hk : Ft b g k) : base ≤ k := by
  rcases hk with rfl | rfl
  · exact h.hb
  · exact h.hg
theorem Pl.keep (h : Pl w base b g cap l) (hk : ∀ k, Ft b g k → w'.heap[k]? = w.heap[k]?) : Pl w' base b g cap l :=
  ⟨(hk b (.inl rfl)).trans h.blk, h.row.keep (hk g (.inr rfl)), h.hb, h.hg, h.fit⟩
theorem Pl.chg {S : Nat → Prop} (h : Pl w base b g cap l) (hc : Chg S w w') (hS : ∀ k, Ft b g k → ¬ S k) : Pl w' base b g cap l :=
  h.keep fun k hk => hc.block k (h.ft_lt hk) (hS k hk)
theorem Pl.below (h : Pl w base b g cap l) (hb : Below w.heap.size w w') : Pl w' base b g cap l := h.keep fun k hk => hb.block k (h.ft_lt hk)
theorem Pl.rebase {base' : Nat} (h : Pl w base b g cap l) (hb : base' ≤ base) : Pl w base' b g cap l := ⟨h.blk, h.row, Nat.le_trans hb h.hb, Nat.le_trans hb h.hg, h.fit⟩
end
end Go.Proofs.Ytpojgjbgbbnojaa
