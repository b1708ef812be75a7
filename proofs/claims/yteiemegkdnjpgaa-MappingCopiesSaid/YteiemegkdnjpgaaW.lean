/- Words for the memory of package mapping: what has changed, a map, a row of counts, a mapping. No condition. -/
import Derived.Test.YteiemegkdnjpgaaRows
import Derived.WalkKit
import Derived.Below
import Derived.Laws.OwnMore
import Derived.Deep.AppendLies
import Derived.Deep.Draws
import Derived.OwnWalk
import Derived.Maps.AppendAt
import Derived.Maps.Own
import Derived.Maps.OwnOps
import Derived.Maps.OwnSet
import Derived.Maps.OwnIn
import Derived.Maps.Views
import Derived.Lib.Hide
import Derived.Lib.SlKeysI
import Derived.Lib.SliceRun
import Derived.Outline
import Derived.WalkSpells
import Derived.BigQuiet
import Derived.BigRegion
import Derived.Deep.QuietTactic
import Derived.RegionTactic
import Derived.Deep.RegionHeld3
import Derived.Deep.DeepCutAuto
import Derived.Deep.RegionWith
import Derived.Deep.CutBlock
import Derived.Laws.MakeOwn
namespace Go.Proofs.Yteiemegkdnjpgaa
open Go.RowKit
set_option linter.unusedVariables false

/-- At most the blocks of S, and new ones, have changed. -/
structure Chg (S : Nat → Prop) (w w' : World) : Prop where
  os : w'.os = w.os
  tape : w'.tape = w.tape
  output : w'.output = w.output
  size : w.heap.size ≤ w'.heap.size
  block : ∀ k, k < w.heap.size → ¬ S k → w'.heap[k]? = w.heap[k]?
theorem Chg.refl (S : Nat → Prop) (w : World) : Chg S w w := ⟨rfl, rfl, rfl, Nat.le_refl _, fun _ _ _ => rfl⟩
theorem Chg.trans {S T : Nat → Prop} {a b c : World} (h : Chg S a b) (k : Chg T b c) (hT : ∀ i, T i → i < a.heap.size → S i) : Chg S a c :=
  ⟨k.os.trans h.os, k.tape.trans h.tape, k.output.trans h.output, Nat.le_trans h.size k.size, fun i hi hS => (k.block i (Nat.lt_of_lt_of_le hi h.size) (fun hTi => hS (hT i hTi hi))).trans (h.block i hi hS)⟩
theorem Chg.also {S : Nat → Prop} {a b c : World} (h : Chg S a b) (k : Chg S b c) : Chg S a c := h.trans k (fun _ h _ => h)
theorem Chg.of_below {S : Nat → Prop} {w w' : World} (h : Below w.heap.size w w') : Chg S w w' := ⟨h.os, h.tape, h.output, h.size, fun k hk _ => h.block k hk⟩
theorem Chg.then_below {S : Nat → Prop} {w w1 w' : World} (h : Chg S w w1) (k : Below w1.heap.size w1 w') : Chg S w w' := h.also (Chg.of_below k)
theorem Chg.of_grown {w w' : World} {row : Option Nat} (h : w.grownBy w' row) : Chg (fun b => row = some b) w w' := ⟨h.os, h.tape, h.output, h.size, fun k hk hn => h.block k hk (fun e => hn e.symm)⟩
theorem Chg.below {S : Nat → Prop} {B : Nat} {w w' : World} (h : Chg S w w') (hB : B ≤ w.heap.size) (hS : ∀ i, S i → B ≤ i) : Below B w w' :=
  ⟨h.os, h.tape, h.output, h.size, fun k hk => h.block k (by omega) (fun hk' => by have := hS k hk'; omega)⟩
theorem Chg.setCell {S : Nat → Prop} {a w : World} (h : Chg S a w) {p : Addr} (hp : S p.block) (u : Value) : Chg S a (w.setCell p u) :=
  ⟨h.os, h.tape, h.output, by simpa [World.setCell] using h.size, fun k hk hn => (Below.heap_setCell w p u k (by rintro rfl; exact hn hp)).trans (h.block k hk hn)⟩
theorem Chg.mono {S T : Nat → Prop} {w w' : World} (h : Chg S w w') (hST : ∀ i, S i → T i) : Chg T w w' := ⟨h.os, h.tape, h.output, h.size, fun k hk hn => h.block k hk (fun hs => hn (hST k hs))⟩
theorem Chg.drew {S : Nat → Prop} {a w : World} (h : Chg S a w) : Chg S a w.drew := ⟨h.os, h.tape, h.output, h.size, h.block⟩
theorem Chg.alloc {S : Nat → Prop} {a w : World} (h : Chg S a w) (o : Obj) : Chg S a (w.alloc o) := h.then_below ((Below.refl _ _).alloc (Nat.le_refl _) _)
theorem Chg.cell {S : Nat → Prop} {w w' : World} (h : Chg S w w') {p : Addr} (hp : p.block < w.heap.size) (hS : ¬ S p.block) : w'.cell? p = w.cell? p := World.cell?_of_block (w := w) (h.block p.block hp hS)
theorem Chg.frozen {S : Nat → Prop} {w w' : World} (h : Chg S w w') {p : Addr} (hp : p.block < w.heap.size) (hS : ¬ S p.block) : w'.frozen? p = w.frozen? p := World.frozen?_of_block (w := w) (h.block p.block hp hS)
theorem bcell {W w1 : World} (hb : Below W.heap.size W w1) : (∀ b o, b < W.heap.size → w1.cell? ⟨b, o, none⟩ = W.cell? ⟨b, o, none⟩) ∧ (∀ b o, b < W.heap.size → w1.frozen? ⟨b, o, none⟩ = W.frozen? ⟨b, o, none⟩) :=
  ⟨fun b o h => hb.cell (p := ⟨b, o, none⟩) h, fun b o h => hb.frozen (p := ⟨b, o, none⟩) h⟩
theorem add_plain (g o j : Nat) : (⟨g, o, none⟩ : Addr).add j = ⟨g, o + j, none⟩ := by unfold Addr.add; split <;> simp_all
theorem below_alloc (w : World) (o : Obj) : Below w.heap.size w (w.alloc o) := (Below.refl _ _).alloc (Nat.le_refl _) _


/-- Assignments of a list, by their first number. -/
def look (L : List (Int × Int)) (q : Int) : Option Int := (L.find? (fun p => p.1 == q)).map (·.2)
def flip (L : List (Int × Int)) : List (Int × Int) := L.map fun x => (x.2, x.1)
def upd (f : Int → Option Int) (q : Int) (v : Option Int) : Int → Option Int := fun k => if q = k then v else f k
def I64 (x : Int) : Prop := -9223372036854775808 ≤ x ∧ x ≤ 9223372036854775807

/-- Block m is a map of n keys that reads as f. -/
def Mp (w : World) (m n : Nat) (f : Int → Option Int) : Prop :=
  ∃ D : DataW Unit, w.ownsMap Try.prog 3 (plainElem Try.prog 3) m n D ∧ Maps.size D = n ∧
    ∀ q : Int, Maps.has D (.int .i64 q) = (f q).isSome ∧ D.atKey (.int .i64 q) (.lit (.int .i64 0)) = .lit (.int .i64 ((f q).getD 0))
theorem law : Maps.Keyed Try.prog 3 := Maps.int_keyed Try.underlying3
theorem zero3 (w : World) : (zeroValue 3).run Try.prog w = .ok (.int .i64 0) w := by kernel_rfl
theorem wf64 {x : Int} (h : I64 x) : (Lit.int .i64 x).wf = true := WalkArith.wf_i64 (by unfold I64 at h; omega)
theorem key_of {x : Int} (h : I64 x) : keyOf Try.prog 3 (.int .i64 x) = some (.int .i64 x) := Maps.keyOf_int_mk Try.underlying3 (wf64 h)
section
variable {w w' : World} {m n : Nat} {f : Int → Option Int}
theorem Mp.lt (h : Mp w m n f) : m < w.heap.size := by
  obtain ⟨D, h, _⟩ := h
  exact h.lt
theorem Mp.isMap (h : Mp w m n f) : ∃ es c, w.heap[m]? = some (.map es c) := by
  obtain ⟨D, ⟨es, c, hb, _⟩, _⟩ := h
  exact ⟨es, c, hb⟩
theorem Mp.moved {m' : Nat} (h : Mp w m n f) (hb : w'.heap[m']? = w.heap[m]?) : Mp w' m' n f := by
  obtain ⟨D, ⟨es, c, hm, r⟩, hq⟩ := h
  exact ⟨D, ⟨es, c, hb.trans hm, r⟩, hq⟩
theorem Mp.kept (h : Mp w m n f) (hb : w'.heap[m]? = w.heap[m]?) : Mp w' m n f := h.moved hb
theorem Mp.chg {S : Nat → Prop} (h : Mp w m n f) (hc : Chg S w w') (hS : ¬ S m) : Mp w' m n f := h.kept (hc.block m h.lt hS)
theorem Mp.below (h : Mp w m n f) (hc : Below w.heap.size w w') : Mp w' m n f := h.kept (hc.block m h.lt)
theorem Mp.congr {g : Int → Option Int} (h : Mp w m n f) (e : ∀ q, f q = g q) : Mp w m n g := by rw [← funext e]; exact h
theorem Mp.look_ok (h : Mp w m n f) {q : Int} (hq : I64 q) :
    (Instr.lookup 53 (.map (some m)) (.int .i64 q) true).run Try.prog w = .ok (.tuple #[.int .i64 ((f q).getD 0), .bool (f q).isSome]) w := by
  obtain ⟨D, hown, _, hat⟩ := h
  obtain ⟨v, ps, hrun, hv⟩ := hown.look_ok law Try.underlying53 (zero3 w) (plainElem_int Try.underlying3 (by decide)) (key_of hq)
  obtain ⟨c, rfl, hc, _⟩ := plainElem_int_inv Try.underlying3 hv
  rw [hrun]
  have h1 := congrArg Prod.fst hc
  simp only at h1
  rw [(hat q).2] at h1
  rw [(hat q).1]
  simp only [DataW.lit.injEq, Lit.int.injEq, true_and] at h1
  rw [h1]
theorem Mp.len (h : Mp w m n f) (ty : TypeId) : (Builtin.len_ #[53] ty #[.map (some m)]).run Try.prog w = .ok (.int .i64 n) w := by
  obtain ⟨D, hown, hsz, hat⟩ := h
  rw [hown.len Try.underlying53 ty, hsz]
theorem Mp.put (h : Mp w m n f) {q c : Int} (hq : I64 q) (hc : I64 c) (hl : n < maxLen) (hn : f q = none) :
    ∃ w', (Instr.mapUpdate 53 (.map (some m)) (.int .i64 q) (.int .i64 c)).run Try.prog w = .ok () w' ∧ Mp w' m (n + 1) (upd f q (some c)) ∧ w.grownBy w' (some m) := by
  obtain ⟨D, hown, hsz, hat⟩ := h
  obtain ⟨w', hrun, ho, hg⟩ := hown.update law Try.underlying53 hl (key_of hq) (plainElem_int Try.underlying3 (wf64 hc))
  refine ⟨w', hrun, ⟨_, ho, ?_, fun q' => ?_⟩, hg⟩
  · rw [Maps.size_put (k := .int .i64 q) (hown.tidy law), (hat q).1, hn, hsz]; rfl
  unfold upd
  by_cases e : q = q'
  · subst e
    rw [if_pos rfl]
    exact ⟨Maps.has_put_same (k := .int .i64 q) hown.isMap trivial _, Maps.atKey_put_same (k := .int .i64 q) hown.isMap trivial _ _⟩
  · rw [if_neg e]
    have hne : (Lit.int .i64 q') ≠ .int .i64 q := by simp; omega
    exact ⟨(Maps.has_put_other hne _).trans (hat q').1, (Maps.atKey_put_other hne _ _).trans (hat q').2⟩
theorem own_tight {w : World} {m n : Nat} {D : DataW Unit} {k e : TypeId} (h : w.ownsMap Try.prog k (plainElem Try.prog e) m n D) : w.ownsMap Try.prog k (plainElem Try.prog e) m (Maps.size D) D := by
  obtain ⟨es, clock, hb, F, hs, rfl⟩ := h
  exact ⟨es, clock, hb, F, by rw [Maps.size_eq, length_read]; exact Nat.le_refl _, rfl⟩
theorem Mp.del (h : Mp w m (n + 1) f) {q : Int} (hq : I64 q) (hn : (f q).isSome = true) (ty : TypeId) :
    ∃ w', (Builtin.delete_ #[53, 3] ty #[.map (some m), .int .i64 q]).run Try.prog w = .ok (.tuple #[]) w' ∧ Mp w' m n (upd f q none) ∧ w.grownBy w' (some m) := by
  obtain ⟨D, hown, hsz, hat⟩ := h
  obtain ⟨w', hrun, ho, hg⟩ := hown.drop law Try.underlying53 (key_of hq) ty
  have h1 := Maps.size_del (k := .int .i64 q) (hown.tidy law)
  rw [(hat q).1, hn, if_pos rfl] at h1
  have h3 : Maps.size (D.del (.int .i64 q)) = n := by omega
  refine ⟨w', hrun, ⟨_, h3 ▸ own_tight ho, h3, fun q' => ?_⟩, hg.grown⟩
  unfold upd
  by_cases e : q = q'
  · subst e
    rw [if_pos rfl]
    exact ⟨Maps.has_del_same, Maps.atKey_del_same _⟩
  · rw [if_neg e]
    have hne : (Lit.int .i64 q') ≠ .int .i64 q := by simp; omega
    exact ⟨(Maps.has_del_other hne).trans (hat q').1, (Maps.atKey_del_other hne _).trans (hat q').2⟩
end
theorem Mp.made (w : World) : Mp (w.alloc (.map #[] 0)) w.heap.size 0 (fun _ => none) := ⟨.map [], World.ownsMap_made _ _ _ _, rfl, fun q => ⟨rfl, rfl⟩⟩
/-- A look-up in a nil map. -/
theorem look_nil_map (w : World) {q : Int} (hq : I64 q) : (Instr.lookup 53 (.map none) (.int .i64 q) true).run Try.prog w = .ok (.tuple #[.int .i64 0, .bool false]) w :=
  Maps.look_nil true law Try.underlying53 (zero3 w) (key_of hq)
/-- Block g is a row of n numbers u. -/
def RowI (w : World) (g cap n : Nat) (u : Nat → Int) : Prop :=
  ∃ cur, w.heap[g]? = some (.cells cur 3 (0, 0)) ∧ n ≤ cap ∧ cap ≤ maxLen ∧ cur.size = cap ∧ ∀ i, i < n → cur[i]? = some (.int .i64 (u i))
theorem RowI.lt {w : World} {g cap n : Nat} {u : Nat → Int} (h : RowI w g cap n u) : g < w.heap.size := by
  obtain ⟨cur, h, _⟩ := h
  exact (Array.getElem?_eq_some_iff.1 h).1
theorem RowI.at {w : World} {g cap n : Nat} {u : Nat → Int} (h : RowI w g cap n u) {i : Nat} (hi : i < n) : w.cell? ⟨g, i, none⟩ = some (.int .i64 (u i)) := by
  obtain ⟨cur, h, _, _, _, hc⟩ := h
  exact (cell_of_row w g i cur 3 (0, 0) h).trans (hc i hi)
theorem RowI.free {w : World} {g cap n : Nat} {u : Nat → Int} (h : RowI w g cap n u) (k : Nat) : w.frozen? ⟨g, k, none⟩ = false := by
  obtain ⟨cur, h, _⟩ := h
  exact frozen_of_row w g k _ 3 h
theorem RowI.keep {w w' : World} {g cap n : Nat} {u : Nat → Int} (h : RowI w g cap n u) (hb : w'.heap[g]? = w.heap[g]?) : RowI w' g cap n u := by
  obtain ⟨cur, h, r⟩ := h
  exact ⟨cur, hb.trans h, r⟩
theorem RowI.congr {w : World} {g cap n : Nat} {u v : Nat → Int} (h : RowI w g cap n u) (e : ∀ i, i < n → u i = v i) : RowI w g cap n v := by
  obtain ⟨cur, h, a, b, c, r⟩ := h
  exact ⟨cur, h, a, b, c, fun i hi => by rw [← e i hi]; exact r i hi⟩
theorem RowI.set {w : World} {g cap n : Nat} {u : Nat → Int} (h : RowI w g cap n u) {i : Nat} (hi : i < n) (x : Int) : RowI (w.setCell ⟨g, i, none⟩ (.int .i64 x)) g cap n (fun k => if k = i then x else u k) := by
  obtain ⟨cur, h, a, b, c, r⟩ := h
  refine ⟨_, heap_setCell_same w g i cur 3 _ h, a, b, by simpa using c, fun k hk => ?_⟩
  rw [Array.getElem?_setIfInBounds]
  by_cases e : i = k
  · subst e
    rw [if_pos rfl, if_pos (by omega)]
    simp
  · rw [if_neg e]
    have e2 : ¬ k = i := fun h => e h.symm
    simp only [if_neg e2]
    exact r k hk
/-- The numbers of a mapping fit; its assignments stand by increasing sector, each page once. -/
structure Fits (s b p : Nat) (L : List (Int × Int)) : Prop where
  hs : 1 ≤ s ∧ s ≤ 16777216
  hb : 2 ≤ b ∧ b ≤ 4096
  hp : 2 ≤ p ∧ p ≤ 512
  srt : L.Pairwise (fun x y => x.1 < y.1)
  rng : ∀ x ∈ L, 0 ≤ x.1 ∧ x.1 < s ∧ 0 ≤ x.2 ∧ x.2 < ((b * p : Nat) : Int)
  inj : L.Pairwise (fun x y => x.2 ≠ y.2)
/-- How many assignments have their page in block k. -/
def cntB (p : Nat) (L : List (Int × Int)) (k : Int) : Int := ((L.filter fun x => decide (x.2 / (p : Int) = k)).length : Int)
def mgCells (s b p m1 m2 g cap : Nat) : Array Value := #[.int .i64 (s : Int), .int .i64 (b : Int), .int .i64 (p : Int), .map (some m1), .map (some m2), .slice (some ⟨g, 0, none⟩) b cap]
/-- Block bb is a mapping with the assignments L; all of it lies from base on. -/
structure Mg (w : World) (base bb m1 m2 g cap s b p : Nat) (L : List (Int × Int)) : Prop where
  blk : w.heap[bb]? = some (.cells (mgCells s b p m1 m2 g cap) 56 (0, 0))
  map1 : Mp w m1 L.length (look L)
  map2 : Mp w m2 L.length (look (flip L))
  row : RowI w g cap b (fun k => cntB p L k)
  ne : m1 ≠ m2
  h0 : base ≤ bb
  h1 : base ≤ m1
  h2 : base ≤ m2
  h3 : base ≤ g
  fit : Fits s b p L
/-- The blocks of a mapping that a call may change. -/
def Ft (m1 m2 g : Nat) (k : Nat) : Prop := k = m1 ∨ k = m2 ∨ k = g
section
variable {w w' : World} {base bb m1 m2 g cap s b p : Nat} {L : List (Int × Int)}
theorem Mg.lt (h : Mg w base bb m1 m2 g cap s b p L) : bb < w.heap.size := (Array.getElem?_eq_some_iff.1 h.blk).1
theorem Mg.ne1 (h : Mg w base bb m1 m2 g cap s b p L) : bb ≠ m1 := by
  rintro rfl
  obtain ⟨es, c, hb⟩ := h.map1.isMap
  rw [h.blk] at hb
  cases hb
theorem Mg.ne2 (h : Mg w base bb m1 m2 g cap s b p L) : bb ≠ m2 := by
  rintro rfl
  obtain ⟨es, c, hb⟩ := h.map2.isMap
  rw [h.blk] at hb
  cases hb
theorem Mg.ne3 (h : Mg w base bb m1 m2 g cap s b p L) : bb ≠ g := by
  rintro rfl
  obtain ⟨cur, h1, _⟩ := h.row
  have := h.blk
  rw [h1] at this
  injection this with this
  injection this with _ ht
  exact absurd ht (by decide)
theorem Mg.g1 (h : Mg w base bb m1 m2 g cap s b p L) : g ≠ m1 := by
  rintro rfl
  obtain ⟨es, c, hb⟩ := h.map1.isMap
  obtain ⟨cur, h1, _⟩ := h.row
  rw [h1] at hb
  cases hb
theorem Mg.g2 (h : Mg w base bb m1 m2 g cap s b p L) : g ≠ m2 := by
  rintro rfl
  obtain ⟨es, c, hb⟩ := h.map2.isMap
  obtain ⟨cur, h1, _⟩ := h.row
  rw [h1] at hb
  cases hb
theorem Mg.free (h : Mg w base bb m1 m2 g cap s b p L) (k : Nat) : w.frozen? ⟨bb, k, none⟩ = false := frozen_of_row w bb k _ 56 h.blk
theorem Mg.cells (h : Mg w base bb m1 m2 g cap s b p L) : w.cell? ⟨bb, 0, none⟩ = some (.int .i64 (s : Int)) ∧ w.cell? ⟨bb, 1, none⟩ = some (.int .i64 (b : Int)) ∧ w.cell? ⟨bb, 2, none⟩ = some (.int .i64 (p : Int)) ∧ w.cell? ⟨bb, 3, none⟩ = some (.map (some m1)) ∧ w.cell? ⟨bb, 4, none⟩ = some (.map (some m2)) ∧ w.cell? ⟨bb, 5, none⟩ = some (.slice (some ⟨g, 0, none⟩) b cap) := by
  refine ⟨?_, ?_, ?_, ?_, ?_, ?_⟩ <;> (rw [cell_of_row w bb _ _ 56 (0, 0) h.blk]; rfl)
theorem Mg.keep (h : Mg w base bb m1 m2 g cap s b p L) (hb : w'.heap[bb]? = w.heap[bb]?) (hk : ∀ k, Ft m1 m2 g k → w'.heap[k]? = w.heap[k]?) : Mg w' base bb m1 m2 g cap s b p L :=
  ⟨hb.trans h.blk, h.map1.kept (hk _ (.inl rfl)), h.map2.kept (hk _ (.inr (.inl rfl))), h.row.keep (hk _ (.inr (.inr rfl))), h.ne, h.h0, h.h1, h.h2, h.h3, h.fit⟩
theorem Mg.ft_lt (h : Mg w base bb m1 m2 g cap s b p L) {k : Nat} (hk : Ft m1 m2 g k) : k < w.heap.size := by
  rcases hk with rfl | rfl | rfl
  · exact h.map1.lt
  · exact h.map2.lt
  · exact h.row.lt
theorem Mg.ft_ge (h : Mg w base bb m1 m2 g cap s b p L) {k : Nat} (hk : Ft m1 m2 g k) : base ≤ k := by
  rcases hk with rfl | rfl | rfl
  · exact h.h1
  · exact h.h2
  · exact h.h3
theorem Mg.chg {S : Nat → Prop} (h : Mg w base bb m1 m2 g cap s b p L) (hc : Chg S w w') (hb : ¬ S bb) (hS : ∀ k, Ft m1 m2 g k → ¬ S k) : Mg w' base bb m1 m2 g cap s b p L :=
  h.keep (hc.block bb h.lt hb) fun k hk => hc.block k (h.ft_lt hk) (hS k hk)
theorem Mg.below (h : Mg w base bb m1 m2 g cap s b p L) (hb : Below w.heap.size w w') : Mg w' base bb m1 m2 g cap s b p L := h.keep (hb.block bb h.lt) fun k hk => hb.block k (h.ft_lt hk)
theorem Mg.rebase {base' : Nat} (h : Mg w base bb m1 m2 g cap s b p L) (hb : base' ≤ base) : Mg w base' bb m1 m2 g cap s b p L := ⟨h.blk, h.map1, h.map2, h.row, h.ne, Nat.le_trans hb h.h0, Nat.le_trans hb h.h1, Nat.le_trans hb h.h2, Nat.le_trans hb h.h3, h.fit⟩
end
end Go.Proofs.Yteiemegkdnjpgaa
