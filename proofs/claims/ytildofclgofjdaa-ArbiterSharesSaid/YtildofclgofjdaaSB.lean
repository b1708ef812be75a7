/- The walk of ArbiterShares: its parts. Conditions stand in each theorem. -/
import Derived.Test.YtildofclgofjdaaSA
namespace Go.Proofs.Ytildofclgofjdaa
open Go.RowKit
set_option linter.unusedVariables false
set_option maxHeartbeats 400000
set_option maxRecDepth 100000
def totk (a b c : Nat) (hi me lo : Int) : Nat → Int
  | 0 => 0
  | k + 1 => totk a b c hi me lo k + (if 0 < n3 a b c k then wk hi me lo k else 0)
theorem totk3 (a b c : Nat) (hi me lo : Int) : totk a b c hi me lo 3 = tot a b c hi me lo := by
  simp [totk, tot, n3, wk]
/-- What the loops of the law keep: the array of queues at block Q, the weights at block B9. -/
structure Bas (w : World) (base Q B9 : Nat) (x0 x1 x2 : Nat) (hi me lo : Int) (wr : World) : Prop where
  below : Below w.heap.size w wr
  size : base ≤ wr.heap.size
  qb : wr.heap[Q]? = some (.cells #[.int .u8 x0, .int .u8 x1, .int .u8 x2] 44 (0, 0))
  wb : wr.heap[B9]? = some (.cells #[.int .i64 hi, .int .i64 me, .int .i64 lo] 45 (0, 0))
/-- The places: the blocks of the arbiter and of its map, the array, the weights. -/
structure Plc (w : World) (base Q B9 ba ma : Nat) : Prop where
  q : Q < base
  b : B9 < base
  a : ba < base
  m : ma < base
  wq : w.heap.size ≤ Q
  wb : w.heap.size ≤ B9
  wa : w.heap.size ≤ ba
  wm : w.heap.size ≤ ma
  qa : Q ≠ ba
  qm : Q ≠ ma
  ba' : B9 ≠ ba
  bm : B9 ≠ ma
  ww : w.heap.size ≤ base
theorem Bas.chg {w : World} {base Q B9 ba ma x0 x1 x2 : Nat} {hi me lo : Int} {wr w' : World} {S : Nat → Prop} (h : Bas w base Q B9 x0 x1 x2 hi me lo wr) (p : Plc w base Q B9 ba ma) (hc : Chg S wr w') (h1 : ¬ S Q) (h2 : ¬ S B9) (h3 : ∀ i, S i → w.heap.size ≤ i) : Bas w base Q B9 x0 x1 x2 hi me lo w' :=
  ⟨h.below.trans (hc.below h.below.size h3), Nat.le_trans h.size hc.size, (hc.block Q (Array.getElem?_eq_some_iff.1 h.qb).1 h1).trans h.qb, (hc.block B9 (Array.getElem?_eq_some_iff.1 h.wb).1 h2).trans h.wb⟩
theorem Bas.cq {w : World} {base Q B9 x0 x1 x2 : Nat} {hi me lo : Int} {wr : World} (h : Bas w base Q B9 x0 x1 x2 hi me lo wr) (k : Nat) (hk : k < 3) : wr.cell? ⟨Q, k, none⟩ = some (.int .u8 ((n3 x0 x1 x2 k : Nat) : Int)) := by
  rw [cell_of_row wr Q k _ 44 (0, 0) h.qb]
  match k, hk with
  | 0, _ => rfl
  | 1, _ => rfl
  | 2, _ => rfl
theorem Bas.cw {w : World} {base Q B9 x0 x1 x2 : Nat} {hi me lo : Int} {wr : World} (h : Bas w base Q B9 x0 x1 x2 hi me lo wr) (k : Nat) (hk : k < 3) : wr.cell? ⟨B9, k, none⟩ = some (.int .i64 (wk hi me lo k)) := by
  rw [cell_of_row wr B9 k _ 45 (0, 0) h.wb]
  match k, hk with
  | 0, _ => rfl
  | 1, _ => rfl
  | 2, _ => rfl
def sS (bu hi me lo : Int) (a b c k i : Nat) : St := (St.new true bu hi me lo).with (sL a b c k i)
/-- Between two queues. -/
structure S1 (w : World) (base Q B9 ba ma x0 x1 x2 : Nat) (bu hi me lo : Int) (k i : Nat) (v : Value) (wr : World) : Prop where
  arb : Arb wr ba ma (sS bu hi me lo (x0 % 4) (x1 % 4) (x2 % 4) k i)
  row : wr.ownsRow base 48 2 v (sl (x0 % 4) (x1 % 4) (x2 % 4) k i).length (lv (sl (x0 % 4) (x1 % 4) (x2 % 4) k i))
  bas : Bas w base Q B9 x0 x1 x2 hi me lo wr
theorem n3_mod (x0 x1 x2 k : Nat) : n3 (x0 % 4) (x1 % 4) (x2 % 4) k = n3 x0 x1 x2 k % 4 := by unfold n3; split; rfl; split <;> rfl
theorem n3_lt (a b c k : Nat) (ha : a < 4) (hb : b < 4) (hc : c < 4) : n3 a b c k < 4 := by unfold n3; split; exact ha; split; exact hb; exact hc
theorem S1.add {w : World} {base Q B9 ba ma x0 x1 x2 : Nat} {bu hi me lo : Int} {k i : Nat} {v : Value} {wr : World} (h : S1 w base Q B9 ba ma x0 x1 x2 bu hi me lo k i v wr) (hk : k < 3) (hi' : i < n3 (x0 % 4) (x1 % 4) (x2 % 4) k) :
    Calls Try.prog 16 #[.pointer (some ⟨ba, 0, none⟩), .int .i64 (10 * (i : Int) + (k : Int)), .int .i64 ((k : Int) + 1)] wr (MapPost wr ba ma (sS bu hi me lo (x0 % 4) (x1 % 4) (x2 % 4) k i) 0 (sL (x0 % 4) (x1 % 4) (x2 % 4) k (i + 1))) := by
  have m0 : x0 % 4 < 4 := Nat.mod_lt _ (by decide)
  have m1 : x1 % 4 < 4 := Nat.mod_lt _ (by decide)
  have m2 : x2 % 4 < 4 := Nat.mod_lt _ (by decide)
  have hi3 : i < 3 := by have := n3_lt _ _ _ k m0 m1 m2; omega
  have hc := Add_any ba ma _ wr h.arb (sL_srt _ _ _ _ _) (10 * (i : Int) + (k : Int)) ((k : Int) + 1)
  have e1 : 10 * (i : Int) + (k : Int) = ((10 * i + k : Nat) : Int) := by omega
  have e2 : (k : Int) + 1 = ((k + 1 : Nat) : Int) := by omega
  rw [e1, e2] at hc ⊢
  have hE : addE (sS bu hi me lo (x0 % 4) (x1 % 4) (x2 % 4) k i).L ((10 * i + k : Nat) : Int) ((k + 1 : Nat) : Int) = 0 := s_add ⟨_, m0⟩ ⟨_, m1⟩ ⟨_, m2⟩ ⟨k, hk⟩ ⟨i, hi3⟩ hi'
  have hL : addL (sS bu hi me lo (x0 % 4) (x1 % 4) (x2 % 4) k i).L ((10 * i + k : Nat) : Int) ((k + 1 : Nat) : Int) = sL (x0 % 4) (x1 % 4) (x2 % 4) k (i + 1) := (sL_succ _ _ _ _ _).symm
  rw [hE, hL] at hc
  exact hc
theorem row_chg {w w' : World} {base b : Nat} {v : Value} {n : Nat} {xs : List Value} (h : w.ownsRow base 48 2 v n xs) (hb : b < base) (hC : Chg (· = b) w w') : w'.ownsRow base 48 2 v n xs := by
  refine h.kept (row := some b) ⟨hC.os, hC.tape, hC.output, hC.size, fun k hk hne => hC.block k hk (fun e => hne (by rw [e]))⟩ ?_
  cases e : v.ownBlock with
  | none => exact .inl rfl
  | some j => right; intro e'; have := (h.lt j e).1; cases e'; omega
theorem S1.step {w : World} {base Q B9 ba ma x0 x1 x2 : Nat} {bu hi me lo : Int} {k i : Nat} {v v' : Value} {wr W2 W3 : World} (h : S1 w base Q B9 ba ma x0 x1 x2 bu hi me lo k i v wr) (p : Plc w base Q B9 ba ma)
    (hA : Arb W2 ba ma ((sS bu hi me lo (x0 % 4) (x1 % 4) (x2 % 4) k i).with (sL (x0 % 4) (x1 % 4) (x2 % 4) k (i + 1)))) (hC : Chg (· = ma) wr W2) (o : Obj) (ho : W3.ownsRow base 48 2 v' ((sl (x0 % 4) (x1 % 4) (x2 % 4) k i).length + 1) (lv (sl (x0 % 4) (x1 % 4) (x2 % 4) k i) ++ [.int .i64 (10 * (i : Int) + (k : Int)), .int .i64 1000])) (hg : (W2.alloc o).grownBy W3 v.ownBlock) :
    S1 w base Q B9 ba ma x0 x1 x2 bu hi me lo k (i + 1) v' W3 := by
  have hne : ∀ j, j < base → some j ≠ v.ownBlock := fun j hj e => by have := (h.row.lt j e.symm).1; omega
  have b2 := h.bas.chg p hC (by show ¬ Q = ma; exact p.qm) (by show ¬ B9 = ma; exact p.bm) (fun j hj => by have := p.wm; omega)
  have b3 := b2.chg p (Chg.of_below (S := fun _ => False) (below_alloc W2 o)) (fun h => h) (fun h => h) (fun _ h => h.elim)
  have b4 := b3.chg p (Chg.of_grown hg) (fun e => hne Q p.q e.symm) (fun e => hne B9 p.b e.symm) (fun j e => by have := (h.row.lt j e).1; have := p.ww; omega)
  have hA2 := hA.below (below_alloc W2 o)
  refine ⟨hA2.kept (hg.block ba hA2.lt (hne ba p.a)) (hg.block ma hA2.map.lt (hne ma p.m)), ?_, b4⟩
  rw [sl_succ, List.length_append, lv_append]
  have e1 : 10 * (i : Int) + (k : Int) = ((10 * i + k : Nat) : Int) := by omega
  rw [e1] at ho
  exact ho
/-- Between two picks: class k has been given g k. -/
structure S2 (w : World) (base Q B9 ba ma x0 x1 x2 : Nat) (bu hi me lo : Int) (v : Value) (g : Nat → Int) (wr : World) : Prop where
  arb : ∃ s, Arb wr ba ma s ∧ Sh (x0 % 4) (x1 % 4) (x2 % 4) bu hi me lo g s
  row : wr.ownsRow base 48 2 v (sl (x0 % 4) (x1 % 4) (x2 % 4) 3 0).length (lv (sl (x0 % 4) (x1 % 4) (x2 % 4) 3 0))
  bas : Bas w base Q B9 x0 x1 x2 hi me lo wr
def SPick (w : World) (base Q B9 ba ma x0 x1 x2 : Nat) (bu hi me lo : Int) (v : Value) (g : Nat → Int) (wr : World) (e : Ending) (w' : World) : Prop :=
  ∃ (q m : Int) (k : Nat), e = .returned (.tuple #[.int .i64 q, .int .i64 m, .int .i64 0]) ∧ k < 3 ∧ 0 ≤ q ∧ q ≤ 65535 ∧ q % 10 = (k : Int) ∧ 0 < m ∧ m ≤ 80 ∧ S2 w base Q B9 ba ma x0 x1 x2 bu hi me lo v (upd g k (g k + m)) w' ∧ Chg (· = ba) wr w'
theorem rng_sl (a b c : Nat) (ha : a < 4) (hb : b < 4) (hc : c < 4) : Rng (sl a b c 3 0) := fun p hp => by
  have := s_mem ha hb hc hp
  unfold I64
  omega
theorem S2.pick {w : World} {base Q B9 ba ma x0 x1 x2 : Nat} {bu hi me lo : Int} {v : Value} {g : Nat → Int} {wr : World} (h : S2 w base Q B9 ba ma x0 x1 x2 bu hi me lo v g wr) (p : Plc w base Q B9 ba ma) (h40 : ∀ k, wk hi me lo k ≤ 40) (hn : g 0 + g 1 + g 2 < tot (x0 % 4) (x1 % 4) (x2 % 4) hi me lo) :
    Calls Try.prog 17 #[.pointer (some ⟨ba, 0, none⟩), v] wr (SPick w base Q B9 ba ma x0 x1 x2 bu hi me lo v g wr) := by
  have m0 : x0 % 4 < 4 := Nat.mod_lt _ (by decide)
  have m1 : x1 % 4 < 4 := Nat.mod_lt _ (by decide)
  have m2 : x2 % 4 < 4 := Nat.mod_lt _ (by decide)
  obtain ⟨s, hA, hS⟩ := h.arb
  obtain ⟨hany, k, hk, hnk, q0, q1, q2, p0, p1, hS2⟩ := hS.pick m0 m1 m2 hn
  have hlen := s_len ⟨_, m0⟩ ⟨_, m1⟩ ⟨_, m2⟩ ⟨3, by decide⟩ ⟨0, by decide⟩ (Nat.le_refl _)
  have hw := h40 k
  refine (Pick_ok ba ma s wr hA hS.ok v _ (Lds.of_own h.row) (rng_sl _ _ _ m0 m1 m2) (by simp only at hlen; omega) (by rw [hS.L]; exact s_acc ⟨_, m0⟩ ⟨_, m1⟩ ⟨_, m2⟩) hany).mono ?_
  rintro e w' ⟨rfl, hA2, hC⟩
  exact ⟨_, _, k, rfl, hk, q0, q1, q2, p0, by omega, ⟨⟨_, hA2, hS2⟩, row_chg h.row p.a hC, h.bas.chg p hC (by show ¬ Q = ba; exact p.qa) (by show ¬ B9 = ba; exact p.ba') (fun j hj => by have := p.wa; omega)⟩, hC⟩
/-- What the classes have been given, at block G. -/
def Giv (wr : World) (G : Nat) (g : Nat → Int) : Prop := wr.heap[G]? = some (.cells #[.int .i64 (g 0), .int .i64 (g 1), .int .i64 (g 2)] 45 (0, 0))
theorem Giv.lt {wr : World} {G : Nat} {g : Nat → Int} (h : Giv wr G g) : G < wr.heap.size := (Array.getElem?_eq_some_iff.1 h).1
theorem Giv.cell {wr : World} {G : Nat} {g : Nat → Int} (h : Giv wr G g) (k : Nat) (hk : k < 3) : wr.cell? ⟨G, k, none⟩ = some (.int .i64 (g k)) := by
  rw [cell_of_row wr G k _ 45 (0, 0) h]
  match k, hk with
  | 0, _ => rfl
  | 1, _ => rfl
  | 2, _ => rfl
theorem Giv.free {wr : World} {G : Nat} {g : Nat → Int} (h : Giv wr G g) (k : Nat) : wr.frozen? ⟨G, k, none⟩ = false := frozen_of_row wr G k _ 45 h
theorem Giv.set {wr : World} {G : Nat} {g : Nat → Int} (h : Giv wr G g) (k : Nat) (hk : k < 3) (x : Int) : Giv (wr.setCell ⟨G, k, none⟩ (.int .i64 x)) G (upd g k x) := by
  unfold Giv
  rw [heap_setCell_same wr G k _ 45 _ h]
  match k, hk with
  | 0, _ => rfl
  | 1, _ => rfl
  | 2, _ => rfl
theorem S2.set {w : World} {base Q B9 ba ma x0 x1 x2 : Nat} {bu hi me lo : Int} {v : Value} {g : Nat → Int} {wr : World} (h : S2 w base Q B9 ba ma x0 x1 x2 bu hi me lo v g wr) (p : Plc w base Q B9 ba ma) {G : Nat} {gg : Nat → Int} (hG : Giv wr G gg) (hb : base ≤ G) (hv : v.ownBlock ≠ some G) (k : Nat) (x : Value) : S2 w base Q B9 ba ma x0 x1 x2 bu hi me lo v g (wr.setCell ⟨G, k, none⟩ x) := by
  have hC : Chg (· = G) wr (wr.setCell ⟨G, k, none⟩ x) := (Chg.refl (· = G) wr).setCell rfl x
  obtain ⟨s, hA, hS⟩ := h.arb
  refine ⟨⟨s, hA.chg hC (by have := p.a; show ¬ ba = G; omega) (by have := p.m; show ¬ ma = G; omega), hS⟩, ?_, h.bas.chg p hC (by have := p.q; show ¬ Q = G; omega) (by have := p.b; show ¬ B9 = G; omega) (fun j hj => by have := p.ww; omega)⟩
  refine h.row.kept (row := some G) ⟨hC.os, hC.tape, hC.output, hC.size, fun j hj hne => hC.block j hj (fun e => hne (by rw [e]))⟩ ?_
  cases e : v.ownBlock with
  | none => exact .inl rfl
  | some j => right; rw [← e]; exact hv
theorem sum_upd (g : Nat → Int) (k : Nat) (hk : k < 3) (m : Int) : upd g k (g k + m) 0 + upd g k (g k + m) 1 + upd g k (g k + m) 2 = g 0 + g 1 + g 2 + m := by
  have : k = 0 ∨ k = 1 ∨ k = 2 := by omega
  rcases this with rfl | rfl | rfl <;> simp [upd] <;> omega
end Go.Proofs.Ytildofclgofjdaa
