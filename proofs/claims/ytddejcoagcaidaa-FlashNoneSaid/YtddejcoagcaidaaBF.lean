/- FlashHolds: a call is kept: both appends in each of their orders. Conditions stand in each theorem. -/
import Derived.Test.YtddejcoagcaidaaBD
namespace Go.Proofs.Ytddejcoagcaidaa
open Go.RowKit
set_option linter.unusedVariables false
set_option maxHeartbeats 2000000
set_option maxRecDepth 100000
/-- The block of a call. -/
def KA.obj (e : KA) : Obj := .cells #[.int .i64 e.wh, .int .i64 e.bl, .int .i64 e.pg, e.vd, e.vs] 43
/-- What both appends leave, in one order: the first one runs in W0, the second one in W1'. -/
def AppOrd (D : World) (L : List KA) (e : KA) (kv ev xv : Value) (W0 : World) (f : World → World) (xw : World → Value) : Prop :=
  ∃ A c W1 A' c' W2, (Builtin.append_ #[25, 25] 25 #[ev, kv]).run Try.prog W0 = .ok (.slice A L.length c) W1 ∧ (Builtin.append_ #[25, 25] 25 #[.slice A L.length c, xw W1]).run Try.prog (f W1) = .ok (.slice A' (L.length + 1) c') W2 ∧
    Below D.heap.size D W1 ∧ Below D.heap.size D W2 ∧ W2.ownsRow D.heap.size 43 5 (.slice A' (L.length + 1) c') (L.length + 1) (encs (L ++ [e]))
section
variable {D : World} {L : List KA} {e : KA} {kv : Value}
theorem ord_core (hx : Acts D kv L) (hone : ∀ e ∈ L, e.one) (he : e.one) (hl : L.length ≤ 800) {W0 : World} {q : Nat} (h0 : Below D.heap.size D W0) (hq : W0.heap[q]? = some (.cells #[] 43 (0, 0))) (hqD : D.heap.size ≤ q) (f : World → World) (xq : World → Nat)
    (hf : ∀ W1, Chg (· = q) W0 W1 → Below W1.heap.size W1 (f W1) ∧ (f W1).heap[xq W1]? = some e.obj) :
    AppOrd D L e kv (.slice (some ⟨q, 0, none⟩) 0 0) kv W0 f (fun W1 => .slice (some ⟨xq W1, 0, none⟩) 1 1) := by
  obtain ⟨A, c, W1, r1, o1, c1⟩ := app_all W0 D.heap.size q 25 kv L hq (hx.below h0) hone (by omega) hqD
  obtain ⟨hb, hX⟩ := hf W1 c1
  have hB1 : Below D.heap.size D W1 := h0.trans (c1.below h0.size (fun i hi => by omega))
  have hB2 := hB1.trans (hb.mono hB1.size)
  have o2 : (f W1).ownsRow D.heap.size 43 5 (.slice A L.length c) L.length (encs L) := o1.kept (row := none) ⟨hb.os, hb.tape, hb.output, hb.size, fun k hk _ => hb.block k hk⟩ (by cases (Value.slice A L.length c).ownBlock <;> simp)
  obtain ⟨A', c', W2, r2, o3, g2⟩ := app_one (f W1) D.heap.size (xq W1) L.length 25 (.slice A L.length c) (encs L) e o2 hX he (by omega) hB2.size
  refine ⟨A, c, W1, A', c', W2, r1, r2, hB1, hB2.grown g2 hB2.size (fun k hk => (o2.lt k hk).1), ?_⟩
  rw [encs_append]
  simpa [encs] using o3
theorem ord_i (hx : Acts D kv L) (hone : ∀ e ∈ L, e.one) (he : e.one) (hl : L.length ≤ 800) : AppOrd D L e kv (.slice (some ⟨D.heap.size, 0, none⟩) 0 0) kv (D.alloc (.cells #[] 43)).drew (fun W => W.alloc e.obj) (fun W => .slice (some ⟨W.heap.size, 0, none⟩) 1 1) :=
  ord_core hx hone he hl (below_alloc D _).drew (heap_alloc_new D _) (Nat.le_refl _) (fun W => W.alloc e.obj) (fun W => W.heap.size) fun W1 _ => ⟨below_alloc W1 _, heap_alloc_new W1 _⟩
theorem ord_ii (hx : Acts D kv L) (hone : ∀ e ∈ L, e.one) (he : e.one) (hl : L.length ≤ 800) : AppOrd D L e kv (.slice (some ⟨D.heap.size, 0, none⟩) 0 0) kv ((D.alloc (.cells #[] 43)).alloc e.obj).drew (fun W => W) (fun W => .slice (some ⟨D.heap.size + 1, 0, none⟩) 1 1) := by
  have h1 := heap_alloc_new (D.alloc (.cells #[] 43)) e.obj
  rw [World.size_alloc] at h1
  refine ord_core hx hone he hl ((below_alloc D _).alloc (by simp) _).drew (((below_alloc (D.alloc (.cells #[] 43)) e.obj).block D.heap.size (by simp)).trans (heap_alloc_new D _)) (Nat.le_refl _) (fun W => W) (fun _ => D.heap.size + 1) fun W1 hc => ⟨Below.refl _ _, ?_⟩
  exact (hc.block (D.heap.size + 1) (Array.getElem?_eq_some_iff.1 h1).1 (by omega)).trans h1
theorem ord_iii (hx : Acts D kv L) (hone : ∀ e ∈ L, e.one) (he : e.one) (hl : L.length ≤ 800) : AppOrd D L e kv (.slice (some ⟨D.heap.size + 1, 0, none⟩) 0 0) kv ((D.alloc e.obj).alloc (.cells #[] 43)).drew (fun W => W) (fun W => .slice (some ⟨D.heap.size, 0, none⟩) 1 1) := by
  have h1 := heap_alloc_new (D.alloc e.obj) (.cells #[] 43)
  rw [World.size_alloc] at h1
  have h2 : ((D.alloc e.obj).alloc (.cells #[] 43)).drew.heap[D.heap.size]? = some e.obj := ((below_alloc (D.alloc e.obj) (.cells #[] 43)).block D.heap.size (by simp)).trans (heap_alloc_new D _)
  refine ord_core hx hone he hl ((below_alloc D _).alloc (by simp) _).drew h1 (by omega) (fun W => W) (fun _ => D.heap.size) fun W1 hc => ⟨Below.refl _ _, ?_⟩
  exact (hc.block D.heap.size (Array.getElem?_eq_some_iff.1 h2).1 (by omega)).trans h2
end
/-- What append leaves, as functions of what it is given. -/
noncomputable def appV (W : World) (v xv : Value) : Value := match (Builtin.append_ #[25, 25] 25 #[v, xv]).run Try.prog W with
  | .ok r _ => r
  | _ => undef
noncomputable def appW (W : World) (v xv : Value) : World := match (Builtin.append_ #[25, 25] 25 #[v, xv]).run Try.prog W with
  | .ok _ w => w
  | _ => W
def AppOk (W : World) (v xv : Value) : Prop := (Builtin.append_ #[25, 25] 25 #[v, xv]).run Try.prog W = .ok (appV W v xv) (appW W v xv)
theorem app_pre {W : World} {v xv : Value} (h : AppOk W v xv) : (Builtin.append_ #[25, 25] 25 #[v, xv]).run Try.prog W = .ok (appV W v xv) (appW W v xv) := h
theorem app_of {W W' : World} {v xv r : Value} (h : (Builtin.append_ #[25, 25] 25 #[v, xv]).run Try.prog W = .ok r W') : AppOk W v xv ∧ appV W v xv = r ∧ appW W v xv = W' := by
  have e1 : appV W v xv = r := by unfold appV; rw [h]
  have e2 : appW W v xv = W' := by unfold appW; rw [h]
  refine ⟨?_, e1, e2⟩
  unfold AppOk
  rw [e1, e2]
  exact h
/-- The cells of a call that lies in block q. -/
def XAt (W : World) (q : Nat) (wh bl pg : Int) (vd vs : Value) : Prop := W.heap[q]? = some (.cells #[.int .i64 wh, .int .i64 bl, .int .i64 pg, vd, vs] 43 (0, 0))
theorem XAt.cells {W : World} {q : Nat} {wh bl pg : Int} {vd vs : Value} (h : XAt W q wh bl pg vd vs) : W.cell? ⟨q, 0, none⟩ = some (.int .i64 wh) ∧ W.cell? ⟨q, 1, none⟩ = some (.int .i64 bl) ∧ W.cell? ⟨q, 2, none⟩ = some (.int .i64 pg) ∧ W.cell? ⟨q, 3, none⟩ = some vd ∧ W.cell? ⟨q, 4, none⟩ = some vs := by
  have e := fun k => cell_of_row W q k _ 43 (0, 0) h
  exact ⟨e 0, e 1, e 2, e 3, e 4⟩
theorem XAt.below {W W' : World} {q : Nat} {wh bl pg : Int} {vd vs : Value} (h : XAt W q wh bl pg vd vs) (hb : Below W.heap.size W W') : XAt W' q wh bl pg vd vs := (hb.block q (Array.getElem?_eq_some_iff.1 h).1).trans h
theorem XAt.chg {S : Nat → Prop} {W W' : World} {q : Nat} {wh bl pg : Int} {vd vs : Value} (h : XAt W q wh bl pg vd vs) (hc : Chg S W W') (hS : ¬ S q) : XAt W' q wh bl pg vd vs := (hc.block q (Array.getElem?_eq_some_iff.1 h).1 hS).trans h
/-- A call has been kept. -/
theorem hj_kept {w W W2 : World} {b g m gk nb M : Nat} {X : Nat → Prop} {V : Nat → Value} {s : Dev} {K : Nat → Value} {LL : Nat → List KA} (h : HJ w b g m gk nb M X V s K LL W) {i : Nat} (hi : i < nb) {e : KA} (hb : Below W.heap.size W W2) {A : Option Addr} {c : Nat}
    (ho : W2.ownsRow W.heap.size 43 5 (.slice A ((LL i).length + 1) c) ((LL i).length + 1) (encs (LL i ++ [e]))) (hok : EOk w s i e) (he : e.one) (hX : ¬ X i) :
    HJ w b g m gk nb (M + 1) X V s (upd K i (.slice A ((LL i).length + 1) c)) (upd LL i (LL i ++ [e])) (W2.setCell ⟨gk, i, none⟩ (.slice A ((LL i).length + 1) c)) := by
  refine h.rekeep hb hi (Acts.of_own ho) (fun _ k hk => ?_) (Nat.le_succ M) (by rw [List.length_append]; exact Nat.succ_le_succ (h.len i hi)) (fun q hq => ?_) (fun q hq => ?_) (fun j hj _ => hj)
  · rcases ho.2 with ⟨e0, _⟩ | ⟨p, cap, cur, e0, _, hp, _⟩
    · rw [e0] at hk; cases hk
    · rw [e0] at hk
      simp only [Value.ownBlock, Option.some.injEq] at hk
      subst hk
      exact ⟨_, _, hp⟩
  · rw [List.mem_append] at hq
    rcases hq with hq | hq
    · exact h.ok i hi hX q hq
    · rw [List.mem_singleton] at hq; rw [hq]; exact hok
  · rw [List.mem_append] at hq
    rcases hq with hq | hq
    · exact h.one i hi q hq
    · rw [List.mem_singleton] at hq; rw [hq]; exact he
end Go.Proofs.Ytddejcoagcaidaa
