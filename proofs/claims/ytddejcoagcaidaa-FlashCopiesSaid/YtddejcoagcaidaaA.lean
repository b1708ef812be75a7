/- A device in memory; the contracts of missing, within, hasBlock, hasPage, refusal, num, same. Conditions stand in each theorem. -/
import Derived.Test.YtddejcoagcaidaaW
import Derived.Lib.SliceRun
namespace Go.Proofs.Ytddejcoagcaidaa
open Go.RowKit
set_option linter.unusedVariables false
set_option maxHeartbeats 400000
set_option maxRecDepth 100000

/-- The cells of a device. -/
def devCells (s : Dev) (g m : Nat) : Array Value := #[.int .i64 (s.nb : Int), .int .i64 (s.np : Int), .int .i64 (s.sz : Int), .int .i64 s.en, .slice (some ⟨g, 0, none⟩) s.nb s.nb, .map (some m), .int .i64 s.po, .int .i64 s.pb, .int .i64 s.n, .bool s.off]
/-- Block b is a device in the state s, block g its blocks, block m its faults, V their rows of pages. All of it lies from base on. -/
structure Dv (w : World) (base b g m : Nat) (V : Nat → Value) (s : Dev) : Prop where
  blk : w.heap[b]? = some (.cells (devCells s g m) 64 (0, 0))
  hb : base ≤ b
  hg : base ≤ g
  hm : base ≤ m
  grid : ∃ G : Array Value, w.heap[g]? = some (.cells G 94 (0, 0)) ∧ G.size = s.nb * 2 ∧ ∀ i, i < s.nb → G[i * 2]? = some (.int .i64 (s.bk i).er) ∧ G[i * 2 + 1]? = some (V i)
  row : ∀ i, i < s.nb → ∃ xs, w.ownsRow base 91 3 (V i) (s.bk i).pg.length xs ∧ Rws s.lo w xs (s.bk i).pg
  apart : ∀ i j, i < s.nb → j < s.nb → i ≠ j → (V i).ownBlock = none ∨ (V i).ownBlock ≠ (V j).ownBlock
  flt : Seen w m s.F
  lw : s.lo ≤ base
/-- The numbers of a device fit. -/
structure Gd (s : Dev) : Prop where
  nb : 2 ≤ s.nb ∧ s.nb ≤ 4096
  np : 2 ≤ s.np ∧ s.np ≤ 512
  sz : 1 ≤ s.sz ∧ s.sz ≤ 8192
  en : 1 ≤ s.en ∧ s.en ≤ 1048576
  er : ∀ i, i < s.nb → 0 ≤ (s.bk i).er ∧ (s.bk i).er ≤ s.en
  pg : ∀ i, i < s.nb → (s.bk i).pg.length ≤ s.np
  pb : 0 ≤ s.pb ∧ s.pb ≤ s.sz + 64
  n : 0 ≤ s.n
  ln : ∀ i, i < s.nb → ∀ p ∈ (s.bk i).pg, (p.st = 2 ∨ p.st = 3) ∧ p.d.length = s.sz ∧ p.s.length = 64 ∨ (p.st = 4 ∨ p.st = 5)

theorem own_form {w : World} {base e sz n : Nat} {v : Value} {xs : List Value} (h : w.ownsRow base e sz v n xs) : ∃ A c, v = .slice A n c := by
  rcases h.2 with ⟨rfl, h0⟩ | ⟨g, cap, cur, rfl, _⟩
  · exact ⟨none, 0, by rw [h0]⟩
  · exact ⟨_, _, rfl⟩
section
variable {w : World} {base b g m : Nat} {V : Nat → Value} {s : Dev}
theorem Dv.lt (h : Dv w base b g m V s) : b < w.heap.size := (Array.getElem?_eq_some_iff.1 h.blk).1
theorem Dv.free (h : Dv w base b g m V s) (k : Nat) : w.frozen? ⟨b, k, none⟩ = false := frozen_of_row w b k _ 64 h.blk
theorem Dv.c0 (h : Dv w base b g m V s) : w.cell? ⟨b, 0, none⟩ = some (.int .i64 (s.nb : Int)) := by rw [cell_of_row w b 0 _ 64 (0, 0) h.blk]; rfl
theorem Dv.c1 (h : Dv w base b g m V s) : w.cell? ⟨b, 1, none⟩ = some (.int .i64 (s.np : Int)) := by rw [cell_of_row w b 1 _ 64 (0, 0) h.blk]; rfl
theorem Dv.c2 (h : Dv w base b g m V s) : w.cell? ⟨b, 2, none⟩ = some (.int .i64 (s.sz : Int)) := by rw [cell_of_row w b 2 _ 64 (0, 0) h.blk]; rfl
theorem Dv.c3 (h : Dv w base b g m V s) : w.cell? ⟨b, 3, none⟩ = some (.int .i64 s.en) := by rw [cell_of_row w b 3 _ 64 (0, 0) h.blk]; rfl
theorem Dv.c4 (h : Dv w base b g m V s) : w.cell? ⟨b, 4, none⟩ = some (.slice (some ⟨g, 0, none⟩) s.nb s.nb) := by rw [cell_of_row w b 4 _ 64 (0, 0) h.blk]; rfl
theorem Dv.c5 (h : Dv w base b g m V s) : w.cell? ⟨b, 5, none⟩ = some (.map (some m)) := by rw [cell_of_row w b 5 _ 64 (0, 0) h.blk]; rfl
theorem Dv.c6 (h : Dv w base b g m V s) : w.cell? ⟨b, 6, none⟩ = some (.int .i64 s.po) := by rw [cell_of_row w b 6 _ 64 (0, 0) h.blk]; rfl
theorem Dv.c7 (h : Dv w base b g m V s) : w.cell? ⟨b, 7, none⟩ = some (.int .i64 s.pb) := by rw [cell_of_row w b 7 _ 64 (0, 0) h.blk]; rfl
theorem Dv.c8 (h : Dv w base b g m V s) : w.cell? ⟨b, 8, none⟩ = some (.int .i64 s.n) := by rw [cell_of_row w b 8 _ 64 (0, 0) h.blk]; rfl
theorem Dv.c9 (h : Dv w base b g m V s) : w.cell? ⟨b, 9, none⟩ = some (.bool s.off) := by rw [cell_of_row w b 9 _ 64 (0, 0) h.blk]; rfl
theorem Dv.gcells (h : Dv w base b g m V s) {i : Nat} (hi : i < s.nb) : w.cell? ⟨g, i * 2, none⟩ = some (.int .i64 (s.bk i).er) ∧ w.cell? ⟨g, i * 2 + 1, none⟩ = some (V i) := by
  obtain ⟨G, hG, _, hc⟩ := h.grid
  have e := fun k => cell_of_row w g k G 94 (0, 0) hG
  exact ⟨(e _).trans (hc i hi).1, (e _).trans (hc i hi).2⟩
theorem Dv.gfree (h : Dv w base b g m V s) (k : Nat) : w.frozen? ⟨g, k, none⟩ = false := by
  obtain ⟨G, hG, _, hc⟩ := h.grid
  exact frozen_of_row w g k _ 94 hG
theorem Dv.form (h : Dv w base b g m V s) {i : Nat} (hi : i < s.nb) : ∃ A c, V i = .slice A (s.bk i).pg.length c := by
  obtain ⟨xs, ho, _⟩ := h.row i hi
  exact own_form ho
theorem Dv.page (h : Dv w base b g m V s) {i j : Nat} (hi : i < s.nb) (hj : j < (s.bk i).pg.length) :
    ∃ p c dv sv, V i = .slice (some ⟨p, 0, none⟩) (s.bk i).pg.length c ∧ w.cell? ⟨p, j * 3, none⟩ = some dv ∧ w.cell? ⟨p, j * 3 + 1, none⟩ = some sv ∧ w.cell? ⟨p, j * 3 + 2, none⟩ = some (.int .i64 ((s.bk i).pg[j]).st) ∧ BytT s.lo w dv ((s.bk i).pg[j]).d ∧ BytT s.lo w sv ((s.bk i).pg[j]).s := by
  obtain ⟨xs, ho, hr⟩ := h.row i hi
  obtain ⟨p, c, e, _, _⟩ := ho.form (by omega)
  obtain ⟨x, y, h1, h2, h3, h4, h5⟩ := hr.at xs _ j hj
  have hl := ho.1
  have hc : ∀ k u, xs[k]? = some u → w.cell? ⟨p, k, none⟩ = some u := fun k u hu => by
    have := ho.cells (g := p) (by rw [e]; rfl) k u hu
    rwa [add_plain, Nat.zero_add] at this
  exact ⟨p, c, x, y, e, hc _ _ h1, hc _ _ h2, hc _ _ h3, h4, h5⟩
end
/-- The blocks of a device that may change. -/
def Foot (s : Dev) (b g m : Nat) (V : Nat → Value) (k : Nat) : Prop := k = b ∨ k = g ∨ k = m ∨ ∃ i, i < s.nb ∧ (V i).ownBlock = some k
theorem Dv.noBytes {w : World} {base b g m : Nat} {V : Nat → Value} {s : Dev} (h : Dv w base b g m V s) : NoBytes (Foot s b g m V) w := by
  intro k hk hf cs fr e
  have key : ∀ {cs' : Array Value} {t : TypeId} {fr'}, w.heap[k]? = some (.cells cs' t fr') → t ≠ 5 → False := fun e' ht => by
    rw [e'] at e
    injection e with e
    injection e with _ e1
    exact ht e1
  rcases hf with rfl | rfl | rfl | ⟨i, hi, hv⟩
  · exact key h.blk (by decide)
  · obtain ⟨G, hG, _⟩ := h.grid
    exact key hG (by decide)
  · obtain ⟨es, c, hm⟩ := h.flt.isMap
    rw [hm] at e
    cases e
  · obtain ⟨xs, ho, _⟩ := h.row i hi
    rcases ho.2 with ⟨e0, _⟩ | ⟨p, cap, cur, e0, _, hp, _⟩
    · rw [e0] at hv; cases hv
    · rw [e0] at hv
      simp only [Value.ownBlock, Option.some.injEq] at hv
      subst hv
      exact key hp (by decide)
theorem Dv.foot_ge {w : World} {base b g m : Nat} {V : Nat → Value} {s : Dev} (h : Dv w base b g m V s) {k : Nat} (hk : Foot s b g m V k) : base ≤ k := by
  rcases hk with rfl | rfl | rfl | ⟨i, hi, hv⟩
  · exact h.hb
  · exact h.hg
  · exact h.hm
  · obtain ⟨xs, ho, _⟩ := h.row i hi
    exact (ho.lt k hv).1
theorem Dv.foot_lt {w : World} {base b g m : Nat} {V : Nat → Value} {s : Dev} (h : Dv w base b g m V s) {k : Nat} (hk : Foot s b g m V k) : k < w.heap.size := by
  rcases hk with rfl | rfl | rfl | ⟨i, hi, hv⟩
  · exact h.lt
  · obtain ⟨G, hG, _⟩ := h.grid
    exact (Array.getElem?_eq_some_iff.1 hG).1
  · exact h.flt.lt
  · obtain ⟨xs, ho, _⟩ := h.row i hi
    exact (ho.lt k hv).2
theorem Dv.lowle {w : World} {base b g m : Nat} {V : Nat → Value} {s : Dev} (h : Dv w base b g m V s) : s.lo ≤ w.heap.size := Nat.le_trans h.lw (Nat.le_trans h.hb (Nat.le_of_lt h.lt))
/-- A device stays where none of its blocks has changed. -/
theorem Dv.chg {S : Nat → Prop} {w w' : World} {base b g m : Nat} {V : Nat → Value} {s : Dev} (h : Dv w base b g m V s) (hc : Chg S w w') (hS : ∀ k, Foot s b g m V k → ¬ S k) (hB : NoBytes S w) : Dv w' base b g m V s := by
  have hx : ∀ k, Foot s b g m V k → w'.heap[k]? = w.heap[k]? := fun k hk => hc.block k (h.foot_lt hk) (hS k hk)
  refine ⟨(hx b (.inl rfl)).trans h.blk, h.hb, h.hg, h.hm, ?_, fun i hi => ?_, h.apart, h.flt.kept (hx m (.inr (.inr (.inl rfl)))), h.lw⟩
  · obtain ⟨G, hG, r⟩ := h.grid
    exact ⟨G, (hx g (.inr (.inl rfl))).trans hG, r⟩
  · obtain ⟨xs, ho, hr⟩ := h.row i hi
    refine ⟨xs, ⟨ho.1, ?_⟩, Rws.chg hc hB _ _ hr⟩
    rcases ho.2 with h0 | ⟨p, cap, cur, e, hp, hh, r⟩
    · exact .inl h0
    · exact .inr ⟨p, cap, cur, e, hp, (hx p (.inr (.inr (.inr ⟨i, hi, by rw [e]; rfl⟩)))).trans hh, r⟩
theorem Dv.below {w w' : World} {base b g m : Nat} {V : Nat → Value} {s : Dev} (h : Dv w base b g m V s) (hc : Below w.heap.size w w') : Dv w' base b g m V s :=
  h.chg (S := fun _ => False) (Chg.of_below hc) (fun _ _ hf => hf) (fun _ _ hf => hf.elim)

theorem missing_nil (w : World) : Calls Try.prog 46 #[.pointer none] w fun e w' => e = .returned (.bool true) ∧ w = w' := by
  go_enter Try.func46, Try.ntmps46
  go_wp2
  go_ret
  exact ⟨rfl, rfl⟩
theorem missing_zero (b : Nat) (w : World) (h : w.cell? ⟨b, 4, none⟩ = some (.slice none 0 0)) : Calls Try.prog 46 #[.pointer (some ⟨b, 0, none⟩)] w fun e w' => e = .returned (.bool true) ∧ w = w' := by
  have hq : ∀ (w : World) (a : Option Addr) (n c n' c' : Nat), (binOp .eql 59 (.slice a n c) (.slice none n' c')).run Try.prog w = .ok (.bool a.isNone) w := fun w a n c n' c' => Lib.run_eql_slice_nil w _ _ a n c n' c' Try.underlying59
  go_enter Try.func46, Try.ntmps46
  go_wp2
  go_ret
  exact ⟨rfl, rfl⟩
theorem missing_not (b g n : Nat) (w : World) (h : w.cell? ⟨b, 4, none⟩ = some (.slice (some ⟨g, 0, none⟩) n n)) : Calls Try.prog 46 #[.pointer (some ⟨b, 0, none⟩)] w fun e w' => e = .returned (.bool false) ∧ w = w' := by
  have hq : ∀ (w : World) (a : Option Addr) (n c n' c' : Nat), (binOp .eql 59 (.slice a n c) (.slice none n' c')).run Try.prog w = .ok (.bool a.isNone) w := fun w a n c n' c' => Lib.run_eql_slice_nil w _ _ a n c n' c' Try.underlying59
  go_enter Try.func46, Try.ntmps46
  go_wp2
  go_ret
  exact ⟨rfl, rfl⟩
def wiB (q lo hi : Int) : Bool := decide (lo ≤ q ∧ q ≤ hi)
theorem within_any (q lo hi : Int) (w : World) : Calls Try.prog 57 #[.int .i64 q, .int .i64 lo, .int .i64 hi] w fun e w' => e = .returned (.bool (wiB q lo hi)) ∧ w = w' := by
  unfold wiB
  by_cases h1 : lo ≤ q <;> by_cases h2 : q ≤ hi
  all_goals
    go_enter Try.func57, Try.ntmps57
    go_wp2
    go_ret
    exact ⟨by simp [h1, h2], rfl⟩
theorem num_any (q : Int) (w : World) : Calls Try.prog 13 #[.int .i64 q] w fun e w' => e = .returned (.int .i64 q) ∧ w = w' := by
  go_enter Try.func13, Try.ntmps13
  go_wp2
  go_ret
  exact ⟨rfl, rfl⟩
end Go.Proofs.Ytddejcoagcaidaa
