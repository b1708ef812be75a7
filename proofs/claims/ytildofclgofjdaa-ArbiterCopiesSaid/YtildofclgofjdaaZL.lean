/- The state of the reference's Pick behind its first loop; the loops over the classes in plain mathematics. Conditions stand in each theorem. -/
import Derived.Test.YtildofclgofjdaaZK
namespace Go.Proofs.Ytildofclgofjdaa
open Go.RowKit Go.Shelf
set_option linter.unusedVariables false
set_option maxHeartbeats 4000000
set_option maxRecDepth 100000
attribute [local go_sem ↓ 100000] loadX_eq storeX_eq
/-- Behind the first loop: the value in the block of w's end, the result's block, the numbers that wait. -/
structure PJ (w : World) (s : St) (v : Value) (ns : List Int) (W : World) : Prop where
  row : W.heap[w.heap.size]? = some (.cells (RC s v) 35 (0, 0))
  res : ∃ cs, cs.size = 14 ∧ W.heap[w.heap.size + 1]? = some (.cells cs 35 (0, 0))
  nsr : W.heap[w.heap.size + 2]? = some (.cells (irow ns) 3 (0, 0))
  below : Below w.heap.size w W
section
variable {w W W' : World} {s : St} {v : Value} {ns : List Int}
theorem PI.pj {l : List (Int × Int)} (h : PI w s v l W) : PJ w s v (nsOf s.L l) W := ⟨h.row, h.res, h.nsr, h.below⟩
theorem PJ.later (h : PJ w s v ns W) (hb : Below W.heap.size W W') : PJ w s v ns W' := by
  have k : ∀ {i : Nat} {o : Obj}, W.heap[i]? = some o → W'.heap[i]? = some o := fun ho => (hb.block _ (Array.getElem?_eq_some_iff.1 ho).1).trans ho
  obtain ⟨cs, h1, h2⟩ := h.res
  exact ⟨k h.row, ⟨cs, h1, k h2⟩, k h.nsr, h.below.trans (hb.mono h.below.size)⟩
theorem PJ.ints (h : PJ w s v ns W) : Ints W (.slice (some ⟨w.heap.size + 2, 0, none⟩) ns.length ns.length) ns :=
  ⟨some ⟨w.heap.size + 2, 0, none⟩, ns.length, rfl, Nat.le_refl _, fun _ => ⟨_, 0, rfl, (Array.getElem?_eq_some_iff.1 h.nsr).1, fun j hj => by
    rw [Nat.zero_add, cell_of_row W _ j _ 3 (0, 0) h.nsr, irow_at _ j hj]⟩⟩
theorem PJ.at (h : PJ w s v ns W) {k : Nat} (hk : k < ns.length) : W.cell? ⟨w.heap.size + 2, k, none⟩ = some (.int .i64 (ns.getD k 0)) := by
  rw [cell_of_row W _ k _ 3 (0, 0) h.nsr, irow_at _ k hk, getD_eq ns k hk]
theorem PJ.load {A : Option Addr} {n c : Nat} (h : PJ w s (.slice A n c) ns W) : (loadX ⟨w.heap.size, 0, none⟩).run Try.prog W = .ok (.agg (RC s (.slice A n c))) W :=
  run_loadVar_row _ w.heap.size 35 35 _ (0, 0) _ h.row Try.underlying35 rfl info35
theorem PJ.cBu (h : PJ w s v ns W) : W.cell? ⟨w.heap.size, 1, none⟩ = some (.int .i64 s.bu) := (cell_of_row W w.heap.size 1 _ 35 (0, 0) h.row).trans rfl
theorem PJ.cHi (h : PJ w s v ns W) : W.cell? ⟨w.heap.size, 2, none⟩ = some (.int .i64 s.hi) := (cell_of_row W w.heap.size 2 _ 35 (0, 0) h.row).trans rfl
theorem PJ.cMe (h : PJ w s v ns W) : W.cell? ⟨w.heap.size, 3, none⟩ = some (.int .i64 s.me) := (cell_of_row W w.heap.size 3 _ 35 (0, 0) h.row).trans rfl
theorem PJ.cLo (h : PJ w s v ns W) : W.cell? ⟨w.heap.size, 4, none⟩ = some (.int .i64 s.lo) := (cell_of_row W w.heap.size 4 _ 35 (0, 0) h.row).trans rfl
theorem PJ.cL (h : PJ w s v ns W) : W.cell? ⟨w.heap.size, 5, none⟩ = some v := (cell_of_row W w.heap.size 5 _ 35 (0, 0) h.row).trans rfl
theorem PJ.cLast (h : PJ w s v ns W) (k : Nat) (hk : k < 4) : W.cell? ⟨w.heap.size, 6 + k, none⟩ = some (.int .i64 (s.last k)) := by
  rw [cell_of_row W w.heap.size (6 + k) _ 35 (0, 0) h.row]
  match k, hk with
  | 0, _ => rfl
  | 1, _ => rfl
  | 2, _ => rfl
  | 3, _ => rfl
theorem PJ.cCr (h : PJ w s v ns W) (k : Nat) (hk : k < 4) : W.cell? ⟨w.heap.size, 10 + k, none⟩ = some (.int .i64 (s.cr k)) := by
  rw [cell_of_row W w.heap.size (10 + k) _ 35 (0, 0) h.row]
  match k, hk with
  | 0, _ => rfl
  | 1, _ => rfl
  | 2, _ => rfl
  | 3, _ => rfl
theorem PJ.free (h : PJ w s v ns W) (k : Nat) : W.frozen? ⟨w.heap.size, k, none⟩ = false := frozen_of_row W w.heap.size k _ 35 h.row
theorem PJ.cell (h : PJ w s v ns W) (i : Nat) (u : Value) {s' : St} (he : (RC s v).setIfInBounds i u = RC s' v) : PJ w s' v ns (W.setCell ⟨w.heap.size, i, none⟩ u) := by
  have k1 : ∀ j, j ≠ w.heap.size → (W.setCell ⟨w.heap.size, i, none⟩ u).heap[j]? = W.heap[j]? := fun j h1 => Below.heap_setCell _ _ _ _ h1
  obtain ⟨cs, h1, h2⟩ := h.res
  exact ⟨by rw [heap_setCell_same W w.heap.size i _ 35 _ h.row, he], ⟨cs, h1, (k1 _ (by omega)).trans h2⟩, (k1 _ (by omega)).trans h.nsr, h.below.setCell (Nat.le_refl _) _⟩
theorem PJ.setCr (h : PJ w s v ns W) (k : Nat) (hk : k < 4) (x : Int) : PJ w { s with cr := upd s.cr k x } v ns (W.setCell ⟨w.heap.size, 10 + k, none⟩ (.int .i64 x)) := by
  refine h.cell _ _ ?_
  match k, hk with
  | 0, _ => rfl
  | 1, _ => rfl
  | 2, _ => rfl
  | 3, _ => rfl
theorem PJ.setLast (h : PJ w s v ns W) (k : Nat) (hk : k < 4) (x : Int) : PJ w { s with last := upd s.last k x } v ns (W.setCell ⟨w.heap.size, 6 + k, none⟩ (.int .i64 x)) := by
  refine h.cell _ _ ?_
  match k, hk with
  | 0, _ => rfl
  | 1, _ => rfl
  | 2, _ => rfl
  | 3, _ => rfl
theorem PJ.fresh (h : PJ w s v ns W) : PJ w s.fresh v ns ((((W.setCell ⟨w.heap.size, 10, none⟩ (.int .i64 0)).setCell ⟨w.heap.size, 11, none⟩ (.int .i64 s.hi)).setCell ⟨w.heap.size, 12, none⟩ (.int .i64 s.me)).setCell ⟨w.heap.size, 13, none⟩ (.int .i64 s.lo)) := by
  have h0 := h.setCr 0 (by decide) 0
  have h1 := h0.setCr 1 (by decide) s.hi
  have h2 := h1.setCr 2 (by decide) s.me
  have h3 := h2.setCr 3 (by decide) s.lo
  have e : RC { { { { s with cr := upd s.cr 0 0 } with cr := upd (upd s.cr 0 0) 1 s.hi } with cr := upd (upd (upd s.cr 0 0) 1 s.hi) 2 s.me } with cr := upd (upd (upd (upd s.cr 0 0) 1 s.hi) 2 s.me) 3 s.lo } v = RC s.fresh v := rfl
  obtain ⟨a, b, c, d⟩ := h3
  exact ⟨by rw [← e]; exact a, b, c, d⟩
end
/-- A class of 1 to k - 1 waits; such a one has credit. -/
def aW (n : Nat → Nat) : Nat → Bool
  | 0 => false
  | k + 1 => aW n k || (decide (1 ≤ k) && decide (0 < n k))
def cW (n : Nat → Nat) (cr : Nat → Int) : Nat → Bool
  | 0 => false
  | k + 1 => cW n cr k || (decide (1 ≤ k) && (decide (0 < n k) && decide (0 < cr k)))
theorem aW_yes {n : Nat → Nat} {k : Nat} (h1 : 1 ≤ k) (h : 0 < n k) : aW n (k + 1) = true := by simp [aW, h1, h]
theorem aW_no {n : Nat → Nat} {k : Nat} (h : ¬ 0 < n k) : aW n (k + 1) = aW n k := by simp [aW, h]
theorem cW_no {n : Nat → Nat} {cr : Nat → Int} {k : Nat} (h : ¬ 0 < n k) : cW n cr (k + 1) = cW n cr k := by simp [cW, h]
theorem cW_old {n : Nat → Nat} {cr : Nat → Int} {k : Nat} (h : cW n cr k = true) : cW n cr (k + 1) = true := by simp [cW, h]
theorem cW_new {n : Nat → Nat} {cr : Nat → Int} {k : Nat} (h1 : 1 ≤ k) (h : 0 < n k) (h0 : cW n cr k = false) : cW n cr (k + 1) = decide (0 < cr k) := by simp [cW, h1, h, h0]
theorem aW_one (n : Nat → Nat) : aW n 1 = false := by simp [aW]
theorem cW_one (n : Nat → Nat) (cr : Nat → Int) : cW n cr 1 = false := by simp [cW]
theorem aW_four {n : Nat → Nat} {k : Nat} (h1 : 1 ≤ k) (h3 : k < 4) (h : 0 < n k) : aW n 4 = true := by
  have : k = 1 ∨ k = 2 ∨ k = 3 := by omega
  rcases this with rfl | rfl | rfl <;> simp [aW, h]
theorem cW_four (n : Nat → Nat) (cr : Nat → Int) : cW n cr 4 = (credF n cr != 0) := by
  unfold credF
  by_cases h1 : 0 < n 1 ∧ 0 < cr 1
  · rw [if_pos h1]; simp [cW, h1]
  · rw [if_neg h1]
    by_cases h2 : 0 < n 2 ∧ 0 < cr 2
    · rw [if_pos h2]; simp [cW, h2]
    · rw [if_neg h2]
      by_cases h3 : 0 < n 3 ∧ 0 < cr 3
      · rw [if_pos h3]; simp [cW, h3]
      · rw [if_neg h3]
        have e : ∀ j, ¬ (0 < n j ∧ 0 < cr j) → (decide (0 < n j) && decide (0 < cr j)) = false := fun j h => by
          rw [Bool.and_eq_false_iff]; simp; omega
        simp only [cW, e 1 h1, e 2 h2, e 3 h3]
        simp
theorem credF_first {n : Nat → Nat} {cr : Nat → Int} {k : Nat} (h1 : 1 ≤ k) (h3 : k < 4) (h : 0 < n k ∧ 0 < cr k) (hb : ∀ j, 1 ≤ j → j < k → ¬ (0 < n j ∧ 0 < cr j)) : credF n cr = k := by
  unfold credF
  have : k = 1 ∨ k = 2 ∨ k = 3 := by omega
  rcases this with rfl | rfl | rfl
  · rw [if_pos h]
  · rw [if_neg (hb 1 (by decide) (by decide)), if_pos h]
  · rw [if_neg (hb 1 (by decide) (by decide)), if_neg (hb 2 (by decide) (by decide)), if_pos h]
theorem waB_chS (s : St) (n : Nat → Nat) (ns : List Int) (c : Int) : waB (s.chS n) ns c = waB s ns c := by unfold St.chS; split <;> rfl
theorem wait_chS (s : St) (n : Nat → Nat) (l : List (Int × Int)) (c : Nat) : (s.chS n).wait l c = s.wait l c := by unfold St.chS; split <;> rfl
theorem BestI.cases {s : St} {ns : List Int} {c last : Int} {i : Nat} {b : Int} (h : BestI s ns c last i b) : b = -1 ∨ ∃ k : Nat, k < s.L.length ∧ b = (k : Int) := by
  rcases h with ⟨rfl, _⟩ | ⟨k, hk, rfl, _⟩
  · exact .inl rfl
  · exact .inr ⟨k, hk, rfl⟩
/-- The state behind a pick, its two halves the other way round. -/
theorem pkS_eq (s : St) (l : List (Int × Int)) : s.pkS l = { ((s.chS (s.cnt l)).tkS (s.pkC l) (s.pkP l).2) with last := upd (s.chS (s.cnt l)).last (s.pkC l) (s.pkP l).1 } := by
  unfold St.pkS St.pk1 St.tkS
  split <;> rfl
theorem pkM_eq (s : St) (l : List (Int × Int)) : s.pkM l = (s.chS (s.cnt l)).tk (s.pkC l) (s.pkP l).2 := rfl
theorem credF_wf (n : Nat → Nat) (cr : Nat → Int) : credF n cr < 4 := credF_lt n cr
/-- What a pick stands on. -/
structure PF (s : St) (l : List (Int × Int)) (R : Nat → Int) (pc : Nat) : Prop where
  lt : pc < 4
  st : s.chS (s.cnt l) = { s with cr := R }
  pce : s.pkC l = pc
  pos : 0 < s.cnt l pc
  cr : pc ≠ 0 → 0 < R pc ∧ s.wt = true
  z : 0 < s.cnt l 0 → R = s.cr ∧ pc = 0
  nz : ¬ 0 < s.cnt l 0 → pc ≠ 0 ∧ pc = credF (s.cnt l) R ∧ (credF (s.cnt l) s.cr ≠ 0 → R = s.cr) ∧ (credF (s.cnt l) s.cr = 0 → R = wts s.hi s.me s.lo)
  rng : pc ≠ 0 → ∀ k, 1 ≤ k → k ≤ 3 → 0 ≤ R k ∧ R k ≤ 256
theorem pick_facts {s : St} (h : Ok s) {l : List (Int × Int)} (hb : anyB l = true) : ∃ (R : Nat → Int) (pc : Nat), PF s l R pc := by
  have hp := pkC_pos h hb
  have e : s.chS (s.cnt l) = { s with cr := (s.chS (s.cnt l)).cr } := by unfold St.chS; split <;> rfl
  refine ⟨(s.chS (s.cnt l)).cr, s.pkC l, chC_lt _ _, e, rfl, hp.1, hp.2, fun h0 => ?_, fun h0 => ?_, fun hc k h1 h3 => ?_⟩
  · refine ⟨?_, by unfold St.pkC St.chC; rw [if_pos h0]⟩
    unfold St.chS overB
    rw [if_neg (by simp; omega)]
  · have e1 : s.pkC l = credF (s.cnt l) (s.chS (s.cnt l)).cr := by unfold St.pkC St.chC; rw [if_neg h0]
    refine ⟨?_, e1, fun hc => ?_, fun hc => ?_⟩
    · intro he
      have h2 : 0 < s.cnt l (s.pkC l) := hp.1
      rw [he] at h2
      exact h0 h2
    · unfold St.chS overB
      rw [if_neg (by simp [hc])]
    · unfold St.chS overB
      rw [if_pos (by simp [hc]; omega)]
      rfl
  · exact (chS_ok h _).cr (by rw [chS_wt]; exact (hp.2 hc).2) k h1 h3
theorem PF.low {s : St} {l : List (Int × Int)} {R : Nat → Int} {pc : Nat} (h : PF s l R pc) : s.pkP l = Ytildofclgofjdaa.low (s.last pc) (s.wait l pc) := by
  unfold St.pkP
  rw [h.pce, chS_last]
theorem PF.pkM {s : St} {l : List (Int × Int)} {R : Nat → Int} {pc : Nat} (h : PF s l R pc) : s.pkM l = St.tk { s with cr := R } pc (s.pkP l).2 := by
  rw [pkM_eq, h.st, h.pce]
theorem PF.pkS {s : St} {l : List (Int × Int)} {R : Nat → Int} {pc : Nat} (h : PF s l R pc) : s.pkS l = { (St.tkS { s with cr := R } pc (s.pkP l).2) with last := upd s.last pc (s.pkP l).1 } := by
  rw [pkS_eq, h.st, h.pce]
theorem PF.rangeM {s : St} {l : List (Int × Int)} {R : Nat → Int} {pc : Nat} (h : PF s l R pc) (hO : Ok s) (hb : anyB l = true) : 0 < s.pkM l ∧ 0 < (s.pkP l).2 ∧ (pc ≠ 0 → s.pkM l ≤ R pc ∧ R pc ≤ 256) := by
  have h1 := pkM_range hO hb
  rw [h.st, h.pce] at h1
  exact ⟨h1.1, pkP_pos hO hb, fun h0 => ⟨h1.2.2.2 h0, (h.rng h0 pc (by omega) (by have := h.lt; omega)).2⟩⟩
theorem pj_waits0 {w W : World} {s : St} {v : Value} {l : List (Int × Int)} (hl : Lds w v s.L) (hs : Srt s.L) (ha : acc s.L [] l = true) (hW : PJ w s v (nsOf s.L l) W) (k : Nat) (z : Bool) (hz : decide (0 < s.cnt l k) = z) :
    Calls Try.prog 45 #[.agg (RC s v), .slice (some ⟨w.heap.size + 2, 0, none⟩) s.L.length s.L.length, .int .i64 (k : Int)] W fun e w' => e = .returned (.bool z) ∧ Below W.heap.size W w' := by
  have hi := hW.ints
  rw [nsOf_length] at hi
  refine (waits_ref s v _ (nsOf s.L l) k W (hl.below hW.below) hs hi (nsOf_length _ _)).mono fun e w' h => ?_
  have e1 : waB s (nsOf s.L l) k = z := by rw [← hz, ← waB_cnt hs ha k]
  rwa [e1] at h
/-- The contracts of the reference's waits and class at such a state. -/
theorem pj_waits {w W : World} {s : St} {R : Nat → Int} {v : Value} {l : List (Int × Int)} (hl : Lds w v s.L) (hs : Srt s.L) (ha : acc s.L [] l = true) (hW : PJ w { s with cr := R } v (nsOf s.L l) W) (k : Nat) (z : Bool) (hz : decide (0 < s.cnt l k) = z) :
    Calls Try.prog 45 #[.agg (RC { s with cr := R } v), .slice (some ⟨w.heap.size + 2, 0, none⟩) s.L.length s.L.length, .int .i64 (k : Int)] W fun e w' => e = .returned (.bool z) ∧ Below W.heap.size W w' := by
  have hi := hW.ints
  rw [nsOf_length] at hi
  refine (waits_ref { s with cr := R } v _ (nsOf s.L l) k W (hl.below hW.below) hs hi (nsOf_length _ _)).mono fun e w' h => ?_
  have e1 : waB { s with cr := R } (nsOf s.L l) k = z := by rw [← hz, ← waB_cnt hs ha k]; rfl
  rwa [e1] at h
theorem pj_class {w W : World} {s : St} {R : Nat → Int} {v : Value} {ns : List Int} (hl : Lds w v s.L) (hs : Srt s.L) (hW : PJ w { s with cr := R } v ns W) (k : Nat) (hk : k < s.L.length) (y : Int) (hy : s.cls (s.L.getD k (0, 0)).1 = y) :
    Calls Try.prog 46 #[.agg (RC { s with cr := R } v), .int .i64 (k : Int)] W fun e w' => e = .returned (.int .i64 y) ∧ Below W.heap.size W w' := by
  have e : s.L.getD k (0, 0) = s.L[k] := by simp [List.getD, hk]
  rw [e] at hy
  refine (rclass_any { s with cr := R } v k W (hl.below hW.below) hs hk).mono fun e w' h => ?_
  rw [← hy]
  exact h
end Go.Proofs.Ytildofclgofjdaa
