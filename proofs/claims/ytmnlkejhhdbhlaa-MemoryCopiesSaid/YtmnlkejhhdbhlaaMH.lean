/- The mathematics of MemoryHolds: what a write does to one byte. Conditions stand in each theorem. -/
import Derived.Test.YtmnlkejhhdbhlaaMB
import Derived.Test.YtmnlkejhhdbhlaaO
namespace Go.Proofs.Ytmnlkejhhdbhlaa
open Go.RowKit
set_option linter.unusedVariables false
set_option maxHeartbeats 1000000
set_option maxRecDepth 100000
/-- The span p contains the address x. -/
def cov (x : Nat) (p : Nat × Nat) : Bool := decide (p.1 ≤ x) && decide (x - p.1 < p.2)
/-- One page, whose byte at x is y, behind k writes; if it is not 0 the log has a span with x. -/
structure Hm (x : Nat) (m : Mm) (y : UInt8) (k : Nat) : Prop where
  len : m.B.length = 4096
  gm : Gm m
  at' : m.B[x]? = some y
  log : y ≠ 0 → ∃ p ∈ m.L, cov x p = true
  cnt : m.L.length ≤ k
theorem Hm.new (x : Nat) (hx : x < 4096) : Hm x (Mm.new 4096) 0 0 := ⟨List.length_replicate, Gm.new (by decide) (by decide), by show (List.replicate 4096 (0 : UInt8))[x]? = some 0; rw [List.getElem?_replicate, if_pos hx], fun h => absurd rfl h, Nat.le_refl _⟩
section
variable {x k : Nat} {m : Mm} {y : UInt8}
theorem Hm.fits (h : Hm x m y k) {a n : Nat} (hf : a + n ≤ 4096) : m.chk a (n : Int) = 0 := Mm.chk_of (by rw [h.len]; exact hf)
theorem Hm.nofit (h : Hm x m y k) {a n : Nat} (hf : ¬ a + n ≤ 4096) : m.chk a (n : Int) = 3 := Mm.chk_bad (by omega) (by rw [h.len]; omega)
theorem Hm.no (h : Hm x m y k) {a : Nat} {l : List UInt8} (hf : ¬ a + l.length ≤ 4096) : Hm x (m.ch a (l.length : Int) l) y (k + 1) := by
  rw [Mm.ch_bad (by rw [h.nofit hf]; decide)]
  exact ⟨h.len, h.gm, h.at', h.log, Nat.le_succ_of_le h.cnt⟩
theorem Mm.ch_L {a : Nat} {l : List UInt8} (hz : m.chk a (l.length : Int) = 0) : (m.ch a (l.length : Int) l).L = if l.length = 0 then m.L else m.L ++ [(a, l.length)] := by
  unfold Mm.ch Mm.log
  rw [if_pos hz]
  split <;> rfl
theorem Hm.len' (h : Hm x m y k) {a : Nat} {l : List UInt8} (hf : a + l.length ≤ 4096) : (m.ch a (l.length : Int) l).B.length = 4096 := by
  rw [Mm.ch_B (h.fits hf), pat_len (by rw [h.len]; exact hf), h.len]
theorem Hm.gm' (h : Hm x m y k) (hk : k < 1000) {a : Nat} {l : List UInt8} : Gm (m.ch a (l.length : Int) l) := h.gm.ch (by have := h.cnt; omega) (fun _ => rfl)
theorem Hm.cnt' (h : Hm x m y k) {a : Nat} {l : List UInt8} (hf : a + l.length ≤ 4096) : (m.ch a (l.length : Int) l).L.length ≤ k + 1 := by
  rw [Mm.ch_L (h.fits hf)]
  have := h.cnt
  split
  · omega
  · rw [List.length_append]; simp; exact this
theorem Hm.out (h : Hm x m y k) (hk : k < 1000) {a : Nat} {l : List UInt8} (hf : a + l.length ≤ 4096) (hx : ¬ (a ≤ x ∧ x - a < l.length)) : Hm x (m.ch a (l.length : Int) l) y (k + 1) := by
  refine ⟨h.len' hf, h.gm' hk, ?_, fun hy => ?_, h.cnt' hf⟩
  · rw [Mm.ch_B (h.fits hf), pat_get (by rw [h.len]; exact hf)]
    by_cases h1 : x < a
    · rw [if_pos h1]; exact h.at'
    · rw [if_neg h1, if_neg (by omega)]; exact h.at'
  · obtain ⟨p, hp, hc⟩ := h.log hy
    refine ⟨p, ?_, hc⟩
    rw [Mm.ch_L (h.fits hf)]
    split
    · exact hp
    · exact List.mem_append_left _ hp
theorem Hm.in' (h : Hm x m y k) (hk : k < 1000) {a : Nat} {l : List UInt8} (hf : a + l.length ≤ 4096) (h1 : a ≤ x) (h2 : x - a < l.length) : Hm x (m.ch a (l.length : Int) l) l[x - a] (k + 1) := by
  refine ⟨h.len' hf, h.gm' hk, ?_, fun hy => ⟨(a, l.length), ?_, ?_⟩, h.cnt' hf⟩
  · rw [Mm.ch_B (h.fits hf), pat_get (by rw [h.len]; exact hf), if_neg (by omega), if_pos (by omega), List.getElem?_eq_getElem h2]
  · rw [Mm.ch_L (h.fits hf), if_neg (by omega)]
    exact List.mem_append_right _ (List.mem_singleton.2 rfl)
  · unfold cov
    rw [decide_eq_true h1, decide_eq_true (show x - (a, l.length).1 < (a, l.length).2 from h2)]
    rfl
end
/-- One of the first k spans of L contains x. -/
def tch (x : Nat) (L : List (Nat × Nat)) (k : Nat) : Bool := (L.take k).any (cov x)
theorem tch_zero (x : Nat) (L : List (Nat × Nat)) : tch x L 0 = false := by simp [tch]
theorem tch_succ {x k : Nat} {L : List (Nat × Nat)} (h : k < L.length) : tch x L (k + 1) = (tch x L k || cov x L[k]) := by
  unfold tch
  rw [List.take_succ_eq_append_getElem h, List.any_append]
  simp
theorem tch_all {x : Nat} {L : List (Nat × Nat)} (h : ∃ p ∈ L, cov x p = true) : tch x L L.length = true := by
  unfold tch
  rw [List.take_length]
  exact List.any_eq_true.2 h
end Go.Proofs.Ytmnlkejhhdbhlaa
