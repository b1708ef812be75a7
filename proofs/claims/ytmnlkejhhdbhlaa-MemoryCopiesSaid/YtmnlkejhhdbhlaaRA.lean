/- The reference's memory; its Check, Read, Log. Conditions stand in each theorem. -/
import Derived.Test.YtmnlkejhhdbhlaaP
import Derived.Test.YtmnlkejhhdbhlaaMB
import Derived.Lib.MinMax
namespace Go.Proofs.Ytmnlkejhhdbhlaa
open Go.RowKit
set_option linter.unusedVariables false
set_option maxHeartbeats 4000000
set_option maxRecDepth 100000
/-- The block of a slice of n elements is none of S. -/
def SOff (S : Nat → Prop) (A : Option Addr) (n : Nat) : Prop := 0 < n → ∀ p : Addr, A = some p → ¬ S p.block
/-- The value of the reference reads as the state m; its rows lie in none of the blocks of S. -/
structure Rf (W : World) (S : Nat → Prop) (A1 : Option Addr) (n1 c1 : Nat) (A2 : Option Addr) (n2 c2 : Nat) (m : Mm) : Prop where
  B : Byt W (.slice A1 n1 c1) m.B
  oB : SOff S A1 n1
  L : Spn W (.slice A2 n2 c2) m.L
  oL : SOff S A2 n2
theorem Spn.chg {S : Nat → Prop} {w w' : World} {A : Option Addr} {n c : Nat} {l : List (Nat × Nat)} (h : Spn w (.slice A n c) l) (hc : Chg S w w') (ho : SOff S A n) : Spn w' (.slice A n c) l := by
  obtain ⟨A1, c1, e, hl, hr⟩ := h
  simp only [Value.slice.injEq] at e
  obtain ⟨rfl, rfl, rfl⟩ := e
  refine ⟨_, _, rfl, hl, fun h0 => ?_⟩
  obtain ⟨g, o, rfl, hg, hcell⟩ := hr h0
  have hS : ¬ S g := ho h0 ⟨g, o, none⟩ rfl
  refine ⟨g, o, rfl, Nat.lt_of_lt_of_le hg hc.size, fun j hj => ?_⟩
  obtain ⟨a1, a2, a3⟩ := hcell j hj
  exact ⟨(hc.cell (p := ⟨g, o + j * 3, none⟩) hg hS).trans a1, (hc.cell (p := ⟨g, o + j * 3 + 1, none⟩) hg hS).trans a2, (hc.cell (p := ⟨g, o + j * 3 + 2, none⟩) hg hS).trans a3⟩
theorem Byt.len {w : World} {A : Option Addr} {n c : Nat} {l : List UInt8} (h : Byt w (.slice A n c) l) : n = l.length := by
  obtain ⟨A1, c1, e, _⟩ := h
  simp only [Value.slice.injEq] at e
  exact e.2.1
theorem Spn.len {w : World} {A : Option Addr} {n c : Nat} {l : List (Nat × Nat)} (h : Spn w (.slice A n c) l) : n = l.length := by
  obtain ⟨A1, c1, e, _⟩ := h
  simp only [Value.slice.injEq] at e
  exact e.2.1
theorem SOff.off {S : Nat → Prop} {A : Option Addr} {n c : Nat} {l : List UInt8} (h : SOff S A n) (hn : n = l.length) : Off S (.slice A n c) l := fun h0 b hb => by
  rcases A with _ | p
  · cases hb
  · simp only [Value.ownBlock, Option.some.injEq] at hb
    subst hb
    exact h (by omega) _ rfl
section
variable {w w' : World} {S T : Nat → Prop} {A1 A2 : Option Addr} {n1 c1 n2 c2 : Nat} {m : Mm}
theorem Rf.chg (h : Rf w S A1 n1 c1 A2 n2 c2 m) (hc : Chg S w w') : Rf w' S A1 n1 c1 A2 n2 c2 m := ⟨h.B.chg hc (h.oB.off h.B.len), h.oB, h.L.chg hc h.oL, h.oL⟩
theorem Rf.below (h : Rf w S A1 n1 c1 A2 n2 c2 m) (hb : Below w.heap.size w w') : Rf w' S A1 n1 c1 A2 n2 c2 m := ⟨h.B.below hb, h.oB, h.L.below hb, h.oL⟩
theorem Rf.blt (h : Rf w S A1 n1 c1 A2 n2 c2 m) (h0 : 0 < n1) {p : Addr} (e : A1 = some p) : p.block < w.heap.size := by
  obtain ⟨A, c, e2, _, hr⟩ := h.B
  simp only [Value.slice.injEq] at e2
  obtain ⟨rfl, rfl, rfl⟩ := e2
  obtain ⟨g', o', e3, hg, _⟩ := hr h0
  rw [e] at e3
  simp only [Option.some.injEq] at e3
  rw [e3]
  exact hg
theorem Rf.llt (h : Rf w S A1 n1 c1 A2 n2 c2 m) (h0 : 0 < n2) {p : Addr} (e : A2 = some p) : p.block < w.heap.size := by
  obtain ⟨A, c, e2, _, hr⟩ := h.L
  simp only [Value.slice.injEq] at e2
  obtain ⟨rfl, rfl, rfl⟩ := e2
  obtain ⟨g', o', e3, hg, _⟩ := hr h0
  rw [e] at e3
  simp only [Option.some.injEq] at e3
  rw [e3]
  exact hg
/-- The blocks of T are newer. -/
theorem Rf.newer (h : Rf w S A1 n1 c1 A2 n2 c2 m) (hT : ∀ k, T k → w.heap.size ≤ k) : Rf w T A1 n1 c1 A2 n2 c2 m :=
  ⟨h.B, fun h0 p e ht => by have := h.blt h0 e; have := hT _ ht; omega, h.L, fun h0 p e ht => by have := h.llt h0 e; have := hT _ ht; omega⟩
theorem Rf.or (h : Rf w S A1 n1 c1 A2 n2 c2 m) (h2 : Rf w T A1 n1 c1 A2 n2 c2 m) : Rf w (fun k => S k ∨ T k) A1 n1 c1 A2 n2 c2 m :=
  ⟨h.B, fun h0 p e ht => ht.elim (h.oB h0 p e) (h2.oB h0 p e), h.L, fun h0 p e ht => ht.elim (h.oL h0 p e) (h2.oL h0 p e)⟩
theorem Rf.mono (h : Rf w S A1 n1 c1 A2 n2 c2 m) (hT : ∀ k, T k → S k) : Rf w T A1 n1 c1 A2 n2 c2 m :=
  ⟨h.B, fun h0 p e ht => h.oB h0 p e (hT _ ht), h.L, fun h0 p e ht => h.oL h0 p e (hT _ ht)⟩
theorem rCheck_any (h : Rf w S A1 n1 c1 A2 n2 c2 m) (hmax : m.B.length ≤ 4194304) (a : Nat) (n : Int) (ha : a < 18446744073709551616) (hn : n < 9223372036854775808) :
    Calls Try.prog 31 #[.agg #[.slice A1 n1 c1, .slice A2 n2 c2], .int .u64 (a : Int), .int .i64 n] w fun e w' => e = .returned (.int .i64 (m.chk a n)) ∧ Below w.heap.size w w' := by
  obtain ⟨z, hz⟩ : ∃ z, z = m.chk a n := ⟨_, rfl⟩
  have HE := Lib.hid hz
  unfold Mm.chk at hz
  rw [← HE.out, ← h.B.len] at *
  have hw1 : IntKind.u64.wrap (n1 : Int) = (n1 : Int) := by rw [IntKind.wrap_u64]; omega
  have bx := fun k => cell_of_row (w.alloc (.cells #[.slice A1 n1 c1, .slice A2 n2 c2] 32)) w.heap.size k _ 32 (0, 0) (heap_alloc_new w _)
  clear h
  by_cases q1 : n < 0
  · rw [if_pos q1] at hz
    subst hz
    clear ha hn bx
    go_enter Try.func31, Try.ntmps31
    go_wp2
    go_ret
    exact ⟨rfl, below_alloc _ _⟩
  · rw [if_neg q1] at hz
    have q1' : 0 ≤ n := by omega
    have hw2 : IntKind.u64.wrap n = n := by rw [IntKind.wrap_u64]; omega
    by_cases q2 : a ≤ n1
    · have g1 : decide ((a : Int) > (n1 : Int)) = false := decide_eq_false (by omega)
      have g2 : decide ((n1 : Int) < (a : Int)) = false := decide_eq_false (by omega)
      have g3 : decide (n1 < a) = false := decide_eq_false (by omega)
      have hw3 : IntKind.u64.wrap ((n1 : Int) - (a : Int)) = (n1 : Int) - (a : Int) := by rw [IntKind.wrap_u64]; omega
      by_cases q3 : n ≤ (n1 : Int) - (a : Int)
      · rw [if_pos ⟨q2, by omega⟩] at hz
        subst hz
        have g4 : decide (n > (n1 : Int) - (a : Int)) = false := decide_eq_false (by omega)
        have g5 : decide ((n1 : Int) - (a : Int) < n) = false := decide_eq_false (by omega)
        clear ha hn bx q2 q3
        go_enter Try.func31, Try.ntmps31
        go_wp2
        go_ret
        exact ⟨rfl, below_alloc _ _⟩
      · rw [if_neg (by omega)] at hz
        subst hz
        have g4 : decide (n > (n1 : Int) - (a : Int)) = true := decide_eq_true (by omega)
        have g5 : decide ((n1 : Int) - (a : Int) < n) = true := decide_eq_true (by omega)
        clear ha hn bx q2 q3
        go_enter Try.func31, Try.ntmps31
        go_wp2
        go_ret
        exact ⟨rfl, below_alloc _ _⟩
    · rw [if_neg (by omega)] at hz
      subst hz
      have g1 : decide ((a : Int) > (n1 : Int)) = true := decide_eq_true (by omega)
      have g2 : decide ((n1 : Int) < (a : Int)) = true := decide_eq_true (by omega)
      have g3 : decide (n1 < a) = true := decide_eq_true (by omega)
      clear ha hn bx q2
      go_enter Try.func31, Try.ntmps31
      go_wp2
      go_ret
      exact ⟨rfl, below_alloc _ _⟩
theorem rLog_any (h : Rf w S A1 n1 c1 A2 n2 c2 m) (hmax : m.L.length ≤ 1000000) :
    Calls Try.prog 32 #[.agg #[.slice A1 n1 c1, .slice A2 n2 c2]] w fun e w' => (∃ A c, e = .returned (.tuple #[.int .i64 ((fr m.L : Nat) : Int), .slice A (n2 - fr m.L) c]) ∧ Spn w' (.slice A (n2 - fr m.L) c) (m.L.drop (fr m.L))) ∧ Below w.heap.size w w' := by
  have hn2 := h.L.len
  obtain ⟨F, hF⟩ : ∃ F, F = fr m.L := ⟨_, rfl⟩
  have hF2 : F = m.L.length - 256 := hF
  have hmx : max (0 : Int) ((n2 : Int) - 256) = (F : Int) := by omega
  have hc2 : n2 ≤ c2 := by
    obtain ⟨_, c, e, h, _⟩ := h.L
    simp only [Value.slice.injEq] at e
    obtain ⟨rfl, _, rfl⟩ := e
    omega
  obtain ⟨A6, c6, hdr, hc6, hA6⟩ := drop_run A2 n2 c2 F (by omega) hc2
  have hb := below_alloc w (.cells #[.slice A1 n1 c1, .slice A2 n2 c2] 32)
  have HSp := Lib.hid (Spn.drop (h.L.below hb) hn2 (by omega) hc6 hA6)
  have hn2m : (n2 : Int) ≤ 1000000 := by omega
  rw [← hF]
  clear h hF hF2 hc6 hA6 hc2 hb hn2
  go_enter Try.func32, Try.ntmps32
  go_wp2
  go_region
  go_wp2
  go_ret2
  exact ⟨⟨_, _, rfl, HSp.out.below (Below.refl _ _).drew⟩, (below_alloc _ _).drew⟩
end
end Go.Proofs.Ytmnlkejhhdbhlaa
