/- The contract of split. Conditions stand in each theorem. -/
import Derived.Test.YtddejcoagcaidaaE
import Derived.StillTailTactics
import Derived.Laws.Tables
namespace Go.Proofs.Ytddejcoagcaidaa
open Go.RowKit
set_option linter.unusedVariables false
set_option maxHeartbeats 1000000
set_option maxRecDepth 100000
theorem elem41 : Try.prog.elem 41 = 5 := by kernel_rfl
theorem under41e : Try.prog.underlying 41 = some (.slice (Try.prog.elem 41)) := by rw [elem41]; exact Try.underlying41
/-- Some of the bytes of a block of bytes. -/
theorem BytT.sub {lb : Nat} {w : World} {l : List UInt8} {A : Option Addr} {n c lo hi mx : Nat} (h : BytT lb w (.slice A n c) l) (h1 : lo ≤ hi) (h2 : hi ≤ l.length) (h3 : hi ≤ mx) : BytT lb w (sliced A lo hi mx 1) ((l.take hi).drop lo) := by
  obtain ⟨⟨A', c', e, hc, hr⟩, ht⟩ := h
  simp only [Value.slice.injEq] at e
  obtain ⟨rfl, rfl, rfl⟩ := e
  have hlen : ((l.take hi).drop lo).length = hi - lo := by simp; omega
  rcases Nat.eq_zero_or_pos (hi - lo) with h0 | h0
  · refine ⟨⟨if mx = lo then A else A.map (·.add (lo * 1)), mx - lo, by unfold sliced; rw [hlen], by omega, fun hn => absurd hn (by omega)⟩, fun hn => absurd hn (by omega)⟩
  · have hp : 0 < l.length := by omega
    obtain ⟨g, o, rfl, hg, hcell⟩ := hr hp
    have hne : ¬ mx = lo := by omega
    have hs : sliced (some ⟨g, o, none⟩) lo hi mx 1 = .slice (some ⟨g, o + lo, none⟩) (hi - lo) (mx - lo) := by
      unfold sliced
      rw [if_neg hne]
      simp [add_plain]
    rw [hs]
    refine ⟨⟨_, mx - lo, by rw [hlen], by omega, fun hn => ⟨g, o + lo, rfl, hg, fun j hj => ?_⟩⟩, fun hn b hb => ?_⟩
    · rw [Nat.add_assoc, hcell (lo + j) (by omega)]
      simp
    · simp only [Value.ownBlock, Option.some.injEq] at hb
      exact ht hp b (by simp [Value.ownBlock, hb])
theorem split_run {A : Option Addr} {n c k : Nat} (hk : k ≤ n) (hn : n ≤ c) :
    (∀ W : World, (Instr.slice 41 (.slice A n c) none (some (.int .i64 (k : Int))) (some (.int .i64 (k : Int)))).run Try.prog W = .ok (sliced A 0 k k 1) W) ∧
    (∀ W : World, (Instr.slice 41 (.slice A n c) (some (.int .i64 (k : Int))) (some (.int .i64 (n : Int))) (some (.int .i64 (n : Int)))).run Try.prog W = .ok (sliced A k n n 1) W) := by
  obtain ⟨i0, hi0, hz0, hz1, hz2⟩ := info_parts u8_info
  constructor
  · intro W
    rw [run_slice_hm (P := Try.prog) (w := W) (t := 41) (a := A) (len := n) (cap := c) (ht := under41e) .i64 .i64 k k (by omega) (by omega) (by omega)]
    simp [sizeOf, typeInfo, elem41, hi0, hz1]
  · intro W
    rw [run_slice_lhm (P := Try.prog) (w := W) (t := 41) (a := A) (len := n) (cap := c) (ht := under41e) .i64 .i64 .i64 k n n (by omega) (by omega) (by omega) (by omega)]
    simp [sizeOf, typeInfo, elem41, hi0, hz1]
def SplitPost (lb : Nat) (w : World) (x y : List UInt8) (e : Ending) (w' : World) : Prop := ∃ A1 n1 c1 A2 n2 c2, e = .returned (.agg #[.slice A1 n1 c1, .slice A2 n2 c2]) ∧ BytT lb w' (.slice A1 n1 c1) x ∧ BytT lb w' (.slice A2 n2 c2) y ∧ Below w.heap.size w w'
theorem slice_opaque {A : Option Addr} {lo hi mx : Nat} : ∃ P n c, sliced A lo hi mx 1 = .slice P n c := ⟨_, _, _, rfl⟩
theorem split_any {lb : Nat} (A : Option Addr) (n c k : Nat) (x y : List UInt8) (w : World) (h : BytT lb w (.slice A n c) (x ++ y)) (hk : k = x.length) (hnc : n ≤ c) : Calls Try.prog 62 #[.slice A n c, .int .i64 (k : Int)] w (SplitPost lb w x y) := by
  have hn : n = x.length + y.length := by
    obtain ⟨⟨A', c', e, _⟩, _⟩ := h
    simp only [Value.slice.injEq] at e
    rw [e.2.1, List.length_append]
  have h1 := h.sub (lo := 0) (hi := k) (mx := k) (Nat.zero_le _) (by rw [List.length_append]; omega) (Nat.le_refl _)
  have h2 := h.sub (lo := k) (hi := n) (mx := n) (by omega) (by rw [List.length_append]; omega) (Nat.le_refl _)
  rw [List.drop_zero, hk, List.take_left' rfl] at h1
  rw [List.take_of_length_le (by rw [List.length_append]; omega), hk, List.drop_left' rfl, ← hk] at h2
  rw [← hk] at h1
  obtain ⟨r1, r2⟩ := split_run (A := A) (n := n) (c := c) (k := k) (by omega) hnc
  obtain ⟨P1, n1, c1, e1⟩ := slice_opaque (A := A) (lo := 0) (hi := k) (mx := k)
  obtain ⟨P2, n2, c2, e2⟩ := slice_opaque (A := A) (lo := k) (hi := n) (mx := n)
  rw [e1] at h1 r1
  rw [e2] at h2 r2
  have H1 := Lib.hid h1
  have H2 := Lib.hid h2
  clear h h1 h2 hk hn e1 e2
  go_enter Try.func62, Try.ntmps62
  go_wp2
  go_region
  go_wp2
  refine bodyPost_ret (v := .agg #[.slice P1 n1 c1, .slice P2 n2 c2]) ?_ rfl ?_
  · exact results_cell_row (P := Try.prog) (p := 4) (ty := 89) rfl _ _ w.heap.size 89 #[.slice P1 n1 c1, .slice P2 n2 c2] (0, 0) _ rfl (heap_alloc_new w _) Try.underlying89 rfl (by kernel_rfl)
  · have hb : Below w.heap.size w (w.alloc (.cells #[.slice P1 n1 c1, .slice P2 n2 c2] 89)).drew := (below_alloc w _).drew
    exact ⟨_, _, _, _, _, _, rfl, H1.out.below hb, H2.out.below hb, hb⟩
end Go.Proofs.Ytddejcoagcaidaa
