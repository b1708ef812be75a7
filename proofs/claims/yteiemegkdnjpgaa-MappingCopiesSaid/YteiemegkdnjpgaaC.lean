/- The contract of New. Conditions stand in each theorem. -/
import Derived.Test.YteiemegkdnjpgaaB
namespace Go.Proofs.Yteiemegkdnjpgaa
open Go.RowKit
set_option linter.unusedVariables false
set_option maxHeartbeats 1000000
set_option maxRecDepth 100000
theorem New_bad (s b p : Int) (w : World) (hv : valB s b p = false) : Calls Try.prog 8 #[.int .i64 s, .int .i64 b, .int .i64 p] w fun e w' => e = .returned (.tuple #[.pointer none, .int .i64 2]) ∧ Below w.heap.size w w' := by
  have HV := Lib.hid (fun W => isValid_any s b p W)
  rw [hv] at HV
  clear hv
  go_enter Try.func8, Try.ntmps8
  go_wp2_with ((go_at_call 28; with_reducible refine (HV.out _).mono ?_); rintro e w1 ⟨rfl, hb⟩; have HB := Lib.hid ((below_alloc w _).trans (hb.mono (by simp))); clear hb)
  go_ret2
  exact ⟨rfl, HB.out⟩
theorem valB_nat {s b p : Int} (h : valB s b p = true) : ∃ s' b' p' : Nat, s = s' ∧ b = b' ∧ p = p' ∧ Fits s' b' p' [] := by
  unfold valB wiB at h
  simp only [Bool.and_eq_true, decide_eq_true_eq] at h
  exact ⟨s.toNat, b.toNat, p.toNat, by omega, by omega, by omega, by omega, by omega, by omega, List.Pairwise.nil, by simp, List.Pairwise.nil⟩
theorem info3 : (Try.prog.info? 3).map (fun i => (i.zero, i.size, i.bytes)) = some (some (.int .i64 0), 1, 8) := by kernel_rfl
theorem info_parts3 : ∃ i, Try.prog.info? 3 = some i ∧ i.zero = some (.int .i64 0) ∧ i.size = 1 ∧ i.bytes = 8 := by
  have h := info3
  cases e : Try.prog.info? 3 with
  | none => rw [e] at h; cases h
  | some i => rw [e] at h; simp at h; exact ⟨i, rfl, h.1, h.2.1, h.2.2⟩
def zi (n : Nat) : Array Value := madeCells #[.int .i64 0] n
theorem zi_at (n i : Nat) (h : i < n) : (zi n)[i]? = some (.int .i64 0) := by
  unfold zi madeCells
  simp [h, Nat.mod_one]
theorem make_ints (n : Nat) (hn : n ≤ 1000000) (W : World) : (Instr.makeSlice 54 (.int .i64 (n : Int)) (.int .i64 (n : Int))).run Try.prog W = .ok (.slice (some ⟨W.heap.size, 0, none⟩) n n) (W.alloc (.cells (zi n) 3)) := by
  obtain ⟨i0, hi0, hz0, hz1, hz2⟩ := info_parts3
  have hr := run_makeSlice (P := Try.prog) W 54 3 i0 _ Try.underlying54 hi0 hz0 .i64 .i64 n n (by omega) (Int.le_refl _) (by rw [hz1]; omega) (by rw [hz2]; omega) (by omega)
  rw [hr, hz1]
  simp [zi, Value.cells]
theorem row_made (w : World) (n : Nat) (hn : n ≤ 1000000) : RowI (w.alloc (.cells (zi n) 3)) w.heap.size n n (fun _ => 0) :=
  ⟨_, heap_alloc_new w _, Nat.le_refl _, by unfold maxLen; omega, by simp [zi, size_madeCells], fun i hi => zi_at n i hi⟩
/-- What New leaves. -/
def NewPost (w : World) (s b p : Nat) (e : Ending) (w' : World) : Prop := ∃ bb m1 m2 g cap, e = .returned (.tuple #[.pointer (some ⟨bb, 0, none⟩), .int .i64 0]) ∧ Mg w' w.heap.size bb m1 m2 g cap s b p [] ∧ Below w.heap.size w w'
theorem new_fin {w W : World} {bb m1 m2 g s b p : Nat} (hF : Fits s b p []) (hB : Below w.heap.size w W) (hb : W.heap[bb]? = some (.cells (mgCells s b p m1 m2 g b) 56 (0, 0))) (h1 : W.heap[m1]? = some (.map #[] 0)) (h2 : W.heap[m2]? = some (.map #[] 0)) (h3 : W.heap[g]? = some (.cells (zi b) 3 (0, 0)))
    (hne : m1 ≠ m2) (e0 : w.heap.size ≤ bb) (e1 : w.heap.size ≤ m1) (e2 : w.heap.size ≤ m2) (e3 : w.heap.size ≤ g) : NewPost w s b p (.returned (.tuple #[.pointer (some ⟨bb, 0, none⟩), .int .i64 0])) W :=
  ⟨bb, m1, m2, g, b, rfl, ⟨hb, ((Mp.made w).moved (h1.trans (heap_alloc_new w (.map #[] 0)).symm)).congr (fun q => rfl), ((Mp.made w).moved (h2.trans (heap_alloc_new w (.map #[] 0)).symm)).congr (fun q => rfl),
    ⟨_, h3, Nat.le_refl _, by have := hF.hb; unfold maxLen; omega, by simp [zi, size_madeCells], fun i hi => zi_at b i hi⟩, hne, e0, e1, e2, e3, hF⟩, hB⟩
theorem four_new (w : World) (o1 o2 o3 o4 : Obj) : ((((w.alloc o1).alloc o2).alloc o3).alloc o4).heap[w.heap.size]? = some o1 ∧ ((((w.alloc o1).alloc o2).alloc o3).alloc o4).heap[w.heap.size + 1]? = some o2 ∧ ((((w.alloc o1).alloc o2).alloc o3).alloc o4).heap[w.heap.size + 1 + 1]? = some o3 ∧ ((((w.alloc o1).alloc o2).alloc o3).alloc o4).heap[w.heap.size + 1 + 1 + 1]? = some o4 ∧ Below w.heap.size w ((((w.alloc o1).alloc o2).alloc o3).alloc o4) := by
  have k1 := heap_alloc_new w o1
  have z1 : (w.alloc o1).heap.size = w.heap.size + 1 := World.size_alloc _ _
  have b0 := below_alloc w o1
  generalize w.alloc o1 = W1 at *
  have k2 := heap_alloc_new W1 o2
  have z2 : (W1.alloc o2).heap.size = W1.heap.size + 1 := World.size_alloc _ _
  have b1 := below_alloc W1 o2
  generalize W1.alloc o2 = W2 at *
  have k3 := heap_alloc_new W2 o3
  have z3 : (W2.alloc o3).heap.size = W2.heap.size + 1 := World.size_alloc _ _
  have b2 := below_alloc W2 o3
  generalize W2.alloc o3 = W3 at *
  have k4 := heap_alloc_new W3 o4
  have b3 := below_alloc W3 o4
  generalize W3.alloc o4 = W4 at *
  refine ⟨(b3.block _ (by omega)).trans ((b2.block _ (by omega)).trans ((b1.block _ (by omega)).trans k1)), ?_, ?_, ?_, ((b0.trans (b1.mono (by omega))).trans (b2.mono (by omega))).trans (b3.mono (by omega))⟩
  · rw [← z1]; exact (b3.block _ (by omega)).trans ((b2.block _ (by omega)).trans k2)
  · rw [← z1, ← z2]; exact (b3.block _ (by omega)).trans k3
  · rw [← z1, ← z2, ← z3]; exact k4
theorem three_cells {w1 : World} {q : Nat} {a b c : Value} (hrow : w1.heap[q]? = some (.cells #[a, b, c] 52 (0, 0))) :
    (∀ o, (w1.alloc o).cell? ⟨q, 0, none⟩ = some a) ∧ (∀ o, (w1.alloc o).cell? ⟨q, 1, none⟩ = some b) ∧ (∀ o, (w1.alloc o).cell? ⟨q, 2, none⟩ = some c) ∧
    (∀ o o', ((w1.alloc o).alloc o').cell? ⟨q, 0, none⟩ = some a) ∧ (∀ o o', ((w1.alloc o).alloc o').cell? ⟨q, 1, none⟩ = some b) ∧ (∀ o o', ((w1.alloc o).alloc o').cell? ⟨q, 2, none⟩ = some c) ∧
    (∀ o o' o'', (((w1.alloc o).alloc o').alloc o'').cell? ⟨q, 0, none⟩ = some a) ∧ (∀ o o' o'', (((w1.alloc o).alloc o').alloc o'').cell? ⟨q, 1, none⟩ = some b) ∧ (∀ o o' o'', (((w1.alloc o).alloc o').alloc o'').cell? ⟨q, 2, none⟩ = some c) := by
  have key : ∀ W, Below w1.heap.size w1 W → ∀ j v, (#[a, b, c] : Array Value)[j]? = some v → W.cell? ⟨q, j, none⟩ = some v := fun W hW j v hv =>
    (cell_of_row W q j _ 52 (0, 0) ((hW.block q (Array.getElem?_eq_some_iff.1 hrow).1).trans hrow)).trans hv
  have b1 := fun o => below_alloc w1 o
  have b2 : ∀ o o', Below w1.heap.size w1 ((w1.alloc o).alloc o') := fun o o' => (b1 o).alloc (by simp) o'
  have b3 : ∀ o o' o'', Below w1.heap.size w1 (((w1.alloc o).alloc o').alloc o'') := fun o o' o'' => (b2 o o').alloc (by simp; omega) o''
  exact ⟨fun o => key _ (b1 o) 0 a rfl, fun o => key _ (b1 o) 1 b rfl, fun o => key _ (b1 o) 2 c rfl, fun o o' => key _ (b2 o o') 0 a rfl, fun o o' => key _ (b2 o o') 1 b rfl, fun o o' => key _ (b2 o o') 2 c rfl,
    fun o o' o'' => key _ (b3 o o' o'') 0 a rfl, fun o o' o'' => key _ (b3 o o' o'') 1 b rfl, fun o o' o'' => key _ (b3 o o' o'') 2 c rfl⟩
theorem New_ok (s b p : Nat) (w : World) (hF : Fits s b p []) : Calls Try.prog 8 #[.int .i64 (s : Int), .int .i64 (b : Int), .int .i64 (p : Int)] w (NewPost w s b p) := by
  have hmm := @run_makeMap Try.prog
  have hmk := make_ints b (by have := hF.hb; omega)
  have HV := Lib.hid (fun W => isValid_any s b p W)
  have hv : valB (s : Int) (b : Int) (p : Int) = true := by
    have h1 := hF.hs; have h2 := hF.hb; have h3 := hF.hp
    unfold valB wiB
    simp only [Bool.and_eq_true, decide_eq_true_eq]
    omega
  rw [hv] at HV
  have HF := Lib.hid hF
  clear hv hF
  go_enter Try.func8, Try.ntmps8
  go_upto_region 4 with ((go_at_call 28; with_reducible refine (HV.out _).mono ?_); rintro e w1 ⟨rfl, hb⟩; have HB := Lib.hid ((below_alloc w _).trans (hb.mono (by simp))); have hrow := (hb.block _ (by simp)).trans (heap_alloc_new w _); obtain ⟨x1, x2, x3, x4, x5, x6, x7, x8, x9⟩ := three_cells hrow; have hlt := (Array.getElem?_eq_some_iff.1 hrow).1; have k0 := cell_of_row w1 w.heap.size 0 _ _ _ hrow; have k1 := cell_of_row w1 w.heap.size 1 _ _ _ hrow; have k2 := cell_of_row w1 w.heap.size 2 _ _ _ hrow; clear hb hrow)
  go_region
  all_goals
    go_wp2
    go_ret2
    have hsz := HB.out.size
    refine new_fin HF.out (HB.out.trans ((four_new w1 _ _ _ _).2.2.2.2.mono hsz)).drew (four_new w1 _ _ _ _).2.2.2.1 ?_ ?_ ?_ (by omega) (by omega) (by omega) (by omega) (by omega)
    · first | exact (four_new w1 _ _ _ _).1 | exact (four_new w1 _ _ _ _).2.1 | exact (four_new w1 _ _ _ _).2.2.1
    · first | exact (four_new w1 _ _ _ _).1 | exact (four_new w1 _ _ _ _).2.1 | exact (four_new w1 _ _ _ _).2.2.1
    · first | exact (four_new w1 _ _ _ _).1 | exact (four_new w1 _ _ _ _).2.1 | exact (four_new w1 _ _ _ _).2.2.1
end Go.Proofs.Yteiemegkdnjpgaa
