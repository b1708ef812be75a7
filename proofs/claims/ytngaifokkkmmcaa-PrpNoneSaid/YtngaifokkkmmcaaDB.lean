/- prp's functions where there is no memory; Each. Conditions stand in each theorem. -/
import Derived.Test.YtngaifokkkmmcaaDA
namespace Go.Proofs.Ytngaifokkkmmcaa
open Go.RowKit Go.Shelf
set_option linter.unusedVariables false
set_option maxHeartbeats 4000000
set_option maxRecDepth 100000
/-- The pointer p leads to no memory, in w and in every later world. -/
def Mi (w : World) (p : Option Addr) : Prop := ∀ W, Below w.heap.size w W → Calls Try.prog 32 #[.pointer p] W fun e w' => e = .returned (.slice none 0 0) ∧ W = w'
theorem Mi.nil (w : World) : Mi w none := fun W _ => by
  go_enter Try.func32, Try.ntmps32
  go_wp2
  go_ret
  exact ⟨rfl, rfl⟩
theorem Mi.zero (w : World) (b : Nat) (h : w.heap[b]? = some (.cells zMem 56 (0, 0))) : Mi w (some ⟨b, 0, none⟩) := fun W hW => by
  have c1 : W.cell? ⟨b, 769, none⟩ = some (.slice none 0 0) := by
    rw [cell_of_row W b 769 zMem 56 (0, 0) ((hW.block b (Array.getElem?_eq_some_iff.1 h).1).trans h)]
    unfold zMem
    rw [Array.getElem?_push, zLog_size, if_pos rfl]
  go_enter Try.func32, Try.ntmps32
  go_wp2
  go_ret
  exact ⟨rfl, rfl⟩
theorem Mi.later {w W : World} {p : Option Addr} (h : Mi w p) (hb : Below w.heap.size w W) : Mi W p := fun W' hW' => h W' (hb.trans (hW'.mono hb.size))
section
variable {w : World} {p : Option Addr}
theorem Size_mi (h : Mi w p) : Calls Try.prog 14 #[.pointer p] w fun e w' => e = .returned (.int .i64 0) ∧ w = w' := by
  have HA := Lib.hid (h w (Below.refl _ _))
  clear h
  go_enter Try.func14, Try.ntmps14
  go_wp2_with ((go_at_call 32; with_reducible refine HA.out.mono ?_); rintro e w' ⟨rfl, rfl⟩)
  go_ret
  exact ⟨rfl, rfl⟩
theorem reqT_mi (h : Mi w p) (n : Int) : Calls Try.prog 34 #[.pointer p, .int .i64 n] w fun e w' => e = Pan 1 ∧ Below w.heap.size w w' := by
  have HS := Lib.hid (Size_mi h)
  have HR := Lib.hid (req1_nB 1)
  clear h
  go_enter Try.func34, Try.ntmps34
  go_wp2_with ((go_at_call 14; with_reducible refine HS.out.mono ?_); rintro e w' ⟨rfl, rfl⟩)
  with_reducible refine (HR.out _).mono ?_
  rintro e w1 ⟨rfl, hb⟩
  exact ⟨rfl, rfl, hb⟩
/-- Spans, where requireTransfer raises an error. -/
theorem Spans_req (pv : Value) (fs sc n q : Int) (HR : ∀ W, Below w.heap.size w W → Calls Try.prog 34 #[pv, .int .i64 n] W fun e w' => e = Pan q ∧ Below W.heap.size W w') :
    Calls Try.prog 20 #[pv, .int .u64 fs, .int .u64 sc, .int .i64 n] w (SpPost w (.error q)) := by
  obtain ⟨W0, hW0⟩ : ∃ W0, W0 = (w.alloc (.cells #[.slice none 0 0] 26)).alloc (.cells #[.int .i64 0] 38) := ⟨_, rfl⟩
  have hs0 : W0.heap.size = w.heap.size + 2 := by rw [hW0]; simp
  have hb0 : Below w.heap.size w W0 := by rw [hW0]; exact (below_alloc w _).alloc (by simp) _
  have x0 : W0.heap[w.heap.size]? = some (.cells #[.slice none 0 0] 26 (0, 0)) := by
    rw [hW0]
    exact (Below.heap_alloc _ _ _ (by simp)).trans (heap_alloc_new w _)
  have x1 : W0.heap[w.heap.size + 1]? = some (.cells #[.int .i64 0] 38 (0, 0)) := by
    have := heap_alloc_new (w.alloc (.cells #[.slice none 0 0] 26)) (.cells #[.int .i64 0] 38)
    rw [World.size_alloc] at this
    rw [hW0]; exact this
  have X0 : Hid (Sxt w W0 w.heap.size) := Lib.hid ⟨⟨_, x0⟩, ⟨_, x1⟩, hb0⟩
  have HW0 := Lib.hid hW0
  have HRR := Lib.hid (HR W0 hb0)
  clear hW0 hs0 hb0 x0 x1 HR
  refine calls_of_wpF Try.func20 rfl ?_
  simp only [Try.ntmps20, List.size_toArray, List.length_cons, List.length_nil, Nat.reduceAdd, Nat.reduceSub, Array.replicate_succ, Array.replicate_zero, List.push_toArray, List.append_toArray, List.nil_append, List.cons_append]
  refine wpF_seq (wpF_of ?_)
  go_wp2
  rw [← HW0.out]
  refine wpF_seq (wpF_of ?_)
  go_wp2
  refine wpF_seq (wpF_of ?_)
  go_wp2_with fail
  with_reducible refine HRR.out.mono ?_
  rintro e w1 ⟨rfl, hb⟩
  refine leaveS_err (w := w) (n0 := w.heap.size) (X0.out.chg (Chg.of_below (S := fun _ => False) hb) (fun k hk => hk.elim)) rfl rfl fun W' hb' => ?_
  exact ⟨⟨none, 0, rfl, World.ownsRow_nil _ _ _ _⟩, hb'⟩
/-- What Each leaves. -/
def EcPost (w : World) (r : Except Int (List (Nat × Nat))) (e : Ending) (w' : World) : Prop :=
  ∃ q qb A c, e = .returned (.func (.func 56) #[] #[.pointer (some ⟨q, 0, none⟩), .pointer (some ⟨q + 1, 0, none⟩)]) ∧ w'.heap[q]? = some (.cells #[.int .i64 ((lstO r).length : Int)] 3 (0, 0)) ∧ w'.heap[q + 1]? = some (.cells #[.func (.func 29) #[] #[.pointer (some ⟨qb, 0, none⟩)]] 74 (0, 0)) ∧
    w'.heap[qb]? = some (.cells #[.slice A (lstO r).length c] 26 (0, 0)) ∧ w'.ownsRow w.heap.size 42 3 (.slice A (lstO r).length c) (lstO r).length (sv (lstO r)) ∧ Below w.heap.size w w'
theorem Each_any (pv : Value) (fs sc n : Int) (r : Except Int (List (Nat × Nat))) (HS : Calls Try.prog 20 #[pv, .int .u64 fs, .int .u64 sc, .int .i64 n] w (SpPost w r)) : Calls Try.prog 11 #[pv, .int .u64 fs, .int .u64 sc, .int .i64 n] w (EcPost w r) := by
  have H := Lib.hid HS
  clear HS
  unfold EcPost
  obtain ⟨l, hl⟩ : ∃ l, l = lstO r := ⟨_, rfl⟩
  have HL := Lib.hid hl
  rw [← hl]
  clear hl
  go_enter Try.func11, Try.ntmps11
  go_wp2_with fail
  with_reducible refine H.out.mono ?_
  rintro e w1 ⟨⟨A, c, rfl, ho⟩, hb⟩
  rw [← HL.out] at ho ⊢
  generalize numO r = no at *
  have HO := Lib.hid (And.intro ho hb)
  clear ho hb
  obtain ⟨W2, hW2⟩ : ∃ W2, W2 = w1.alloc (.cells #[.slice A l.length c] 26) := ⟨_, rfl⟩
  have hN := fun W => numbered28_any (l.length : Int) w1.heap.size W
  have HN := Lib.hid hN
  have HW2 := Lib.hid hW2
  clear hN hW2
  generalize hLn : l.length = L at *
  go_wp2_with fail
  with_reducible refine (HN.out _).mono ?_
  rintro e w2 ⟨rfl, hw2⟩
  have HWW := Lib.hid hw2
  clear hw2
  go_wp2
  go_ret
  have hw2 := HWW.out
  obtain ⟨ho, hb⟩ := HO.out
  subst hLn
  obtain ⟨V, hV⟩ : ∃ V, V = w1.alloc (.cells #[.slice A l.length c] 26) := ⟨_, rfl⟩
  rw [← hV] at hw2
  have sV : V.heap.size = w1.heap.size + 1 := by rw [hV, World.size_alloc]
  have xV : V.heap[w1.heap.size]? = some (.cells #[.slice A l.length c] 26 (0, 0)) := by rw [hV]; exact heap_alloc_new w1 _
  have bV : Below w1.heap.size w1 V := by rw [hV]; exact below_alloc _ _
  obtain ⟨V1, hV1⟩ : ∃ V1, V1 = V.alloc (.cells #[.int .i64 (l.length : Int)] 3) := ⟨_, rfl⟩
  rw [← hV1] at hw2
  have sV1 : V1.heap.size = w1.heap.size + 2 := by rw [hV1, World.size_alloc, sV]
  have xV1 : V1.heap[w1.heap.size + 1]? = some (.cells #[.int .i64 (l.length : Int)] 3 (0, 0)) := by
    have := heap_alloc_new V (.cells #[.int .i64 (l.length : Int)] 3)
    rw [sV] at this
    rw [hV1]; exact this
  have bV1 : Below V.heap.size V V1 := by rw [hV1]; exact below_alloc _ _
  have x2 : w2.heap[w1.heap.size + 1 + 1]? = some (.cells #[.func (.func 29) #[] #[.pointer (some ⟨w1.heap.size, 0, none⟩)]] 74 (0, 0)) := by
    have := heap_alloc_new V1 (.cells #[.func (.func 29) #[] #[.pointer (some ⟨w1.heap.size, 0, none⟩)]] 74)
    rw [sV1] at this
    rw [hw2]; exact this
  have b2 : Below V1.heap.size V1 w2 := by rw [hw2]; exact below_alloc _ _
  have bA : Below w1.heap.size w1 w2 := (bV.trans (bV1.mono (by omega))).trans (b2.mono (by omega))
  refine ⟨w1.heap.size + 1, w1.heap.size, A, c, rfl, (b2.block _ (by omega)).trans xV1, x2, (b2.block _ (by omega)).trans ((bV1.block _ (by omega)).trans xV), ?_, hb.trans (bA.mono hb.size)⟩
  exact own_below ho bA
end
end Go.Proofs.Ytngaifokkkmmcaa
