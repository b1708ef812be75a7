/- The reference's Write where it stores. Conditions stand in each theorem. -/
import Derived.Test.YtmnlkejhhdbhlaaRW
import Derived.Test.YtmnlkejhhdbhlaaLG
namespace Go.Proofs.Ytmnlkejhhdbhlaa
open Go.RowKit
set_option linter.unusedVariables false
set_option maxHeartbeats 4000000
set_option maxRecDepth 100000
/-- The two boxes of a call of the reference: its receiver and its result. -/
structure Bq (q : Nat) (u0 u1 : Value) (W : World) : Prop where
  a : W.heap[q]? = some (.cells #[u0, u1] 32 (0, 0))
  r : W.heap[q + 1]? = some (.cells #[.slice none 0 0, .slice none 0 0] 32 (0, 0))
section
variable {q : Nat} {u0 u1 : Value} {W W' : World}
theorem Bq.chg {S : Nat → Prop} (h : Bq q u0 u1 W) (hc : Chg S W W') (h1 : ¬ S q) (h2 : ¬ S (q + 1)) : Bq q u0 u1 W' := ⟨(hc.block q (Array.getElem?_eq_some_iff.1 h.a).1 h1).trans h.a, (hc.block (q + 1) (Array.getElem?_eq_some_iff.1 h.r).1 h2).trans h.r⟩
theorem Bq.below (h : Bq q u0 u1 W) (hb : Below W.heap.size W W') : Bq q u0 u1 W' := h.chg (S := fun _ => False) (Chg.of_below hb) (fun h => h) (fun h => h)
theorem Bq.lt (h : Bq q u0 u1 W) : q + 1 < W.heap.size := (Array.getElem?_eq_some_iff.1 h.r).1
theorem Bq.c0 (h : Bq q u0 u1 W) : W.cell? ⟨q, 0, none⟩ = some u0 := by rw [cell_of_row W q 0 _ 32 (0, 0) h.a]; rfl
theorem Bq.c1 (h : Bq q u0 u1 W) : W.cell? ⟨q, 1, none⟩ = some u1 := by rw [cell_of_row W q 1 _ 32 (0, 0) h.a]; rfl
theorem Bq.f (h : Bq q u0 u1 W) (k : Nat) : W.frozen? ⟨q, k, none⟩ = false := frozen_of_row W q k _ 32 h.a
theorem Bq.d0 (h : Bq q u0 u1 W) : W.cell? ⟨q + 1, 0, none⟩ = some (.slice none 0 0) := by rw [cell_of_row W (q + 1) 0 _ 32 (0, 0) h.r]; rfl
theorem Bq.d1 (h : Bq q u0 u1 W) : W.cell? ⟨q + 1, 1, none⟩ = some (.slice none 0 0) := by rw [cell_of_row W (q + 1) 1 _ 32 (0, 0) h.r]; rfl
theorem Bq.g (h : Bq q u0 u1 W) (k : Nat) : W.frozen? ⟨q + 1, k, none⟩ = false := frozen_of_row W (q + 1) k _ 32 h.r
theorem Bq.put0 (h : Bq q u0 u1 W) (v : Value) : Bq q v u1 (W.setCell ⟨q, 0, none⟩ v) := ⟨heap_setCell_same W q 0 _ 32 v h.a, (Below.heap_setCell W _ _ _ (by show q + 1 ≠ q; omega)).trans h.r⟩
theorem Bq.put1 (h : Bq q u0 u1 W) (v : Value) : Bq q u0 v (W.setCell ⟨q, 1, none⟩ v) := ⟨heap_setCell_same W q 1 _ 32 v h.a, (Below.heap_setCell W _ _ _ (by show q + 1 ≠ q; omega)).trans h.r⟩
end
theorem bq_new (w : World) (u0 u1 : Value) : Bq w.heap.size u0 u1 ((w.alloc (.cells #[u0, u1] 32)).alloc (.cells #[.slice none 0 0, .slice none 0 0] 32)) ∧ Below w.heap.size w ((w.alloc (.cells #[u0, u1] 32)).alloc (.cells #[.slice none 0 0, .slice none 0 0] 32)) := by
  have b1 := below_alloc w (.cells #[u0, u1] 32)
  have e1 := heap_alloc_new w (.cells #[u0, u1] 32)
  have s1 : (w.alloc (.cells #[u0, u1] 32)).heap.size = w.heap.size + 1 := World.size_alloc _ _
  generalize w.alloc (.cells #[u0, u1] 32) = w1 at *
  have b2 := below_alloc w1 (.cells #[.slice none 0 0, .slice none 0 0] 32)
  have e2 := heap_alloc_new w1 (.cells #[.slice none 0 0, .slice none 0 0] 32)
  rw [s1] at e2
  exact ⟨⟨(b2.block _ (by omega)).trans e1, e2⟩, b1.trans (b2.mono b1.size)⟩
/-- What append of the reference's bytes to nothing leaves. -/
theorem cp_bytes (W : World) (A : Option Addr) (n c : Nat) (B : List UInt8) (h : Byt W (.slice A n c) B) (hm : n ≤ 4194304) :
    ∃ A' c' W', (Builtin.append_ #[29, 29] 29 #[.slice (some ⟨W.heap.size, 0, none⟩) 0 0, .slice A n c]).run Try.prog (W.alloc (.cells #[] 5)) = .ok (.slice A' n c') W' ∧ W'.ownsRow W.heap.size 5 1 (.slice A' n c') n (bv B) ∧ Below W.heap.size W W' := by
  have hn := h.len
  obtain ⟨v', w', hrun, ho, hg, _⟩ := run_append_own_src (W.alloc (.cells #[] 5)) W.heap.size 0 (.slice (some ⟨W.heap.size, 0, none⟩) 0 0) (.slice A n c) [] B 29 (World.ownsRow_made W #[] 0 (Nat.le_refl _) (Nat.zero_le _) (by simp)) (h.below (below_alloc W _)) (by omega) (by simp)
  rw [Nat.zero_add, List.nil_append, ← hn] at ho
  obtain ⟨A', c', rfl⟩ := own_form ho
  exact ⟨A', c', w', hrun, ho, (below_alloc W _).grown hg (by simp) (by intro k hk; simp [Value.ownBlock] at hk; omega)⟩
/-- What append of the reference's spans to nothing leaves. -/
theorem cp_spans (W : World) (A : Option Addr) (n c : Nat) (L : List (Nat × Nat)) (h : Spn W (.slice A n c) L) (hm : n ≤ 1000000) :
    ∃ A' c' W', (Builtin.append_ #[30, 30] 30 #[.slice (some ⟨W.heap.size, 0, none⟩) 0 0, .slice A n c]).run Try.prog (W.alloc (.cells #[] 47)) = .ok (.slice A' n c') W' ∧ W'.ownsRow W.heap.size 47 3 (.slice A' n c') n (sv L) ∧ Below W.heap.size W W' := by
  have hn := h.len
  obtain ⟨A', c', w', hrun, ho, hg⟩ := app_spans (W.alloc (.cells #[] 47)) W.heap.size (.slice (some ⟨W.heap.size, 0, none⟩) 0 0) (.slice A n c) L (World.ownsRow_made W #[] 0 (Nat.le_refl _) (Nat.zero_le _) (by simp)) (h.below (below_alloc W _)) (by omega) (by simp)
  rw [← hn] at hrun ho
  exact ⟨A', c', w', hrun, ho, (below_alloc W _).grown hg (by simp) (by intro k hk; simp [Value.ownBlock] at hk; omega)⟩
/-- copy into the middle of an own row of bytes. -/
theorem copy_mid (W : World) (base g n c a gv ov nv cv : Nat) (B l : List UInt8) (ho : W.ownsRow base 5 1 (.slice (some ⟨g, 0, none⟩) n c) n (bv B)) (hv : Byt W (.slice (some ⟨gv, ov, none⟩) nv cv) l) (hf : a + nv ≤ n) :
    ∃ W', (Builtin.copy_ #[29, 29] 3 #[.slice (some ⟨g, a, none⟩) (n - a) (c - a), .slice (some ⟨gv, ov, none⟩) nv cv]).run Try.prog W = .ok (.int .i64 (nv : Int)) W' ∧ W'.ownsRow base 5 1 (.slice (some ⟨g, 0, none⟩) n c) n (bv (pat B a l)) ∧ Chg (· = g) W W' := by
  have hnv := hv.len
  have hBl : B.length = n := by have := ho.1; rw [bv_length] at this; omega
  obtain ⟨i0, hi0, hz0, hz1, hz2⟩ := info_parts u8_info
  rcases ho.2 with ⟨e, _⟩ | ⟨g', c2, cur, e, h1, h2, h3, h4, h5, h6⟩
  · cases e
  · simp only [Value.slice.injEq, Option.some.injEq, Addr.mk.injEq] at e
    obtain ⟨⟨rfl, -⟩, -, rfl⟩ := e
    have hsrc : ∀ j u, (bv l)[j]? = some u → W.cell? ((⟨gv, ov, none⟩ : Addr).add j) = some u := fun j u hu => by
      have hj : j < l.length := by
        rcases Nat.lt_or_ge j l.length with h | h
        · exact h
        · rw [List.getElem?_eq_none (by rw [bv_length]; exact h)] at hu; cases hu
      obtain ⟨A1, c1, e1, _, hr⟩ := hv
      simp only [Value.slice.injEq] at e1
      obtain ⟨rfl, rfl, rfl⟩ := e1
      obtain ⟨g3, o3, e3, _, hc⟩ := hr (by omega)
      simp only [Option.some.injEq, Addr.mk.injEq, and_true] at e3
      obtain ⟨rfl, rfl⟩ := e3
      rw [add_plain, hc j hj, ← bv_get hj, hu]
    have hrun := run_copy_row (P := Try.prog) W 29 29 3 5 g a (n - a) (c - a) ⟨gv, ov, none⟩ nv cv cur 5 (bv l) Try.underlying29 (by rw [hi0]; simp [hz1]) h2 (by rw [bv_length]; show _ = min nv (n - a); omega) hsrc (by rw [bv_length]; omega) (bv_one l)
    rw [bv_length, ← hnv] at hrun
    refine ⟨_, hrun, ⟨by rw [bv_length, pat_len (by omega), hBl, Nat.mul_one], .inr ⟨g, c, _, rfl, h1, setRow_heap W g cur _ 5 _ h2, h3, h4, ?_, ?_⟩⟩, ⟨rfl, rfl, rfl, by simp, fun k hk hn => setRow_other W g k _ hn⟩⟩
    · simp only [List.size_toArray, List.length_append, List.length_take, List.length_drop, Array.length_toList, bv_length]
      omega
    · have hcl : cur.toList.length = cur.size := Array.length_toList
      apply List.ext_getElem?
      intro i
      have hcur : ∀ i, i < n → cur.toList[i]? = (bv B)[i]? := fun i hi => by rw [← h6, List.getElem?_take, if_pos (by omega)]
      simp only [Nat.mul_one]
      rw [List.getElem?_take]
      by_cases hi : i < n
      · rw [if_pos hi]
        unfold bv
        rw [List.getElem?_map, pat_get (by omega)]
        by_cases q1 : i < a
        · rw [if_pos q1, List.append_assoc, List.getElem?_append_left (by simp; omega), List.getElem?_take, if_pos q1, hcur i hi]
          unfold bv
          rw [List.getElem?_map]
        · rw [if_neg q1]
          by_cases q2 : i < a + l.length
          · rw [if_pos q2, List.append_assoc, List.getElem?_append_right (by simp; omega), List.getElem?_append_left (by simp; omega), List.getElem?_map, List.length_take]
            congr 2
            omega
          · rw [if_neg q2, List.getElem?_append_right (by simp; omega), List.getElem?_drop]
            simp only [List.length_append, List.length_take, List.length_map]
            rw [show a + nv + (i - (min a cur.toList.length + l.length)) = i by omega, hcur i hi]
            unfold bv
            rw [List.getElem?_map]
      · rw [if_neg hi, List.getElem?_eq_none (by rw [bv_length, pat_len (by omega)]; omega)]
end Go.Proofs.Ytmnlkejhhdbhlaa
