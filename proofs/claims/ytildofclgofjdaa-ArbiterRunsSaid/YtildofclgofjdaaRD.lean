/- The reference: Add. Conditions stand in each theorem. -/
import Derived.Test.YtildofclgofjdaaRB
namespace Go.Proofs.Ytildofclgofjdaa
open Go.RowKit
set_option linter.unusedVariables false
set_option maxHeartbeats 400000
set_option maxRecDepth 100000
theorem info63 : (Try.prog.info? 63).map (fun i => (i.zero, i.size, i.bytes)) = some (some (.agg #[.int .i64 0, .int .i64 0]), 2, 16) := by kernel_rfl
theorem Lds.of_own63 {w : World} {base : Nat} {v : Value} {l : List (Int × Int)} (h : w.ownsRow base 63 2 v l.length (lv l)) : Lds w v l := by
  rcases h.2 with ⟨rfl, h0⟩ | ⟨g, cap, cur, rfl, _, hg, hnc, _, hsz, htk⟩
  · exact ⟨none, 0, by rw [h0], by omega, fun hp => absurd hp (by omega)⟩
  · refine ⟨_, cap, rfl, hnc, fun hp => ⟨g, 0, rfl, (Array.getElem?_eq_some_iff.1 hg).1, fun j hj => ?_⟩⟩
    have hcell : ∀ i x, i < l.length * 2 → (lv l)[i]? = some x → w.cell? ⟨g, i, none⟩ = some x := fun i x hi hx => by
      rw [cell_of_row w g i cur 63 (0, 0) hg]
      rw [← htk, List.getElem?_take_of_lt hi] at hx
      simpa using hx
    have h2 := lv_at l j hj
    exact ⟨by rw [Nat.zero_add]; exact hcell _ _ (by omega) h2.1, by rw [Nat.zero_add]; exact hcell _ _ (by omega) h2.2⟩
theorem ins_last {q c : Int} : ∀ {l : List (Int × Int)}, (∀ p ∈ l, p.1 < q) → ins q c l = l ++ [(q, c)]
  | [], _ => rfl
  | p :: r, h => by
    have h1 := h p (by simp)
    unfold ins
    rw [if_neg (by omega), ins_last (fun x hx => h x (by simp [hx]))]
    rfl
theorem ins_mid {q c : Int} {x : Int × Int} (hx : q < x.1) : ∀ {l : List (Int × Int)}, (∀ p ∈ l, p.1 < q) → ins q c (l ++ [x]) = l ++ [(q, c)] ++ [x]
  | [], _ => by simp [ins, hx]
  | p :: r, h => by
    have h1 := h p (by simp)
    rw [List.cons_append]
    unfold ins
    rw [if_neg (by omega), ins_mid hx (fun y hy => h y (by simp [hy]))]
    rfl
theorem ins_more {q c : Int} (x : Int × Int) : ∀ {l : List (Int × Int)}, (∃ p ∈ l, q < p.1) → ins q c (l ++ [x]) = ins q c l ++ [x]
  | [], h => by obtain ⟨p, hp, _⟩ := h; cases hp
  | p :: r, h => by
    rw [List.cons_append]
    unfold ins
    by_cases h1 : q < p.1
    · rw [if_pos h1, if_pos h1]; rfl
    · rw [if_neg h1, if_neg h1, ins_more x (l := r) (by
        obtain ⟨y, hy, h2⟩ := h
        rcases List.mem_cons.1 hy with rfl | h3
        · exact absurd h2 h1
        · exact ⟨y, h3, h2⟩)]
      rfl
/-- While the list is built anew. -/
structure RA1 (w : World) (base : Nat) (s : St) (v : Value) (z : Array Value) (out : List (Int × Int)) (l : Value) (wr : World) : Prop where
  row : wr.ownsRow base 63 2 l out.length (lv out)
  below : Below w.heap.size w wr
  size : base ≤ wr.heap.size
  blk : wr.heap[w.heap.size]? = some (.cells (RC s v) 35 (0, 0))
  res : wr.heap[w.heap.size + 1]? = some (.cells z 35 (0, 0))
theorem RA1.step {w : World} {base : Nat} {s : St} {v : Value} {z : Array Value} {out : List (Int × Int)} {l l' : Value} {wr W3 : World} (h : RA1 w base s v z out l wr) (hb : w.heap.size + 2 ≤ base) (x y : Int) (o : Obj)
    (ho : W3.ownsRow base 63 2 l' (out.length + 1) (lv out ++ [.int .i64 x, .int .i64 y])) (hg : (wr.alloc o).grownBy W3 l.ownBlock) : RA1 w base s v z (out ++ [(x, y)]) l' W3 := by
  have hs := h.size
  have hne : ∀ j, j < base → some j ≠ l.ownBlock := fun j hj e => by have := (h.row.lt j e.symm).1; omega
  have b3 : Below w.heap.size w (wr.alloc o) := h.below.alloc h.below.size o
  have hsz : (wr.alloc o).heap.size = wr.heap.size + 1 := World.size_alloc _ _
  refine ⟨by rw [List.length_append, lv_append]; exact ho, b3.grown hg b3.size (fun i e => by have := (h.row.lt i e).1; omega), by have := hg.size; omega, ?_, ?_⟩
  · rw [hg.block _ (by omega) (hne _ (by omega)), heap_alloc_old wr o _ (by omega)]
    exact h.blk
  · rw [hg.block _ (by omega) (hne _ (by omega)), heap_alloc_old wr o _ (by omega)]
    exact h.res
/-- The new slice is the old one, or lies in new memory. -/
def Kp (w : World) (v : Value) (L : List (Int × Int)) (v' : Value) (L' : List (Int × Int)) : Prop := (v' = v ∧ L' = L) ∨ ∀ i, v'.ownBlock = some i → w.heap.size ≤ i
def RAddPost (w : World) (s : St) (v : Value) (q c : Int) (e : Ending) (w' : World) : Prop :=
  ∃ A n k, e = .returned (.tuple #[.agg (RC (s.with (addL s.L q c)) (.slice A n k)), .int .i64 (addE s.L q c)]) ∧ Lds w' (.slice A n k) (addL s.L q c) ∧ Below w.heap.size w w' ∧ Kp w v s.L (.slice A n k) (addL s.L q c)
theorem add_bad {L : List (Int × Int)} {q c : Int} (h : q < 0 ∨ 65535 < q ∨ c < 0 ∨ 3 < c) : addE L q c = 2 ∧ addL L q c = L := by
  have e : addE L q c = 2 := by
    unfold addE
    rw [if_pos]
    rcases h with h | h | h | h
    · left; unfold numB; simp; omega
    · left; unfold numB; simp; omega
    · exact .inr (.inl h)
    · exact .inr (.inr h)
  exact ⟨e, by unfold addL; rw [if_neg (by rw [e]; decide)]⟩
set_option maxHeartbeats 4000000 in
theorem radd_bad (s : St) (v : Value) (q c : Int) (w : World) (hl : Lds w v s.L) (h : q < 0 ∨ 65535 < q ∨ c < 0 ∨ 3 < c) :
    Calls Try.prog 19 #[.agg (RC s v), .int .i64 q, .int .i64 c] w (RAddPost w s v q c) := by
  have HL := Lib.hid hl
  obtain ⟨e1, e2⟩ := add_bad (L := s.L) h
  have E1 := Lib.hid e1
  have E2 := Lib.hid e2
  clear e1 e2
  obtain ⟨A, k, rfl, hcc, hr⟩ := hl
  clear hr
  have fin : Hid (∀ o1 o2, RAddPost w s (.slice A s.L.length k) q c (.returned (.tuple #[.agg (RC s (.slice A s.L.length k)), .int .i64 2])) ((w.alloc o1).alloc o2)) := Lib.hid (fun o1 o2 => ⟨A, _, k, by rw [E1.out, E2.out]; rfl, by rw [E2.out]; exact HL.out.below ((below_alloc _ _).alloc (by simp) _), (below_alloc _ _).alloc (by simp) _, .inl ⟨rfl, E2.out⟩⟩)
  unfold RC
  by_cases a1 : q < 0
  · clear h
    go_enter Try.func19, Try.ntmps19
    go_wp2
    (try simp only [Exit.inBlock, Exit.then])
    refine bodyPost_ret (v := .tuple #[.agg (RC s (.slice A s.L.length k)), .int .i64 2]) ?_ rfl (fin.out _ _)
    exact results_row1 (a := 6) (b := 7) (ty := 35) rfl _ _ (w.heap.size + 1) 35 (RC s (.slice A s.L.length k)) (0, 0) _ rfl (heap_alloc2_new w _ _) Try.underlying35 rfl info35
  by_cases a2 : 65535 < q
  · clear h
    go_enter Try.func19, Try.ntmps19
    go_wp2
    (try simp only [Exit.inBlock, Exit.then])
    refine bodyPost_ret (v := .tuple #[.agg (RC s (.slice A s.L.length k)), .int .i64 2]) ?_ rfl (fin.out _ _)
    exact results_row1 (a := 6) (b := 7) (ty := 35) rfl _ _ (w.heap.size + 1) 35 (RC s (.slice A s.L.length k)) (0, 0) _ rfl (heap_alloc2_new w _ _) Try.underlying35 rfl info35
  by_cases a3 : c < 0
  · clear h
    go_enter Try.func19, Try.ntmps19
    go_wp2
    (try simp only [Exit.inBlock, Exit.then])
    refine bodyPost_ret (v := .tuple #[.agg (RC s (.slice A s.L.length k)), .int .i64 2]) ?_ rfl (fin.out _ _)
    exact results_row1 (a := 6) (b := 7) (ty := 35) rfl _ _ (w.heap.size + 1) 35 (RC s (.slice A s.L.length k)) (0, 0) _ rfl (heap_alloc2_new w _ _) Try.underlying35 rfl info35
  have a4 : 3 < c := by omega
  clear h
  go_enter Try.func19, Try.ntmps19
  go_wp2
  (try simp only [Exit.inBlock, Exit.then])
  refine bodyPost_ret (v := .tuple #[.agg (RC s (.slice A s.L.length k)), .int .i64 2]) ?_ rfl (fin.out _ _)
  exact results_row1 (a := 6) (b := 7) (ty := 35) rfl _ _ (w.heap.size + 1) 35 (RC s (.slice A s.L.length k)) (0, 0) _ rfl (heap_alloc2_new w _ _) Try.underlying35 rfl info35
theorem add_found {L : List (Int × Int)} {q c : Int} (h0 : 0 ≤ q) (h1 : q ≤ 65535) (h2 : 0 ≤ c) (h3 : c ≤ 3) {k : Nat} (hk : k < L.length) (he : L[k].1 = q) : addE L q c = 11 ∧ addL L q c = L := by
  have e : addE L q c = 11 := by
    unfold addE
    rw [if_neg (by unfold numB; simp; omega), if_pos]
    cases e : look L q with
    | none => exact absurd he (look_none.1 e _ (List.getElem_mem hk))
    | some x => rfl
  exact ⟨e, by unfold addL; rw [if_neg (by rw [e]; decide)]⟩
theorem add_new {L : List (Int × Int)} {q c : Int} (h0 : 0 ≤ q) (h1 : q ≤ 65535) (h2 : 0 ≤ c) (h3 : c ≤ 3) (hn : ∀ p ∈ L, p.1 ≠ q) : addE L q c = 0 ∧ addL L q c = ins q c L := by
  have e : addE L q c = 0 := by
    unfold addE
    rw [if_neg (by unfold numB; simp; omega), if_neg (by rw [look_none.2 hn]; decide)]
  exact ⟨e, by unfold addL; rw [if_pos e]⟩
/-- What has been built: with or without the new queue. -/
def bld (q c : Int) (L : List (Int × Int)) (d : Bool) (k : Nat) : List (Int × Int) := if d then ins q c (L.take k) else L.take k
def bldOk (q : Int) (L : List (Int × Int)) (d : Bool) (k : Nat) : Prop := if d then ∃ p ∈ L.take k, q < p.1 else ∀ p ∈ L.take k, p.1 < q
theorem bld_done {q c : Int} {L : List (Int × Int)} {k : Nat} (h : bldOk q L true k) (hk : k < L.length) : bld q c L true (k + 1) = bld q c L true k ++ [L[k]] ∧ bldOk q L true (k + 1) := by
  have e : L.take (k + 1) = L.take k ++ [L[k]] := List.take_succ_eq_append_getElem hk
  unfold bld bldOk at *
  rw [if_pos rfl] at h
  rw [if_pos rfl, if_pos rfl, if_pos rfl, e]
  exact ⟨ins_more _ h, by obtain ⟨p, hp, h⟩ := h; exact ⟨p, List.mem_append_left _ hp, h⟩⟩
theorem bld_now {q c : Int} {L : List (Int × Int)} {k : Nat} (h : bldOk q L false k) (hk : k < L.length) (hq : q < L[k].1) : bld q c L true (k + 1) = bld q c L false k ++ [(q, c)] ++ [L[k]] ∧ bldOk q L true (k + 1) := by
  have e : L.take (k + 1) = L.take k ++ [L[k]] := List.take_succ_eq_append_getElem hk
  unfold bld bldOk at *
  rw [if_neg (by decide)] at h
  rw [if_pos rfl, if_neg (by decide), if_pos rfl, e]
  exact ⟨ins_mid hq h, L[k], List.mem_append_right _ (List.mem_singleton.2 rfl), hq⟩
theorem bld_not {q c : Int} {L : List (Int × Int)} {k : Nat} (h : bldOk q L false k) (hk : k < L.length) (hq : L[k].1 < q) : bld q c L false (k + 1) = bld q c L false k ++ [L[k]] ∧ bldOk q L false (k + 1) := by
  have e : L.take (k + 1) = L.take k ++ [L[k]] := List.take_succ_eq_append_getElem hk
  unfold bld bldOk at *
  rw [if_neg (by decide)] at h
  rw [if_neg (by decide), if_neg (by decide), if_neg (by decide), e]
  exact ⟨rfl, fun p hp => by
    rcases List.mem_append.1 hp with h1 | h1
    · exact h p h1
    · simp at h1; rw [h1]; exact hq⟩
theorem bld_len (q c : Int) (L : List (Int × Int)) (d : Bool) (k : Nat) : (bld q c L d k).length ≤ L.length + 1 := by
  unfold bld
  split
  · rw [ins_length, List.length_take]; omega
  · rw [List.length_take]; omega
end Go.Proofs.Ytildofclgofjdaa
