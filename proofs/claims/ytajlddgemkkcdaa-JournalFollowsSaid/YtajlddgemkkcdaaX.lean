/- Sort of places; complete records read out of memory. Conditions stand in each theorem. -/
import Derived.Test.YtajlddgemkkcdaaV
namespace Go.Proofs.Ytajlddgemkkcdaa
open Go.RowKit Go.Sort Go.Lib Go.Shelf
set_option linter.unusedVariables false
set_option maxHeartbeats 4000000
set_option maxRecDepth 100000
theorem len0_any (w : World) : Calls Try.prog 57 #[.int .u64 0] w fun e w' => e = .returned (.int .i64 0) ∧ w' = w :=
  Any.bits_Len (SlLaysF0.n15.bits (P := Try.prog) (ρ := sortL_ren) { sortL with }) 0 w (by omega) (by omega)
theorem ins0_any (A : Option Addr) (c : Nat) (w : World) : Calls Try.prog 83 #[.slice A 0 c, .int .i64 0, .int .i64 0] w fun e w' => e = .returned (.tuple #[]) ∧ w' = w := by
  go_enter Try.func83, Try.ntmps83
  go_wp2
  refine wp_loop_rounds 1 ?_
  rw [rounds_succ]
  go_wp2
  go_end0
  exact ⟨rfl, rfl⟩
theorem pdq0_any (A : Option Addr) (c : Nat) (w : World) : Calls Try.prog 58 #[.slice A 0 c, .int .i64 0, .int .i64 0, .int .i64 0] w fun e w' => e = .returned (.tuple #[]) ∧ w' = w := by
  go_enter Try.func58, Try.ntmps58
  go_wp2
  refine wp_loop_rounds 1 ?_
  rw [rounds_succ]
  go_wp2_with (go_at_call 83; refine (ins0_any _ _ _).mono ?_; rintro e w' ⟨rfl, rfl⟩)
  (try simp only [Exit.inBlock, Exit.then])
  refine bodyPost_ret (results_none rfl _ _ _) rfl ?_
  exact ⟨rfl, rfl⟩
theorem sort0_any (A : Option Addr) (c : Nat) (w : World) : Calls Try.prog 41 #[.slice A 0 c] w fun e w' => e = .returned (.tuple #[]) ∧ w' = w := by
  go_enter Try.func41, Try.ntmps41
  go_wp2_with (first
    | (go_at_call 57; refine (len0_any _).mono ?_; rintro e w' ⟨rfl, rfl⟩)
    | (go_at_call 58; refine (pdq0_any _ _ _).mono ?_; rintro e w' ⟨rfl, rfl⟩))
  go_end0
  exact ⟨rfl, rfl⟩
/-- What Sort leaves. -/
def SoPost (w : World) (base : Nat) (A : Option Addr) (c : Nat) (us : List Nat) (e : Ending) (w' : World) : Prop :=
  e = .returned (.tuple #[]) ∧ ∃ D : List Nat, D.Perm us ∧ D.Pairwise (· ≤ ·) ∧ w'.ownsRow base 3 1 (.slice A us.length c) D.length (iv D) ∧ w.grownBy w' (Value.slice A us.length c).ownBlock
theorem sortI_any {w : World} {base : Nat} {A : Option Addr} {c : Nat} {us : List Nat} (ho : w.ownsRow base 3 1 (.slice A us.length c) us.length (iv us)) (hl : us.length ≤ 100000000) :
    Calls Try.prog 41 #[.slice A us.length c] w (SoPost w base A c us) := by
  rcases ho.2 with ⟨he, h0⟩ | ⟨g, cap, cur, he, hb, hg, h1, h2, h3, h4⟩
  · have hu : us = [] := List.length_eq_zero_iff.1 h0
    subst hu
    refine (show Calls Try.prog 41 #[.slice A 0 c] w _ from sort0_any A c w).mono ?_
    rintro e w' ⟨rfl, rfl⟩
    exact ⟨rfl, [], .refl _, .nil, ho, World.grownBy.refl _ _⟩
  · injection he with e1 _ e3
    subst e1 e3
    obtain ⟨zs, hzs⟩ : ∃ zs : List Int, zs = us.map fun n : Nat => (n : Int) := ⟨_, rfl⟩
    have hzl : zs.length = us.length := by rw [hzs]; simp
    have hgl := (Array.getElem?_eq_some_iff.1 hg).1
    have hH : Holds (Value.int .i64) w g 0 zs.toArray := by
      intro j hj
      have hj' : j < us.length := by simpa [hzl] using hj
      refine ⟨?_, by rw [Nat.zero_add]; exact frozen_of_row w g _ _ 3 hg⟩
      have h5 := iv_get hj'
      rw [← h4, List.getElem?_take, if_pos (by omega)] at h5
      rw [Nat.zero_add, cell_of_row _ _ _ _ _ (0, 0) hg, getElem!_pos zs.toArray j hj]
      simp only [List.getElem_toArray, hzs, List.getElem_map]
      simpa using h5
    have h := slices_Sort_int g 0 c zs w hH hgl (by omega)
    rw [hzl] at h
    refine h.mono ?_
    rintro e w' ⟨rfl, n, os, rfl⟩
    have hmp := List.mergeSort_perm zs (fun x y => decide (x ≤ y))
    have hms : (zs.mergeSort fun x y => decide (x ≤ y)).Pairwise (fun a b => a ≤ b) := by
      have := List.pairwise_mergeSort (le := fun (x y : Int) => decide (x ≤ y)) (fun a b c h1 h2 => by simp at *; omega) (fun a b => by simp; omega) zs
      exact this.imp (fun h => by simpa using h)
    obtain ⟨ms, hm⟩ : ∃ ms, ms = zs.mergeSort fun x y => decide (x ≤ y) := ⟨_, rfl⟩
    rw [← hm] at hmp hms ⊢
    have hpos : ∀ z ∈ ms, ((z.toNat : Nat) : Int) = z := fun z hz => by
      have h6 := hmp.mem_iff.1 hz
      rw [hzs] at h6
      obtain ⟨m, _, rfl⟩ := List.mem_map.1 h6
      simp
    have hml : ms.length = us.length := hmp.length_eq.trans hzl
    have hD : (ms.map Int.toNat).Perm us := by
      have := hmp.map Int.toNat
      rw [hzs, List.map_map] at this
      have e : (Int.toNat ∘ fun n : Nat => (n : Int)) = id := by funext n; simp
      rwa [e, List.map_id] at this
    have hb2 : ∀ k, k < w.heap.size → (grow (putRow (Value.int .i64) (Sort.ahead w n) g 0 ms.toArray) os).heap[k]? = (w.heap.modify g (onCells (putCells (Value.int .i64) 0 ms.toArray)))[k]? := fun k hk => by
      simp only [grow, putRow, mapBlock]
      rw [Array.getElem?_append_left (by simpa using hk)]
      rfl
    have hgrow : w.grownBy (grow (putRow (Value.int .i64) (Sort.ahead w n) g 0 ms.toArray) os) (some g) := by
      refine ⟨rfl, rfl, rfl, ?_, fun k hk hne => ?_⟩
      · have : (grow (putRow (Value.int .i64) (Sort.ahead w n) g 0 ms.toArray) os).heap.size = w.heap.size + os.size := by simp [grow, putRow, mapBlock]
        omega
      · rw [hb2 k hk, Array.getElem?_modify, if_neg (fun e => hne (by rw [e]))]
    have hrow : (grow (putRow (Value.int .i64) (Sort.ahead w n) g 0 ms.toArray) os).heap[g]? = some (.cells (putCells (Value.int .i64) 0 ms.toArray cur) 3 (0, 0)) := by
      rw [hb2 g hgl, Array.getElem?_modify, if_pos rfl, hg]
      rfl
    refine ⟨rfl, ms.map Int.toNat, hD, ?_, ⟨by simp [iv], .inr ⟨g, c, _, by rw [List.length_map, hml], hb, hrow, by rw [List.length_map, hml]; exact h1, h2, by simpa [putCells] using h3, ?_⟩⟩, hgrow⟩
    · rw [List.pairwise_map]
      exact hms.imp (fun h => by omega)
    · apply List.ext_getElem?
      intro t
      rw [List.getElem?_take]
      simp only [List.length_map, Nat.mul_one]
      by_cases ht : t < ms.length
      · rw [if_pos ht]
        have htc : t < cur.size := by omega
        simp only [putCells, Array.toList_mapIdx, List.getElem?_mapIdx]
        have hc : cur.toList[t]? = some cur[t] := by simp [htc]
        rw [hc]
        simp only [Option.map_some, Nat.zero_le, true_and, Nat.zero_add, Nat.sub_zero, List.size_toArray]
        rw [if_pos ht, getElem!_pos ms.toArray t (by simpa using ht)]
        have h7 : t < (ms.map Int.toNat).length := by simpa using ht
        rw [iv_get h7]
        simp only [List.getElem_toArray, List.getElem_map]
        rw [hpos _ (List.getElem_mem ht)]
      · rw [if_neg ht, List.getElem?_eq_none (by rw [iv_length, List.length_map]; omega)]
/-- The places of a record, read out of memory. -/
def rdP (W : World) (x : Loc) : List Nat := (List.range x.pn).map fun j => match x.pa with
  | some a => (match W.cell? ⟨a.block, j, none⟩ with | some (.int _ n) => n.toNat | _ => 0)
  | none => 0
def crOf (W : World) (x : Loc) : Cr := ⟨x.r, x.e.toNat, rdP W x⟩
theorem LocOf.eq {W : World} {x : Loc} {c : Cr} (h : LocOf W x c) : c = crOf W x := by
  obtain ⟨h1, h2, h3, h4⟩ := h
  obtain ⟨r, e, ps⟩ := c
  simp only at h1 h2 h3 h4
  unfold crOf
  congr 1
  · exact h1.symm
  · rw [h2]; simp
  · apply List.ext_getElem
    · simp [rdP, h3]
    · intro j hj hj'
      obtain ⟨g, c, he, _, _, hc⟩ := h4.at_ (k := j) hj
      injection he with e1 _ _
      simp only [rdP, List.getElem_map, List.getElem_range, e1, hc j hj]
      simp
theorem LocsOf.eq {W : World} {L : List Loc} {C : List Cr} (h : LocsOf W L C) : C = L.map (crOf W) := by
  apply List.ext_getElem
  · simp [h.1]
  · intro i h1 h2
    rw [List.getElem_map]
    exact (h.2 i (by simpa using h2) h1).eq
theorem LocsOf.of {W : World} {L : List Loc} {C : List Cr} (h : LocsOf W L C) : ∀ x ∈ L, LocOf W x (crOf W x) := by
  intro x hx
  obtain ⟨i, hi, rfl⟩ := List.mem_iff_getElem.1 hx
  have h1 := h.2 i hi (by have := h.1; omega)
  rw [← h1.eq]
  exact h1
end Go.Proofs.Ytajlddgemkkcdaa
