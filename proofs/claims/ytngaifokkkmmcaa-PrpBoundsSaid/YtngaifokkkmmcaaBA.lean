/- Slices of numbers of 64 bits: cuts, append; areLists; encode. Conditions stand in each theorem. -/
import Derived.Test.YtngaifokkkmmcaaSU
namespace Go.Proofs.Ytngaifokkkmmcaa
open Go.RowKit
set_option linter.unusedVariables false
set_option maxHeartbeats 2000000
set_option maxRecDepth 100000
theorem u64_info : (Try.prog.info? 23).map (fun i => (i.zero, i.size, i.bytes)) = some (some (.int .u64 0), 1, 8) := by kernel_rfl
theorem elem44 : Try.prog.elem 44 = 23 := by kernel_rfl
theorem under44e : Try.prog.underlying 44 = some (.slice (Try.prog.elem 44)) := by rw [elem44]; exact Try.underlying44
/-- x[F:] of a slice of numbers. -/
theorem drop64 {w : World} {v : Value} {xs : List Nat} (h : U64s w v xs) (F : Nat) (hF : F ≤ xs.length) (hm : xs.length ≤ 1000000) : ∃ v', (∀ W : World, (Instr.slice 44 v (some (.int .i64 (F : Int))) none none).run Try.prog W = .ok v' W) ∧ (∀ w', U64s w' v xs → U64s w' v' (xs.drop F)) ∧ (∃ A c, v' = .slice A (xs.length - F) c) ∧ (∀ S : Nat → Prop, (∀ b, v.ownBlock = some b → ¬ S b) → ∀ b, v'.ownBlock = some b → ¬ S b) := by
  obtain ⟨i0, hi0, hz0, hz1, hz2⟩ := info_parts u64_info
  obtain ⟨A, c, rfl, hc, hx, hr⟩ := h
  refine ⟨.slice (if c = F then A else A.map (·.add (F * 1))) (xs.length - F) (c - F), fun W => ?_, fun w' h => ?_, ⟨_, _, rfl⟩, fun S hS b hb => ?_⟩
  · rw [run_slice_l (P := Try.prog) (w := W) (t := 44) (a := A) (len := xs.length) (cap := c) (ht := under44e) .i64 (F : Int) (by omega) (by omega)]
    simp [sizeOf, typeInfo, elem44, hi0, hz1, sliced]
  · obtain ⟨A2, c2, e, hc2, hx2, hr2⟩ := h
    simp only [Value.slice.injEq, true_and] at e
    obtain ⟨rfl, rfl⟩ := e
    refine ⟨if c = F then A else A.map (·.add (F * 1)), c - F, by rw [List.length_drop], by rw [List.length_drop]; omega, fun x hx3 => hx2 x (List.mem_of_mem_drop hx3), fun h0 => ?_⟩
    rw [List.length_drop] at h0
    have h1 : 0 < xs.length := Nat.lt_of_lt_of_le h0 (Nat.sub_le _ _)
    obtain ⟨g, o, rfl, hg, hcell⟩ := hr2 h1
    have h2 : ¬ c = F := fun e => by clear hx2 hcell; subst e; exact absurd h0 (by rw [Nat.sub_eq_zero_of_le hc2]; exact Nat.lt_irrefl 0)
    refine ⟨g, o + F, by rw [if_neg h2]; simp [add_plain], hg, fun j hj => ?_⟩
    rw [List.length_drop] at hj
    have := hcell (F + j) (Nat.add_lt_of_lt_sub' hj)
    rw [List.getElem_drop, Nat.add_assoc]
    exact this
  · by_cases hcF : c = F
    · rw [if_pos hcF] at hb
      exact hS b (by rcases A with _ | a <;> exact hb)
    · rw [if_neg hcF] at hb
      rcases A with _ | a
      · cases hb
      · refine hS b ?_
        simp only [Option.map_some, Value.ownBlock, Option.some.injEq] at hb ⊢
        rw [← hb]
        obtain ⟨g, o, sp⟩ := a
        unfold Addr.add
        split <;> rfl
/-- x[:k] of a slice of numbers. -/
theorem take64 {w : World} {v : Value} {xs : List Nat} (h : U64s w v xs) (k : Nat) (hk : k ≤ xs.length) (hm : xs.length ≤ 1000000) : ∃ v', (∀ W : World, (Instr.slice 44 v none (some (.int .i64 (k : Int))) none).run Try.prog W = .ok v' W) ∧ (∀ w', U64s w' v xs → U64s w' v' (xs.take k)) ∧ (∃ A c, v' = .slice A k c) := by
  obtain ⟨i0, hi0, hz0, hz1, hz2⟩ := info_parts u64_info
  obtain ⟨A, c, rfl, hc, hx, hr⟩ := h
  refine ⟨.slice (if c = 0 then A else A.map (·.add 0)) k c, fun W => ?_, fun w' h => ?_, ⟨_, _, rfl⟩⟩
  · rw [run_slice_h (P := Try.prog) (w := W) (t := 44) (a := A) (len := xs.length) (cap := c) (ht := under44e) .i64 (k : Int) (by omega) (by omega)]
    simp [sizeOf, typeInfo, elem44, hi0, hz1, sliced]
  · obtain ⟨A2, c2, e, hc2, hx2, hr2⟩ := h
    simp only [Value.slice.injEq, true_and] at e
    obtain ⟨rfl, rfl⟩ := e
    have hl : (xs.take k).length = k := by simp; omega
    refine ⟨_, _, by rw [hl], by rw [hl]; omega, fun x hx3 => hx2 x (List.mem_of_mem_take hx3), fun h0 => ?_⟩
    rw [hl] at h0
    obtain ⟨g, o, rfl, hg, hcell⟩ := hr2 (by omega)
    refine ⟨g, o, by rw [if_neg (by omega)]; simp [add_plain], hg, fun j hj => ?_⟩
    rw [hl] at hj
    rw [List.getElem_take]
    exact hcell j (by omega)
/-- x[:k:k] of a slice of numbers. -/
theorem cut64 {w : World} {v : Value} {xs : List Nat} (h : U64s w v xs) (k : Nat) (hk : k ≤ xs.length) (hm : xs.length ≤ 1000000) : ∃ A, (∀ W : World, (Instr.slice 44 v none (some (.int .i64 (k : Int))) (some (.int .i64 (k : Int)))).run Try.prog W = .ok (.slice A k k) W) ∧ (∀ w', U64s w' v xs → U64s w' (.slice A k k) (xs.take k)) := by
  obtain ⟨i0, hi0, hz0, hz1, hz2⟩ := info_parts u64_info
  obtain ⟨A, c, rfl, hc, hx, hr⟩ := h
  refine ⟨if k = 0 then A else A.map (·.add 0), fun W => ?_, fun w' h => ?_⟩
  · rw [run_slice_hm (P := Try.prog) (w := W) (t := 44) (a := A) (len := xs.length) (cap := c) (ht := under44e) .i64 .i64 (k : Int) (k : Int) (by omega) (by omega) (by omega)]
    simp [sizeOf, typeInfo, elem44, hi0, hz1, sliced]
  · obtain ⟨A2, c2, e, hc2, hx2, hr2⟩ := h
    simp only [Value.slice.injEq, true_and] at e
    obtain ⟨rfl, rfl⟩ := e
    have hl : (xs.take k).length = k := by simp; omega
    refine ⟨_, _, by rw [hl], by rw [hl]; omega, fun x hx3 => hx2 x (List.mem_of_mem_take hx3), fun h0 => ?_⟩
    rw [hl] at h0
    obtain ⟨g, o, rfl, hg, hcell⟩ := hr2 (by omega)
    refine ⟨g, o, by rw [if_neg (by omega)]; simp [add_plain], hg, fun j hj => ?_⟩
    rw [hl] at hj
    rw [List.getElem_take]
    exact hcell j (by omega)
theorem uv_one (xs : List Nat) : ∀ u ∈ xs.map (fun x : Nat => Value.int .u64 (x : Int)), u.oneCell' = true := by
  intro u hu
  obtain ⟨x, _, rfl⟩ := List.mem_map.1 hu
  rfl
/-- append(x[:k:k], y): a new row. -/
theorem app64 {W : World} {A : Option Addr} {xs : List Nat} {y q : Nat} (h : U64s W (.slice A xs.length xs.length) xs) (hq : W.cell? ⟨q, 0, none⟩ = some (.int .u64 (y : Int))) (hy : y < 18446744073709551616) (hm : xs.length ≤ 1000000) :
    ∃ v' W', (Builtin.append_ #[44, 44] 44 #[.slice A xs.length xs.length, .slice (some ⟨q, 0, none⟩) 1 1]).run Try.prog W = .ok v' W' ∧ U64s W' v' (xs ++ [y]) ∧ Below W.heap.size W W' ∧ v'.ownBlock = some W.heap.size := by
  obtain ⟨i0, hi0, hz0, hz1, hz2⟩ := info_parts u64_info
  obtain ⟨A2, c2, e, hc, hx, hr⟩ := h
  simp only [Value.slice.injEq, true_and] at e
  obtain ⟨rfl, rfl⟩ := e
  have hsrc : Src Try.prog i0.size 44 (.slice (some ⟨q, 0, none⟩) 1 1) 1 [.int .u64 (y : Int)] W := Src.ofSlice W Try.underlying44 ⟨q, 0, none⟩ 1 1 [.int .u64 (y : Int)] (by rw [hz1]; rfl) (fun j u hu => by
    have hj : j = 0 := by
      have := (List.getElem?_eq_some_iff.1 hu).1
      simpa using this
    subst hj
    simp only [List.getElem?_cons_zero, Option.some.injEq] at hu
    subst hu
    rw [add_plain]
    exact hq) (by simp [Value.oneCell'])
  have hold : (Builtin.firstCells i0.size xs.length (.slice A xs.length xs.length)).run Try.prog W.drew = .ok (xs.map fun x : Nat => Value.int .u64 (x : Int)).toArray W.drew := by
    rw [hz1]
    rcases Nat.eq_zero_or_pos xs.length with h0 | h0
    · have : xs = [] := List.eq_nil_of_length_eq_zero h0
      subst this
      cases A <;> simp [Builtin.firstCells, loadCells, loadCellsFrom]
    · obtain ⟨g, o, rfl, hg, hcell⟩ := hr h0
      exact run_firstCells_some W.drew 1 xs.length _ xs.length xs.length _ (by simp) (fun j u hu => by
        have hj : j < xs.length := by
          have := (List.getElem?_eq_some_iff.1 hu).1
          simpa using this
        rw [add_plain]
        have h1 : W.drew.cell? ⟨g, o + j, none⟩ = W.cell? ⟨g, o + j, none⟩ := rfl
        rw [h1, hcell j hj]
        simpa [hj] using hu)
  have hrun := run_append_grow_src (P := Try.prog) W 44 44 44 23 i0 _ Try.underlying44 hi0 hz0 A xs.length xs.length _ hold (.slice (some ⟨q, 0, none⟩) 1 1) 1 _ hsrc (by omega) (by omega) (growslice_fits (by omega) (by rw [hz2]; omega))
  have hge := grownCap_ge W (xs.length + 1) xs.length 23
  refine ⟨_, _, hrun, ⟨_, grownCap W (xs.length + 1) xs.length 23, by rw [List.length_append]; rfl, by rw [List.length_append]; simpa using hge, fun x hx2 => ?_, fun _ => ⟨W.heap.size, 0, rfl, by simp, fun j hj => ?_⟩⟩, (Below.refl _ _).drew.alloc (Nat.le_refl _) _, rfl⟩
  · rcases List.mem_append.1 hx2 with h1 | h1
    · exact hx x h1
    · rw [List.mem_singleton.1 h1]; exact hy
  · rw [Nat.zero_add, cell_of_row _ W.heap.size j _ 23 (0, 0) (heap_alloc_new W.drew _)]
    rw [List.length_append] at hj
    simp only [List.length_cons, List.length_nil] at hj
    rw [Array.getElem?_append_left (by simp; omega), List.getElem?_toArray]
    rcases Nat.lt_or_ge j xs.length with h1 | h1
    · rw [List.getElem?_append_left (by simpa using h1), List.getElem_append_left h1]
      simp [h1]
    · have : j = xs.length := by omega
      subst this
      rw [List.getElem?_append_right (by simp)]
      simp
theorem areAligned_lit (v : Value) (xs : List Nat) (u : Nat) (U : Int) (hU : U = (u : Int)) (w : World) (h : U64s w v xs) (hm : xs.length ≤ 1000000) (hu : 0 < u) :
    Calls Try.prog 36 #[.int .u64 U, v] w fun e w' => e = .returned (.bool (aln u xs)) ∧ Below w.heap.size w w' := by
  subst hU
  exact areAligned_any v xs u w h hm hu
/-- All lists begin where they can. -/
def alst (ls : List Nat) : Bool := aln 8 (ls.take (min 1 ls.length)) && aln 4096 (ls.drop (min 1 ls.length))
theorem areLists_any (v : Value) (ls : List Nat) (w : World) (h : U64s w v ls) (hm : ls.length ≤ 1000000) : Calls Try.prog 37 #[v] w fun e w' => e = .returned (.bool (alst ls)) ∧ Below w.heap.size w w' := by
  obtain ⟨k, hk⟩ : ∃ k, k = min 1 ls.length := ⟨_, rfl⟩
  have hkl : k ≤ ls.length := by omega
  obtain ⟨v1, hr1, hu1, -⟩ := take64 h k hkl hm
  obtain ⟨v2, hr2, hu2, -, -⟩ := drop64 h k hkl hm
  have H1 := Lib.hid (fun W (hb : Below w.heap.size w W) => areAligned_lit v1 (ls.take k) 8 8 rfl W (hu1 W (h.below hb)) (by simp; omega) (by decide))
  have H2 := Lib.hid (fun W (hb : Below w.heap.size w W) => areAligned_lit v2 (ls.drop k) 4096 4096 rfl W (hu2 W (h.below hb)) (by simp; omega) (by decide))
  have hmin : min (1 : Int) (ls.length : Int) = (k : Int) := by omega
  have HA : Hid (alst ls = (aln 8 (ls.take k) && aln 4096 (ls.drop k))) := Lib.hid (by unfold alst; rw [hk])
  rw [HA.out]
  obtain ⟨A, c, rfl, -⟩ := h
  clear hu1 hu2 hk hkl hm
  generalize aln 4096 (ls.drop k) = y at *
  cases hx : aln 8 (ls.take k)
  · rw [hx] at H1
    clear hx
    go_enter Try.func37, Try.ntmps37
    go_wp2_with ((go_at_call 36; with_reducible refine (H1.out _ (Below.refl _ _)).mono ?_); rintro e w1 ⟨rfl, hb⟩; have HB1 := Lib.hid hb; clear hb)
    go_ret
    exact ⟨rfl, HB1.out⟩
  · rw [hx] at H1
    clear hx
    go_enter Try.func37, Try.ntmps37
    go_wp2_with (first
      | ((go_at_call 36; with_reducible refine (H1.out _ (Below.refl _ _)).mono ?_); rintro e w1 ⟨rfl, hb⟩; have HB1 := Lib.hid hb; clear hb)
      | ((go_at_call 36; with_reducible refine (H2.out _ HB1.out).mono ?_); rintro e w2 ⟨rfl, hb⟩; have HB2 := Lib.hid (HB1.out.trans (hb.mono HB1.out.size)); clear hb))
    go_ret
    exact ⟨rfl, HB2.out⟩
/-- The bytes of addresses. -/
def enc (xs : List Nat) : List UInt8 := (xs.map fun x => putB x 8).flatten
theorem enc_snoc (l : List Nat) (k : Nat) (h : k < l.length) : enc (l.take (k + 1)) = enc (l.take k) ++ putB l[k] 8 := by
  unfold enc
  rw [List.take_succ_eq_append_getElem h, List.map_append, List.flatten_append]
  simp
theorem enc_length (xs : List Nat) : (enc xs).length = xs.length * 8 := by
  induction xs with
  | nil => rfl
  | cons x xs ih =>
    have : enc (x :: xs) = putB x 8 ++ enc xs := by simp [enc]
    rw [this, List.length_append, putB_length, ih, List.length_cons]; omega
end Go.Proofs.Ytngaifokkkmmcaa
