/- What an append of zero bytes leaves. Condition: the sizes are below 2 to the 40. -/
import Derived.Test.YtmolpnhgmdpdmaaDoorTi
import Derived.Lib.AppendZerosOnto
namespace Go.Proofs.YtmolpnhgmdpdmaaDoor
open Go.RowKit
set_option linter.unusedVariables false
set_option maxHeartbeats 400000

theorem zeroCells_list (k : Nat) : (Builtin.zeroCells (Value.int .u8 0).cells k).toList = bv (List.replicate k 0) := by
  apply List.ext_getElem?
  intro j
  by_cases hj : j < k
  · simp [Builtin.zeroCells, bv, Value.cells, hj, Nat.mod_one]
  · simp [Builtin.zeroCells, bv, Value.cells, hj]

theorem run_append_own_zeros (w : World) (base n k : Nat) (v : Value) (l : List UInt8) (ty : TypeId) (hown : w.ownsRow base 5 1 v n (bv l)) (hsz : n + k ≤ 1099511627776) (hbase : base ≤ w.heap.size) :
    ∃ v' w', (Builtin.append_ #[23, 3] ty #[v, .int .i64 (k : Int)]).run Tryd.prog w = .ok v' w' ∧ w'.ownsRow base 5 1 v' (n + k) (bv (l ++ List.replicate k 0)) ∧ w.grownBy w' v.ownBlock ∧ (v'.ownBlock = v.ownBlock ∨ v'.ownBlock = some w.heap.size) := by
  obtain ⟨i0, hi0, hz0, hz1, hz2⟩ := info_parts u8_info
  have hw : IntKind.i64.wrap (k : Int) = k := by rw [IntKind.wrap_i64]; omega
  have hneg : ¬ ((k : Int) < 0) := by omega
  have h48 : ¬ (281474976710656 < (k : Int) * (i0.bytes : Int)) := by rw [hz2]; omega
  have hln : (bv l).length = n := by have := hown.1; omega
  have hlen : (bv (l ++ List.replicate k 0)).length = (n + k) * 1 := by rw [bv_append, List.length_append, hln, bv_length]; simp
  have hgrow : ∀ (A : Option Addr) (cap : Nat), n ≤ cap → cap < n + k → 0 < k → (Builtin.firstCells i0.size n (.slice A n cap)).run Tryd.prog w.drew = .ok (bv l).toArray w.drew →
      ∃ v' w', (Builtin.append_ #[23, 3] ty #[.slice A n cap, .int .i64 (k : Int)]).run Tryd.prog w = .ok v' w' ∧ w'.ownsRow base 5 1 v' (n + k) (bv (l ++ List.replicate k 0)) ∧ (∀ row, w.grownBy w' row) ∧ v'.ownBlock = some w.heap.size := by
    intro A cap hnc hlt hk hold
    have hrun := Lib.run_append_grow_zeros (P := Tryd.prog) w 23 3 ty 5 i0 (.int .u8 0) .i64 .i64 Tryd.underlying23 Tryd.underlying3 hi0 hz0 A n cap (bv l) hold k hk (by omega) hlt (by omega) (by rw [hz2]; omega) (growslice_fits (by omega) (by rw [hz2]; omega))
    have hge := grownCap_ge w (n + k) cap 5
    have hcm : grownCap w (n + k) cap 5 ≤ maxLen := grownCap_le_maxLen w (n + k) cap 5 (by unfold maxLen; omega)
    refine ⟨_, _, hrun, ⟨hlen, .inr ⟨w.heap.size, _, _, rfl, hbase, heap_alloc_new w.drew _, hge, hcm, ?_, ?_⟩⟩, fun row => ⟨rfl, rfl, rfl, by simp, fun j hj _ => Below.heap_alloc w.drew _ j hj⟩, rfl⟩
    · simp only [Array.size_append, List.size_toArray, size_zeroCells, hln]
      simp [Value.cells]; omega
    · simp only [Array.toList_append]
      rw [zeroCells_list, ← bv_append, ← hlen]
      exact List.take_left
  rcases Nat.eq_zero_or_pos k with rfl | hk
  · refine ⟨v, w, ?_, by simpa using hown, World.grownBy.refl _ _, .inl rfl⟩
    rcases hown.2 with ⟨rfl, rfl⟩ | ⟨g, cap, cur, rfl, _, _, hnc, _⟩
    · simp [Builtin.append_, run_underlying Tryd.underlying23, run_underlying Tryd.underlying3, sizeOf, typeInfo, hi0, asInt, asIntOf, IntKind.wrap_i64]
    · simp [Builtin.append_, run_underlying Tryd.underlying23, run_underlying Tryd.underlying3, sizeOf, typeInfo, hi0, asInt, asIntOf, IntKind.wrap_i64, hnc, storeCells]
  · rcases hown.2 with ⟨rfl, rfl⟩ | ⟨g, cap, cur, rfl, hbg, hg, hnc, hcm, hcs, htake⟩
    · have hl0 : l = [] := List.eq_nil_of_length_eq_zero (by rw [bv_length] at hln; exact hln)
      subst hl0
      obtain ⟨v', w', h1, h2, h3, h4⟩ := hgrow none 0 (Nat.le_refl _) (by omega) hk (by simp [Builtin.firstCells, bv])
      exact ⟨v', w', h1, h2, h3 _, .inr h4⟩
    · by_cases hroom : n + k ≤ cap
      · have hst := run_storeCells_at Tryd.prog g n 5 (bv (List.replicate k 0)) 0 cur w hg (by rw [bv_length]; simp; omega) (bv_one _)
        simp only [Nat.add_zero] at hst
        have hkk : ¬ k = 0 := by omega
        refine ⟨.slice (some ⟨g, 0, none⟩) (n + k) cap, w.setRow g (cur.toList.take n ++ bv (List.replicate k 0) ++ cur.toList.drop (n + (bv (List.replicate k 0)).length)).toArray, ?_, ⟨hlen, .inr ⟨g, cap, _, rfl, hbg, setRow_heap w g cur _ 5 _ hg, hroom, hcm, ?_, ?_⟩⟩, ⟨rfl, rfl, rfl, by simp, fun j _ hj => setRow_other w g j _ (fun e => hj (by simp [Value.ownBlock, e]))⟩, .inl rfl⟩
        · simp [Builtin.append_, run_underlying Tryd.underlying23, run_underlying Tryd.underlying3, sizeOf, typeInfo, zeroValue, hi0, hz0, hz1, asInt, asIntOf, hw, hneg, h48, hkk, hroom, Addr.add_lit, zeroCells_list, hst]
        · simp only [List.size_toArray, List.length_append, List.length_take, List.length_drop, Array.length_toList, bv_length, List.length_replicate]
          omega
        · rw [Nat.mul_one] at htake
          rw [htake, ← bv_append, ← hlen]
          exact List.take_left
      · have hold : (Builtin.firstCells i0.size n (.slice (some ⟨g, 0, none⟩) n cap)).run Tryd.prog w.drew = .ok (bv l).toArray w.drew := by
          rw [hz1]
          exact run_firstCells_some w.drew 1 n _ n cap (bv l) (by omega) (fun j u hu => hown.cells (g := g) rfl j u hu)
        obtain ⟨v', w', h1, h2, h3, h4⟩ := hgrow (some ⟨g, 0, none⟩) cap hnc (by omega) hk hold
        exact ⟨v', w', h1, h2, h3 _, .inr h4⟩
end Go.Proofs.YtmolpnhgmdpdmaaDoor
