/- The contract of bytes.Repeat at one byte FF. Condition: the count is at most 1048576. -/
import Derived.Test.YtcebockdfkjoiaaDoorA
import Derived.Test.YtcebockdfkjoiaaDoorC
import Derived.Lib.MakeNoZero
import Derived.Laws.CopyOwn
import Derived.Laws.Externs
namespace Go.Proofs.YtcebockdfkjoiaaDoor
open Go.RowKit
set_option linter.unusedVariables false
set_option maxHeartbeats 400000

theorem and_mask (c : Nat) (h : c ≤ 1048576) : bits .and .u64 (c : Int) 4294967295 = c := by
  rw [show (4294967295 : Int) = ((4294967295 : Nat) : Int) from rfl, u64_and_nat _ _ (by omega) (by omega), show 4294967295 = 2 ^ 32 - 1 from rfl, Nat.and_two_pow_sub_one_eq_mod, Nat.mod_eq_of_lt (by omega)]
theorem mul64_one (c : Nat) (w : World) (h : c ≤ 1048576) : Calls Tryd.prog 60 #[.int .u64 1, .int .u64 c] w fun e w' => e = .returned (.tuple #[.int .u64 0, .int .u64 c]) ∧ w = w' := by
  have h1 : bits .and .u64 1 4294967295 = 1 := by decide
  have h2 := and_mask c h
  have h3 : bits .and .u64 0 4294967295 = 0 := by decide
  have h4 : (c : Int) / 4294967296 = 0 := by omega
  go_enter Tryd.func60, Tryd.ntmps60
  go_wp2
  go_ret2
  exact ⟨rfl, rfl⟩
theorem mul_one (c : Nat) (w : World) (h : c ≤ 1048576) : Calls Tryd.prog 48 #[.int .u64 1, .int .u64 c] w fun e w' => e = .returned (.tuple #[.int .u64 0, .int .u64 c]) ∧ w = w' := by
  go_enter Tryd.func48, Tryd.ntmps48
  go_wp2_with fail
  refine (mul64_one c _ h).mono ?_
  rintro e w' ⟨rfl, rfl⟩
  go_wp2
  go_ret2
  exact ⟨rfl, rfl⟩
theorem makeNoZero_any (c : Nat) (w : World) (h : c ≤ 1048576) : ∃ cs : Array Value, (callFunc 49 #[.int .i64 (c : Int)]).run Tryd.prog w = .ok (.value (.slice (some ⟨w.heap.size, 0, none⟩) c cs.size)) ((w.alloc (.cells cs 5)).drewN 2) ∧ c ≤ cs.size ∧ cs.size ≤ 9223372036854775807 := by
  obtain ⟨cs, hrun, hge, hle⟩ := Lib.run_makeNoZero (P := Tryd.prog) w #[3] 26 5 Tryd.underlying26 c (by omega)
  refine ⟨cs, ?_, hge, ?_⟩
  · rw [run_callFunc_extern Tryd.func49 (by kernel_rfl) (by kernel_rfl) (by kernel_rfl) (e := Extern.BytealgMakeNoZero.makeNoZero #[3] #[26]) (by kernel_rfl), hrun]
    rfl
  · have := hle (by unfold maxLen; omega)
    unfold maxLen at this
    exact this
/-- The block g has n cells, of which the first k are spaces. -/
def Filled (w : World) (g k n : Nat) : Prop := ∃ R : List Value, w.heap[g]? = some (.cells R.toArray 5 (0, 0)) ∧ R.length = n ∧ ∀ j, j < k → R[j]? = some (.int .u8 255)
theorem filled_step {w : World} {g k m n : Nat} {R : List Value} (hl : R.length = n) (hR : ∀ j, j < k → R[j]? = some (.int .u8 255)) (hk : k + m ≤ n)
    (h : w.heap[g]? = some (.cells (splice R k (List.replicate m (.int .u8 255))).toArray 5 (0, 0))) : Filled w g (k + m) n := by
  refine ⟨_, h, ?_, fun j hj => ?_⟩
  · rw [length_splice _ _ _ (by simp; omega), hl]
  · unfold splice
    by_cases hjk : j < k
    · rw [List.getElem?_append_left (by simp; omega), List.getElem?_take, if_pos hjk]
      exact hR j hjk
    · rw [List.getElem?_append_right (by simp; omega), List.getElem?_append_left (by simp; omega), List.getElem?_replicate, if_pos (by rw [List.length_take]; omega)]
theorem Filled.byt {w : World} {g k n c : Nat} (h : Filled w g k n) (hk : k ≤ c) : Byt w (.slice (some ⟨g, 0, none⟩) k c) (List.replicate k 255) := by
  obtain ⟨R, hR, hl, hc⟩ := h
  refine ⟨_, c, by rw [List.length_replicate], by simpa using hk, fun _ => ⟨g, 0, rfl, (Array.getElem?_eq_some_iff.1 hR).1, fun j hj => ?_⟩⟩
  rw [Nat.zero_add, cell_of_row w g j R.toArray 5 (0, 0) hR]
  simp at hj ⊢
  exact hc j hj
theorem u8_size : (Tryd.prog.info? 5).map (·.size) = some 1 := by kernel_rfl
theorem copy_prep {w : World} {g k n c : Nat} (h : Hid (Filled w g k n)) (_hge : c ≤ n) : ∃ R : List Value, Hid (w.heap[g]? = some (.cells R.toArray 5 (0, 0))) ∧ Hid (R.length = n) ∧ Hid (∀ j, j < k → R[j]? = some (.int .u8 255)) := h.out
theorem copy_src {w : World} {g k m : Nat} {R : List Value} (HR : Hid (w.heap[g]? = some (.cells R.toArray 5 (0, 0)))) (Hf : Hid (∀ j, j < k → R[j]? = some (.int .u8 255))) (hm : m ≤ k) :
    Hid (∀ j v, (List.replicate m (Value.int .u8 255))[j]? = some v → w.cell? ((⟨g, 0, none⟩ : Addr).add j) = some v) := by
  intro j v hj
  have hjm : j < m := by
    rcases Nat.lt_or_ge j m with h | h
    · exact h
    · rw [List.getElem?_eq_none (by simpa using h)] at hj; cases hj
  rw [List.getElem?_replicate, if_pos hjm] at hj
  rw [add_plain, Nat.zero_add, cell_of_row w g j R.toArray 5 (0, 0) HR.out, ← hj]
  simp only [List.getElem?_toArray]
  exact Hf.out j (by omega)
theorem copy_fit {k c n : Nat} (hkc : k ≤ c) (hge : c ≤ n) : k + Nat.min k (c - k) ≤ n := by
  have := Nat.min_le_right k (c - k)
  have e : Nat.min k (c - k) = min k (c - k) := rfl
  omega
theorem copy_one (m : Nat) : ∀ v ∈ List.replicate m (Value.int .u8 255), v.oneCell' = true := by
  intro v hv
  rw [List.mem_replicate] at hv
  rw [hv.2]; rfl
theorem copy_step {W w : World} {k n c s : Nat} (HF : Hid (Filled w W.heap.size k n)) (HB : Hid (Below W.heap.size W w)) (hk1 : 1 ≤ s) (hlt : k < c) (hkc : k ≤ c) (hge : c ≤ n) (hs : s ≤ k) :
    ∃ m w4, 1 ≤ m ∧ k + m ≤ c ∧ (Builtin.copy_ #[26, 26] 3 #[.slice (some ⟨W.heap.size, k, none⟩) (c - k) (c - k), .slice (some ⟨W.heap.size, 0, none⟩) s c]).run Tryd.prog w.drew = .ok (.int .i64 (m : Int)) w4 ∧
      Hid (Filled w4 W.heap.size (k + m) n) ∧ Hid (Below W.heap.size W w4) := by
  obtain ⟨R, HR, Hl, Hf⟩ := copy_prep HF hge
  obtain ⟨m, hm⟩ : ∃ m, m = Nat.min s (c - k) := ⟨_, rfl⟩
  have e : Nat.min s (c - k) = min s (c - k) := rfl
  have Hs := copy_src (m := m) HR Hf (by omega)
  have hrun := run_copy_row (P := Tryd.prog) w.drew 26 26 3 5 W.heap.size k (c - k) (c - k) ⟨W.heap.size, 0, none⟩ s c R.toArray 5 (List.replicate m (.int .u8 255)) Tryd.underlying26 u8_size HR.out (by rw [List.length_replicate]; exact hm) Hs.out
    (by rw [List.length_replicate]; simp; have := Hl.out; omega) (copy_one _)
  have e2 : (List.take k R.toArray.toList ++ List.replicate m (Value.int .u8 255) ++ List.drop (k + (List.replicate m (Value.int .u8 255)).length) R.toArray.toList) = splice R k (List.replicate m (.int .u8 255)) := by
    unfold splice; rw [List.append_assoc]
  rw [e2, List.length_replicate] at hrun
  refine ⟨m, w.drew.setRow W.heap.size (splice R k (List.replicate m (.int .u8 255))).toArray, by omega, by omega, hrun, ?_, ?_⟩
  · refine filled_step Hl.out Hf.out (by omega) ?_
    exact setRow_heap w.drew W.heap.size R.toArray (splice R k (List.replicate m (.int .u8 255))).toArray 5 (0, 0) HR.out
  · exact below_setRow HB.out.drew (Nat.le_refl _) _
set_option maxRecDepth 100000 in
theorem repeat_big (g c : Nat) (w : World) (h0 : 1 ≤ c) (h : c ≤ 1048576) (hg : g < w.heap.size) (hc : w.cell? ⟨g, 0, none⟩ = some (.int .u8 255)) (hM : 8192 < c) :
    Calls Tryd.prog 32 #[.slice (some ⟨g, 0, none⟩) 1 1, .int .i64 c] w fun e w' => (∃ v, e = .returned v ∧ Byt w' v (List.replicate c 255)) ∧ Below w.heap.size w w' := by
  obtain ⟨cs, hcall, hge, hmx⟩ := makeNoZero_any c w h
  have z0 : ((c : Int) == 0) = false := by simp; omega
  have z1 : decide ((c : Int) < 0) = false := by simp
  have z8 : decide (8192 < (c : Int)) = true := by simp; omega
  have z9 : decide (9223372036854775807 < (c : Int)) = false := by simp; omega
  have i0 : (0 : Int) ≤ (c : Int) := by omega
  have i1 : (c : Int) ≤ (cs.size : Int) := by omega
  have Hrow := Lib.hid (show ((w.alloc (.cells cs 5)).drewN 2).heap[w.heap.size]? = some (.cells cs.toList.toArray 5 (0, 0)) from heap_alloc_new w _)
  have Hbel := Lib.hid (show Below w.heap.size w ((w.alloc (.cells cs 5)).drewN 2) from below_drewN ((Below.refl _ _).alloc (Nat.le_refl _) _) 2)
  go_enter Tryd.func32, Tryd.ntmps32
  go_wp2_with fail
  refine (mul_one c _ h).mono ?_
  rintro e w' ⟨rfl, rfl⟩
  go_wp2_with (with_reducible refine wpList_copy_splice rfl (.tmp 58) (.tmp 59) 26 26 rfl 5 Tryd.underlying26 u8_size (some ⟨w.heap.size, 0, none⟩) (some ⟨g, 0, none⟩) c c 1 1 rfl rfl w.heap.size 0 cs.toList 5 Hrow.out [.int .u8 255] ?c1 ?c2 ?c3 ?c4 w.heap.size w Hbel.out (Nat.le_refl _) ?_)
  case c1 => simp [Nat.min_def]; omega
  case c2 =>
    intro j v hj
    match j, hj with
    | 0, hj =>
      simp at hj; subst hj
      exact hc
  case c3 => simp; omega
  case c4 => intro v hv; simp at hv; subst hv; rfl
  intro w1 HG1 hB1
  have HF : Hid (Filled w1 w.heap.size (0 + 1) cs.size) := filled_step (by simp) (fun j hj => absurd hj (by omega)) (by omega) HG1.out
  have HB := Lib.hid hB1
  clear hB1 hcall HG1 Hrow Hbel z0 z1 z8 z9
  go_wp2
  go_loopw [10] (fun v wr => ∃ k : Nat, 1 ≤ k ∧ k ≤ c ∧ v = .int .i64 k ∧ Hid (Filled wr w.heap.size k cs.size) ∧ Hid (Below w.heap.size w wr)) (fun v _ => c - (intOf v).toNat)
  case atStart => exact ⟨1, by omega, by omega, rfl, HF, HB⟩
  case round =>
    clear HF HB
    obtain ⟨k, hk1, hkc, rfl, HF, HB⟩ := hrel
    by_cases hlt : k < c
    · have i3 : (0 : Int) ≤ k := by omega
      have i4 : (k : Int) ≤ c := by omega
      have hne : ¬ c = k := by omega
      by_cases hkM : k ≤ 8192
      · obtain ⟨m, w4, hm1, hm2, hrun, HF4, HB4⟩ := copy_step HF HB hk1 hlt hkc hge (Nat.le_refl k)
        go_wp2
        go_region
        go_wp2
        go_roundw
        case rel => exact ⟨k + m, by omega, hm2, by go_num, HF4, HB4⟩
        case measure => simp [intOf]; omega
      · obtain ⟨m, w4, hm1, hm2, hrun, HF4, HB4⟩ := copy_step (s := 8192) HF HB (by omega) hlt hkc hge (by omega)
        have i5 : (8192 : Int) ≤ c := by omega
        go_wp2
        go_region
        go_wp2
        go_roundw
        case rel => exact ⟨k + m, by omega, hm2, by go_num, HF4, HB4⟩
        case measure => simp [intOf]; omega
    · have He := Lib.hid (show k = c by omega)
      go_wp2
      go_ret
      have e := He.out
      subst e
      exact ⟨⟨_, rfl, HF.out.byt (Nat.le_refl _)⟩, HB.out⟩
set_option maxRecDepth 100000 in
theorem repeat_small (g c : Nat) (w : World) (h0 : 1 ≤ c) (h : c ≤ 1048576) (hg : g < w.heap.size) (hc : w.cell? ⟨g, 0, none⟩ = some (.int .u8 255)) (hM : c ≤ 8192) :
    Calls Tryd.prog 32 #[.slice (some ⟨g, 0, none⟩) 1 1, .int .i64 c] w fun e w' => (∃ v, e = .returned v ∧ Byt w' v (List.replicate c 255)) ∧ Below w.heap.size w w' := by
  obtain ⟨cs, hcall, hge, hmx⟩ := makeNoZero_any c w h
  have z0 : ((c : Int) == 0) = false := by simp; omega
  have z1 : decide ((c : Int) < 0) = false := by simp
  have z8 : decide (8192 < (c : Int)) = false := by simp; omega
  have z9 : decide (9223372036854775807 < (c : Int)) = false := by simp; omega
  have i0 : (0 : Int) ≤ (c : Int) := by omega
  have i1 : (c : Int) ≤ (cs.size : Int) := by omega
  have Hrow := Lib.hid (show ((w.alloc (.cells cs 5)).drewN 2).heap[w.heap.size]? = some (.cells cs.toList.toArray 5 (0, 0)) from heap_alloc_new w _)
  have Hbel := Lib.hid (show Below w.heap.size w ((w.alloc (.cells cs 5)).drewN 2) from below_drewN ((Below.refl _ _).alloc (Nat.le_refl _) _) 2)
  go_enter Tryd.func32, Tryd.ntmps32
  go_wp2_with fail
  refine (mul_one c _ h).mono ?_
  rintro e w' ⟨rfl, rfl⟩
  go_wp2_with (with_reducible refine wpList_copy_splice rfl (.tmp 58) (.tmp 59) 26 26 rfl 5 Tryd.underlying26 u8_size (some ⟨w.heap.size, 0, none⟩) (some ⟨g, 0, none⟩) c c 1 1 rfl rfl w.heap.size 0 cs.toList 5 Hrow.out [.int .u8 255] ?c1 ?c2 ?c3 ?c4 w.heap.size w Hbel.out (Nat.le_refl _) ?_)
  case c1 => simp [Nat.min_def]; omega
  case c2 =>
    intro j v hj
    match j, hj with
    | 0, hj =>
      simp at hj; subst hj
      exact hc
  case c3 => simp; omega
  case c4 => intro v hv; simp at hv; subst hv; rfl
  intro w1 HG1 hB1
  have HF : Hid (Filled w1 w.heap.size (0 + 1) cs.size) := filled_step (by simp) (fun j hj => absurd hj (by omega)) (by omega) HG1.out
  have HB := Lib.hid hB1
  clear hB1 hcall HG1 Hrow Hbel z0 z1 z8 z9
  go_wp2
  go_loopw [10] (fun v wr => ∃ k : Nat, 1 ≤ k ∧ k ≤ c ∧ v = .int .i64 k ∧ Hid (Filled wr w.heap.size k cs.size) ∧ Hid (Below w.heap.size w wr)) (fun v _ => c - (intOf v).toNat)
  case atStart => exact ⟨1, by omega, by omega, rfl, HF, HB⟩
  case round =>
    clear HF HB
    obtain ⟨k, hk1, hkc, rfl, HF, HB⟩ := hrel
    by_cases hlt : k < c
    · have i3 : (0 : Int) ≤ k := by omega
      have i4 : (k : Int) ≤ c := by omega
      have hne : ¬ c = k := by omega
      obtain ⟨m, w4, hm1, hm2, hrun, HF4, HB4⟩ := copy_step HF HB hk1 hlt hkc hge (Nat.le_refl k)
      go_wp2
      go_region
      go_wp2
      go_roundw
      case rel => exact ⟨k + m, by omega, hm2, by go_num, HF4, HB4⟩
      case measure => simp [intOf]; omega
    · have He := Lib.hid (show k = c by omega)
      go_wp2
      go_ret
      have e := He.out
      subst e
      exact ⟨⟨_, rfl, HF.out.byt (Nat.le_refl _)⟩, HB.out⟩
theorem repeat_any (g c : Nat) (w : World) (h0 : 1 ≤ c) (h : c ≤ 1048576) (hg : g < w.heap.size) (hc : w.cell? ⟨g, 0, none⟩ = some (.int .u8 255)) :
    Calls Tryd.prog 32 #[.slice (some ⟨g, 0, none⟩) 1 1, .int .i64 c] w fun e w' => (∃ v, e = .returned v ∧ Byt w' v (List.replicate c 255)) ∧ Below w.heap.size w w' := by
  by_cases hM : c ≤ 8192
  · exact repeat_small g c w h0 h hg hc hM
  · exact repeat_big g c w h0 h hg hc (by omega)
theorem repeat_none (g : Nat) (w : World) : Calls Tryd.prog 32 #[.slice (some ⟨g, 0, none⟩) 1 1, .int .i64 0] w fun e w' => (∃ v, e = .returned v ∧ Byt w' v []) ∧ Below w.heap.size w w' := by
  go_enter Tryd.func32, Tryd.ntmps32
  go_wp2
  go_ret
  exact ⟨⟨_, rfl, ⟨_, 0, rfl, by simp, fun h => absurd h (by simp)⟩⟩, (Below.refl _ _).alloc (Nat.le_refl _) _⟩
end Go.Proofs.YtcebockdfkjoiaaDoor
