/- The contracts of package digest's functions. Conditions stand in each theorem. -/
import Derived.Test.YtijbkjkienjdaaaDoorA
namespace Go.Proofs.YtijbkjkienjdaaaDoor
open Go.RowKit
set_option linter.unusedVariables false
set_option maxHeartbeats 400000

/-- A slice of slices of bytes that reads as ls. -/
def Rws (w : World) (v : Value) (ls : List (List UInt8)) : Prop :=
  ∃ A c, v = .slice A ls.length c ∧ (0 < ls.length → ∃ g o, A = some ⟨g, o, none⟩ ∧ g < w.heap.size ∧ ∀ j (hj : j < ls.length), ∃ u, w.cell? ⟨g, o + j, none⟩ = some u ∧ Byt w u ls[j])
theorem Rws.below {w w' : World} {v : Value} {ls : List (List UInt8)} (h : Rws w v ls) (hb : Below w.heap.size w w') : Rws w' v ls := by
  obtain ⟨A, c, rfl, hr⟩ := h
  refine ⟨A, c, rfl, fun hn => ?_⟩
  obtain ⟨g, o, rfl, hg, hc⟩ := hr hn
  refine ⟨g, o, rfl, Nat.lt_of_lt_of_le hg hb.size, fun j hj => ?_⟩
  obtain ⟨u, hu, hB⟩ := hc j hj
  exact ⟨u, (hb.cell hg).trans hu, hB.below hb⟩
def sum32 (s : Nat) (ls : List (List UInt8)) : Nat := ls.foldl upd32 s
def sum16 (s : Nat) (ls : List (List UInt8)) : Nat := ls.foldl upd16 s
theorem sum32_lt {s : Nat} (h : s < 4294967296) (ls : List (List UInt8)) : sum32 s ls < 4294967296 := by
  induction ls generalizing s with
  | nil => exact h
  | cons c l ih => simp only [sum32, List.foldl_cons]; exact ih (upd32_lt h c)
theorem sum16_lt {s : Nat} (h : s < 65536) (ls : List (List UInt8)) : sum16 s ls < 65536 := by
  induction ls generalizing s with
  | nil => exact h
  | cons c l ih => simp only [sum16, List.foldl_cons]; exact ih (upd16_lt h c)
theorem sum32_flat (s : Nat) (ls : List (List UInt8)) : sum32 s ls = upd32 s ls.flatten := by
  induction ls generalizing s with
  | nil => rfl
  | cons c l ih => rw [List.flatten_cons, upd32_append, ← ih]; simp only [sum32, List.foldl_cons]
theorem sum16_flat (s : Nat) (ls : List (List UInt8)) : sum16 s ls = upd16 s ls.flatten := by
  induction ls generalizing s with
  | nil => rfl
  | cons c l ih => rw [List.flatten_cons, upd16_append, ← ih]; simp only [sum16, List.foldl_cons]
theorem sum32_snoc (s : Nat) (ls : List (List UInt8)) (k : Nat) (h : k < ls.length) : sum32 s (ls.take (k + 1)) = upd32 (sum32 s (ls.take k)) ls[k] := by
  rw [List.take_succ_eq_append_getElem h]; simp only [sum32, List.foldl_append, List.foldl_cons, List.foldl_nil]
theorem sum16_snoc (s : Nat) (ls : List (List UInt8)) (k : Nat) (h : k < ls.length) : sum16 s (ls.take (k + 1)) = upd16 (sum16 s (ls.take k)) ls[k] := by
  rw [List.take_succ_eq_append_getElem h]; simp only [sum16, List.foldl_append, List.foldl_cons, List.foldl_nil]
theorem upd32_snoc (s : Nat) (l : List UInt8) (k : Nat) (h : k < l.length) : upd32 s (l.take (k + 1)) = step32 (upd32 s (l.take k)) l[k].toNat := by
  rw [List.take_succ_eq_append_getElem h]; simp only [upd32, List.foldl_append, List.foldl_cons, List.foldl_nil]
theorem upd16_snoc (s : Nat) (l : List UInt8) (k : Nat) (h : k < l.length) : upd16 s (l.take (k + 1)) = step16 (upd16 s (l.take k)) l[k].toNat := by
  rw [List.take_succ_eq_append_getElem h]; simp only [upd16, List.foldl_append, List.foldl_cons, List.foldl_nil]

set_option maxRecDepth 100000 in
theorem update32_any (s : Nat) (v : Value) (ls : List (List UInt8)) (w : World) (hT : Tabs w) (hs : s < 4294967296) (h : Rws w v ls) (hl : ls.length ≤ maxLen) (hll : ∀ l ∈ ls, l.length ≤ maxLen) :
    Calls Tryd.prog 25 #[.int .u32 s, .func (.func 26) #[] #[], v] w fun e w' => e = .returned (.int .u32 (sum32 s ls : Nat)) ∧ w = w' := by
  unfold maxLen at hl hll
  obtain ⟨A, c, rfl, hr⟩ := h
  have Hr := Lib.hid hr; clear hr
  have HT := Lib.hid hT; clear hT
  have Hll := Lib.hid hll; clear hll
  go_enter Tryd.func25, Tryd.ntmps25
  go_wp2
  go_loop [0, 13] (fun t i => ∃ k : Nat, k ≤ ls.length ∧ i = .int .i64 k ∧ t = .int .u32 (sum32 s (ls.take k) : Nat)) (fun _ i => ls.length - (intOf i).toNat)
  case atStart => exact ⟨0, Nat.zero_le _, rfl, rfl⟩
  case round =>
    obtain ⟨k, hk, rfl, rfl⟩ := hrel
    by_cases hlt : k < ls.length
    · obtain ⟨g, o, rfl, hg, hc⟩ := Hr.out (by omega)
      obtain ⟨u, hu, hB⟩ := hc k hlt
      have hlk := Hll.out ls[k] (List.getElem_mem hlt)
      have Hsn := Lib.hid (sum32_snoc s ls k hlt)
      have hsk := sum32_lt hs (ls.take k)
      generalize sum32 s (ls.take k) = t at *
      obtain ⟨l, hl'⟩ : ∃ l, l = ls[k] := ⟨_, rfl⟩
      rw [← hl'] at hB hlk
      have Hl' := Lib.hid hl'; clear hl' hc
      obtain ⟨A', c', rfl, hc', hr'⟩ := hB
      have Hr' := Lib.hid hr'; clear hr'
      go_wp2
      go_loop [0, 19] (fun t' i => ∃ j : Nat, j ≤ l.length ∧ i = .int .i64 j ∧ t' = .int .u32 (upd32 t (l.take j) : Nat)) (fun _ i => l.length - (intOf i).toNat)
      case atStart => exact ⟨0, Nat.zero_le _, rfl, rfl⟩
      case round =>
        obtain ⟨j, hj, rfl, rfl⟩ := hrel
        by_cases hjl : j < l.length
        · obtain ⟨g', o', rfl, hg', hcell⟩ := Hr'.out (by omega)
          have hck := hcell j hjl
          have Hs2 := Lib.hid (upd32_snoc t l j hjl)
          have hlt2 := upd32_lt hsk (l.take j)
          generalize upd32 t (l.take j) = q at *
          clear hcell
          go_wp2_with ((go_at_call 26; with_reducible refine (step32_any _ _ _ HT.out (by omega)).mono ?_); rintro e w' ⟨rfl, rfl⟩)
          go_round
          case rel => exact ⟨j + 1, by omega, by go_num, by rw [Hs2.out]⟩
          case measure => simp [intOf]; omega
        · have e : j = l.length := by omega
          have He := Lib.hid e; clear e
          go_wp2
          go_round
          case rel =>
            refine ⟨k + 1, by omega, by go_num, ?_⟩
            rw [Hsn.out, ← Hl'.out, List.take_of_length_le (by have := He.out; omega)]
          case measure => simp [intOf]; omega
    · have e : k = ls.length := by omega
      have He := Lib.hid e; clear e
      go_wp2
      go_ret
      exact ⟨ret_int (by rw [List.take_of_length_le (by have := He.out; omega)]), rfl⟩
set_option maxRecDepth 100000 in
theorem update16_any (s : Nat) (v : Value) (ls : List (List UInt8)) (w : World) (hT : Tabs w) (hs : s < 65536) (h : Rws w v ls) (hl : ls.length ≤ maxLen) (hll : ∀ l ∈ ls, l.length ≤ maxLen) :
    Calls Tryd.prog 27 #[.int .u16 s, .func (.func 28) #[] #[], v] w fun e w' => e = .returned (.int .u16 (sum16 s ls : Nat)) ∧ w = w' := by
  unfold maxLen at hl hll
  obtain ⟨A, c, rfl, hr⟩ := h
  have Hr := Lib.hid hr; clear hr
  have HT := Lib.hid hT; clear hT
  have Hll := Lib.hid hll; clear hll
  go_enter Tryd.func27, Tryd.ntmps27
  go_wp2
  go_loop [0, 13] (fun t i => ∃ k : Nat, k ≤ ls.length ∧ i = .int .i64 k ∧ t = .int .u16 (sum16 s (ls.take k) : Nat)) (fun _ i => ls.length - (intOf i).toNat)
  case atStart => exact ⟨0, Nat.zero_le _, rfl, rfl⟩
  case round =>
    obtain ⟨k, hk, rfl, rfl⟩ := hrel
    by_cases hlt : k < ls.length
    · obtain ⟨g, o, rfl, hg, hc⟩ := Hr.out (by omega)
      obtain ⟨u, hu, hB⟩ := hc k hlt
      have hlk := Hll.out ls[k] (List.getElem_mem hlt)
      have Hsn := Lib.hid (sum16_snoc s ls k hlt)
      have hsk := sum16_lt hs (ls.take k)
      generalize sum16 s (ls.take k) = t at *
      obtain ⟨l, hl'⟩ : ∃ l, l = ls[k] := ⟨_, rfl⟩
      rw [← hl'] at hB hlk
      have Hl' := Lib.hid hl'; clear hl' hc
      obtain ⟨A', c', rfl, hc', hr'⟩ := hB
      have Hr' := Lib.hid hr'; clear hr'
      go_wp2
      go_loop [0, 19] (fun t' i => ∃ j : Nat, j ≤ l.length ∧ i = .int .i64 j ∧ t' = .int .u16 (upd16 t (l.take j) : Nat)) (fun _ i => l.length - (intOf i).toNat)
      case atStart => exact ⟨0, Nat.zero_le _, rfl, rfl⟩
      case round =>
        obtain ⟨j, hj, rfl, rfl⟩ := hrel
        by_cases hjl : j < l.length
        · obtain ⟨g', o', rfl, hg', hcell⟩ := Hr'.out (by omega)
          have hck := hcell j hjl
          have Hs2 := Lib.hid (upd16_snoc t l j hjl)
          have hlt2 := upd16_lt hsk (l.take j)
          generalize upd16 t (l.take j) = q at *
          clear hcell
          go_wp2_with ((go_at_call 28; with_reducible refine (step16_any _ _ _ HT.out (by omega)).mono ?_); rintro e w' ⟨rfl, rfl⟩)
          go_round
          case rel => exact ⟨j + 1, by omega, by go_num, by rw [Hs2.out]⟩
          case measure => simp [intOf]; omega
        · have e : j = l.length := by omega
          have He := Lib.hid e; clear e
          go_wp2
          go_round
          case rel =>
            refine ⟨k + 1, by omega, by go_num, ?_⟩
            rw [Hsn.out, ← Hl'.out, List.take_of_length_le (by have := He.out; omega)]
          case measure => simp [intOf]; omega
    · have e : k = ls.length := by omega
      have He := Lib.hid e; clear e
      go_wp2
      go_ret
      exact ⟨ret_int (by rw [List.take_of_length_le (by have := He.out; omega)]), rfl⟩

theorem upd32c (s : Nat) (v : Value) (ls : List (List UInt8)) (w : World) (hT : Tabs w) (hs : s < 4294967296) (h : Rws w v ls) (hl : ls.length ≤ maxLen) (hll : ∀ l ∈ ls, l.length ≤ maxLen) :
    Calls Tryd.prog 23 #[.int .u32 s, v] w fun e w' => e = .returned (.int .u32 (sum32 s ls : Nat)) ∧ w = w' := by
  have HC := Lib.hid (update32_any s v ls w hT hs h hl hll)
  clear hT h hl hll
  go_enter Tryd.func23, Tryd.ntmps23
  go_wp2_with ((go_at_call 25; with_reducible refine HC.out.mono ?_); rintro e w' ⟨rfl, rfl⟩)
  go_ret
  exact ⟨rfl, rfl⟩
theorem upd16c (s : Nat) (v : Value) (ls : List (List UInt8)) (w : World) (hT : Tabs w) (hs : s < 65536) (h : Rws w v ls) (hl : ls.length ≤ maxLen) (hll : ∀ l ∈ ls, l.length ≤ maxLen) :
    Calls Tryd.prog 24 #[.int .u16 s, v] w fun e w' => e = .returned (.int .u16 (sum16 s ls : Nat)) ∧ w = w' := by
  have HC := Lib.hid (update16_any s v ls w hT hs h hl hll)
  clear hT h hl hll
  go_enter Tryd.func24, Tryd.ntmps24
  go_wp2_with ((go_at_call 27; with_reducible refine HC.out.mono ?_); rintro e w' ⟨rfl, rfl⟩)
  go_ret
  exact ⟨rfl, rfl⟩
theorem Sum32_any (v : Value) (ls : List (List UInt8)) (w : World) (hT : Tabs w) (h : Rws w v ls) (hl : ls.length ≤ maxLen) (hll : ∀ l ∈ ls, l.length ≤ maxLen) :
    Calls Tryd.prog 21 #[v] w fun e w' => e = .returned (.int .u32 (crc32 ls.flatten : Nat)) ∧ w = w' := by
  have HC := Lib.hid (show Calls Tryd.prog 23 #[.int .u32 4294967295, v] w fun e w' => e = .returned (.int .u32 (sum32 4294967295 ls : Nat)) ∧ w = w' from upd32c 4294967295 v ls w hT (by decide) h hl hll)
  clear hT h hl hll
  have hq := sum32_lt (s := 4294967295) (by decide) ls
  have Hq := Lib.hid (show crc32 ls.flatten = 4294967295 ^^^ sum32 4294967295 ls by rw [sum32_flat]; rfl)
  generalize sum32 4294967295 ls = q at *
  have e1 : bits .xor .u32 4294967295 (q : Int) = ((4294967295 ^^^ q : Nat) : Int) := u32_xor_nat 4294967295 q (by decide) hq
  go_enter Tryd.func21, Tryd.ntmps21
  go_wp2_with ((go_at_call 23; with_reducible refine HC.out.mono ?_); rintro e w' ⟨rfl, rfl⟩)
  go_ret
  exact ⟨ret_int (by rw [Hq.out]; exact e1), rfl⟩
theorem Sum16_any (v : Value) (ls : List (List UInt8)) (w : World) (hT : Tabs w) (h : Rws w v ls) (hl : ls.length ≤ maxLen) (hll : ∀ l ∈ ls, l.length ≤ maxLen) :
    Calls Tryd.prog 22 #[v] w fun e w' => e = .returned (.int .u16 (crc16 ls.flatten : Nat)) ∧ w = w' := by
  have HC := Lib.hid (show Calls Tryd.prog 24 #[.int .u16 0, v] w fun e w' => e = .returned (.int .u16 (sum16 0 ls : Nat)) ∧ w = w' from upd16c 0 v ls w hT (by decide) h hl hll)
  clear hT h hl hll
  have Hq := Lib.hid (show crc16 ls.flatten = sum16 0 ls by rw [sum16_flat]; rfl)
  generalize sum16 0 ls = q at *
  go_enter Tryd.func22, Tryd.ntmps22
  go_wp2_with ((go_at_call 24; with_reducible refine HC.out.mono ?_); rintro e w' ⟨rfl, rfl⟩)
  go_ret
  exact ⟨ret_int (by rw [Hq.out]), rfl⟩
theorem rws_one (w : World) (v : Value) (l : List UInt8) (h : Byt w v l) : Rws (w.alloc (.cells #[v] 22)) (.slice (some ⟨w.heap.size, 0, none⟩) 1 1) [l] := by
  refine ⟨_, _, rfl, fun _ => ⟨w.heap.size, 0, rfl, by simp, fun j hj => ?_⟩⟩
  have e : j = 0 := by simp at hj; omega
  subst e
  refine ⟨v, ?_, h.below ((Below.refl _ _).alloc (Nat.le_refl _) _)⟩
  rw [Nat.zero_add, cell_of_row _ w.heap.size 0 _ 22 (0, 0) (heap_alloc_new w _)]; rfl
theorem CRC32C_any (v : Value) (l : List UInt8) (w : World) (hT : Tabs w) (h : Byt w v l) (hl : l.length ≤ maxLen) :
    Calls Tryd.prog 12 #[v] w fun e w' => e = .returned (.int .u32 (crc32 l : Nat)) ∧ Below w.heap.size w w' := by
  have HC := Lib.hid (Sum32_any _ [l] _ (hT.below ((Below.refl _ _).alloc (Nat.le_refl _) _)) (rws_one w v l h) (by unfold maxLen; simp) (by simpa using hl))
  clear hT hl
  obtain ⟨A, c, rfl, -, -⟩ := h
  go_enter Tryd.func12, Tryd.ntmps12
  go_wp2_with ((go_at_call 21; with_reducible refine HC.out.mono ?_); rintro e w' ⟨rfl, rfl⟩)
  go_ret
  exact ⟨ret_int rfl, (Below.refl _ _).alloc (Nat.le_refl _) _⟩
theorem CRC16_any (v : Value) (l : List UInt8) (w : World) (hT : Tabs w) (h : Byt w v l) (hl : l.length ≤ maxLen) :
    Calls Tryd.prog 15 #[v] w fun e w' => e = .returned (.int .u16 (crc16 l : Nat)) ∧ Below w.heap.size w w' := by
  have HC := Lib.hid (Sum16_any _ [l] _ (hT.below ((Below.refl _ _).alloc (Nat.le_refl _) _)) (rws_one w v l h) (by unfold maxLen; simp) (by simpa using hl))
  clear hT hl
  obtain ⟨A, c, rfl, -, -⟩ := h
  go_enter Tryd.func15, Tryd.ntmps15
  go_wp2_with ((go_at_call 22; with_reducible refine HC.out.mono ?_); rintro e w' ⟨rfl, rfl⟩)
  go_ret
  exact ⟨ret_int rfl, (Below.refl _ _).alloc (Nat.le_refl _) _⟩
theorem Update32_any (s : Nat) (v : Value) (l : List UInt8) (w : World) (hT : Tabs w) (hs : s < 4294967296) (h : Byt w v l) (hl : l.length ≤ maxLen) :
    Calls Tryd.prog 17 #[.int .u32 s, v] w fun e w' => e = .returned (.int .u32 (upd32 s l : Nat)) ∧ Below w.heap.size w w' := by
  have HC := Lib.hid (upd32c s _ [l] _ (hT.below ((Below.refl _ _).alloc (Nat.le_refl _) _)) hs (rws_one w v l h) (by unfold maxLen; simp) (by simpa using hl))
  have Hf := Lib.hid (show sum32 s [l] = upd32 s l by simp only [sum32, List.foldl_cons, List.foldl_nil])
  clear hT hl
  obtain ⟨A, c, rfl, -, -⟩ := h
  go_enter Tryd.func17, Tryd.ntmps17
  go_wp2_with ((go_at_call 23; with_reducible refine HC.out.mono ?_); rintro e w' ⟨rfl, rfl⟩)
  go_ret
  exact ⟨ret_int (by rw [Hf.out]), (Below.refl _ _).alloc (Nat.le_refl _) _⟩
theorem Update16_any (s : Nat) (v : Value) (l : List UInt8) (w : World) (hT : Tabs w) (hs : s < 65536) (h : Byt w v l) (hl : l.length ≤ maxLen) :
    Calls Tryd.prog 19 #[.int .u16 s, v] w fun e w' => e = .returned (.int .u16 (upd16 s l : Nat)) ∧ Below w.heap.size w w' := by
  have HC := Lib.hid (upd16c s _ [l] _ (hT.below ((Below.refl _ _).alloc (Nat.le_refl _) _)) hs (rws_one w v l h) (by unfold maxLen; simp) (by simpa using hl))
  have Hf := Lib.hid (show sum16 s [l] = upd16 s l by simp only [sum16, List.foldl_cons, List.foldl_nil])
  clear hT hl
  obtain ⟨A, c, rfl, -, -⟩ := h
  go_enter Tryd.func19, Tryd.ntmps19
  go_wp2_with ((go_at_call 24; with_reducible refine HC.out.mono ?_); rintro e w' ⟨rfl, rfl⟩)
  go_ret
  exact ⟨ret_int (by rw [Hf.out]), (Below.refl _ _).alloc (Nat.le_refl _) _⟩
end Go.Proofs.YtijbkjkienjdaaaDoor
