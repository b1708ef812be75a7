/- The contracts of digest.Sum32 and of the reference's CRC32C. Conditions stand in each theorem. -/
import Derived.Test.YtcebockdfkjoiaaDoorA
import Derived.Lib.LaidTab
import Derived.Laws.BitsAll
import Derived.WalkSpells
import Derived.Lib.SlBytesConst
namespace Go.Proofs.YtcebockdfkjoiaaDoor
open Go.RowKit
set_option linter.unusedVariables false
set_option maxHeartbeats 400000

theorem and15_32 (x : Nat) (h : x < 4294967296) : bits .and .u32 (x : Int) 15 = ((x % 16 : Nat) : Int) := by
  rw [show (15 : Int) = ((15 : Nat) : Int) by rfl, u32_and_nat x 15 h (by decide), show (15 : Nat) = 2 ^ 4 - 1 by decide, Nat.and_two_pow_sub_one_eq_mod]
/-- The table lies as the program's text lays it. -/
structure Tabs (w : World) : Prop where
  a : ∀ i : Nat, i < 16 → w.cell? ⟨2, i, none⟩ = some (.int .u32 (it f32 4 i : Nat))
  size : 3 ≤ w.heap.size
theorem Tabs.below {w w' : World} (h : Tabs w) (hb : Below w.heap.size w w') : Tabs w' :=
  ⟨fun i hi => (hb.cell (p := ⟨2, i, none⟩) (by have := h.size; show 2 < _; omega)).trans (h.a i hi), Nat.le_trans h.size hb.size⟩
theorem step32_any (s : Nat) (c : UInt8) (w : World) (h : Tabs w) (hs : s < 4294967296) : Calls Tryd.prog 63 #[.int .u32 s, .int .u8 (c.toNat : Int)] w fun e w' => e = .returned (.int .u32 (step32 s c.toNat : Nat)) ∧ w = w' := by
  have hc := byte_lt c
  have HT := Lib.hid (table32 s c.toNat)
  have e1 := u32_xor_nat s c.toNat hs (by omega)
  have hx : s ^^^ c.toNat < 4294967296 := Nat.xor_lt_two_pow (n := 32) hs (by omega)
  generalize s ^^^ c.toNat = x at *
  have t1 := h.a (x % 16) (by omega)
  have e2 := and15_32 x hx
  have ht1 : it f32 4 (x % 16) < 4294967296 := it32_lt (by omega)
  have hr : x % 16 < 16 := by omega
  generalize it f32 4 (x % 16) = t at *
  have e3 : bits .xor .u32 ((x : Int) / 16) (t : Int) = ((x / 16 ^^^ t : Nat) : Int) := u32_xor_nat (x / 16) t (by omega) (by omega)
  have hy : x / 16 ^^^ t < 4294967296 := Nat.xor_lt_two_pow (n := 32) (by omega) (by omega)
  generalize x / 16 ^^^ t = y at *
  have t2 := h.a (y % 16) (by omega)
  have e4 := and15_32 y hy
  have ht2 : it f32 4 (y % 16) < 4294967296 := it32_lt (by omega)
  have hr2 : y % 16 < 16 := by omega
  generalize it f32 4 (y % 16) = u at *
  have e5 : bits .xor .u32 ((y : Int) / 16) (u : Int) = ((y / 16 ^^^ u : Nat) : Int) := u32_xor_nat (y / 16) u (by omega) (by omega)
  rw [HT.out] at e5
  generalize x % 16 = r at *
  generalize y % 16 = r2 at *
  have hr' : (r : Int) < 16 := by omega
  have hr2' : (r2 : Int) < 16 := by omega
  have hr0 : (0 : Int) ≤ r := by omega
  have hr20 : (0 : Int) ≤ r2 := by omega
  clear HT h
  go_enter Tryd.func63, Tryd.ntmps63
  go_wp2
  go_ret
  exact ⟨rfl, rfl⟩
/-- A slice of slices of bytes that reads as ls. -/
def Rws (w : World) (v : Value) (ls : List (List UInt8)) : Prop :=
  ∃ A c, v = .slice A ls.length c ∧ (0 < ls.length → ∃ g o, A = some ⟨g, o, none⟩ ∧ g < w.heap.size ∧ ∀ j (hj : j < ls.length), ∃ u, w.cell? ⟨g, o + j, none⟩ = some u ∧ Byt w u ls[j])
theorem Rws.below {w w' : World} {v : Value} {ls : List (List UInt8)} (h : Rws w v ls) (hb : Below w.heap.size w w') : Rws w' v ls := by
  obtain ⟨A, c, rfl, hr⟩ := h
  refine ⟨A, c, rfl, fun hn => ?_⟩
  obtain ⟨g, o, rfl, hg, hc⟩ := hr hn
  refine ⟨g, o, rfl, Nat.lt_of_lt_of_le hg hb.size, fun j hj => ?_⟩
  obtain ⟨u, hu, hB⟩ := hc j hj
  exact ⟨u, (hb.cell hg).trans hu, hB.below hb⟩
def sum32 (s : Nat) (ls : List (List UInt8)) : Nat := ls.foldl upd32 s
theorem sum32_lt {s : Nat} (h : s < 4294967296) (ls : List (List UInt8)) : sum32 s ls < 4294967296 := by
  induction ls generalizing s with
  | nil => exact h
  | cons c l ih => simp only [sum32, List.foldl_cons]; exact ih (upd32_lt h c)
theorem sum32_flat (s : Nat) (ls : List (List UInt8)) : sum32 s ls = upd32 s ls.flatten := by
  induction ls generalizing s with
  | nil => rfl
  | cons c l ih => rw [List.flatten_cons, upd32_append, ← ih]; simp only [sum32, List.foldl_cons]
theorem sum32_snoc (s : Nat) (ls : List (List UInt8)) (k : Nat) (h : k < ls.length) : sum32 s (ls.take (k + 1)) = upd32 (sum32 s (ls.take k)) ls[k] := by
  rw [List.take_succ_eq_append_getElem h]; simp only [sum32, List.foldl_append, List.foldl_cons, List.foldl_nil]
set_option maxRecDepth 100000 in
theorem update32_any (s : Nat) (v : Value) (ls : List (List UInt8)) (w : World) (hT : Tabs w) (hs : s < 4294967296) (h : Rws w v ls) (hl : ls.length ≤ maxLen) (hll : ∀ l ∈ ls, l.length ≤ maxLen) :
    Calls Tryd.prog 62 #[.int .u32 s, .func (.func 63) #[] #[], v] w fun e w' => e = .returned (.int .u32 (sum32 s ls : Nat)) ∧ w = w' := by
  unfold maxLen at hl hll
  obtain ⟨A, c, rfl, hr⟩ := h
  have Hr := Lib.hid hr; clear hr
  have HT := Lib.hid hT; clear hT
  have Hll := Lib.hid hll; clear hll
  go_enter Tryd.func62, Tryd.ntmps62
  go_wp2
  go_loop [0, 13] (fun t i => ∃ k : Nat, k ≤ ls.length ∧ i = .int .i64 k ∧ t = .int .u32 (sum32 s (ls.take k) : Nat)) (fun _ i => ls.length - (intOf i).toNat)
  case atStart => exact ⟨0, Nat.zero_le _, rfl, rfl⟩
  case round =>
    obtain ⟨k, hk, rfl, rfl⟩ := hrel
    by_cases hlt : k < ls.length
    · obtain ⟨g, o, rfl, hg, hc⟩ := Hr.out (by omega)
      obtain ⟨u, hu, hB⟩ := hc k hlt
      have hlk := Hll.out ls[k] (List.getElem_mem hlt)
      have Hsn := Lib.hid (sum32_snoc s ls k hlt)
      have hsk := sum32_lt hs (ls.take k)
      generalize sum32 s (ls.take k) = t at *
      obtain ⟨l, hl'⟩ : ∃ l, l = ls[k] := ⟨_, rfl⟩
      rw [← hl'] at hB hlk
      have Hl' := Lib.hid hl'; clear hl' hc
      obtain ⟨A', c', rfl, hc', hr'⟩ := hB
      have Hr' := Lib.hid hr'; clear hr'
      go_wp2
      go_loop [0, 19] (fun t' i => ∃ j : Nat, j ≤ l.length ∧ i = .int .i64 j ∧ t' = .int .u32 (upd32 t (l.take j) : Nat)) (fun _ i => l.length - (intOf i).toNat)
      case atStart => exact ⟨0, Nat.zero_le _, rfl, rfl⟩
      case round =>
        obtain ⟨j, hj, rfl, rfl⟩ := hrel
        by_cases hjl : j < l.length
        · obtain ⟨g', o', rfl, hg', hcell⟩ := Hr'.out (by omega)
          have hck := hcell j hjl
          have Hs2 := Lib.hid (upd32_snoc t l j hjl)
          have hlt2 := upd32_lt hsk (l.take j)
          generalize upd32 t (l.take j) = q at *
          clear hcell
          go_wp2_with ((go_at_call 63; with_reducible refine (step32_any _ _ _ HT.out (by omega)).mono ?_); rintro e w' ⟨rfl, rfl⟩)
          go_round
          case rel => exact ⟨j + 1, by omega, by go_num, by rw [Hs2.out]⟩
          case measure => simp [intOf]; omega
        · have e : j = l.length := by omega
          have He := Lib.hid e; clear e
          go_wp2
          go_round
          case rel =>
            refine ⟨k + 1, by omega, by go_num, ?_⟩
            rw [Hsn.out, ← Hl'.out, List.take_of_length_le (by have := He.out; omega)]
          case measure => simp [intOf]; omega
    · have e : k = ls.length := by omega
      have He := Lib.hid e; clear e
      go_wp2
      go_ret
      exact ⟨ret_int (by rw [List.take_of_length_le (by have := He.out; omega)]), rfl⟩
theorem upd32c (s : Nat) (v : Value) (ls : List (List UInt8)) (w : World) (hT : Tabs w) (hs : s < 4294967296) (h : Rws w v ls) (hl : ls.length ≤ maxLen) (hll : ∀ l ∈ ls, l.length ≤ maxLen) :
    Calls Tryd.prog 54 #[.int .u32 s, v] w fun e w' => e = .returned (.int .u32 (sum32 s ls : Nat)) ∧ w = w' := by
  have HC := Lib.hid (update32_any s v ls w hT hs h hl hll)
  clear hT h hl hll
  go_enter Tryd.func54, Tryd.ntmps54
  go_wp2_with ((go_at_call 62; with_reducible refine HC.out.mono ?_); rintro e w' ⟨rfl, rfl⟩)
  go_ret
  exact ⟨rfl, rfl⟩
theorem Sum32_any (v : Value) (ls : List (List UInt8)) (w : World) (hT : Tabs w) (h : Rws w v ls) (hl : ls.length ≤ maxLen) (hll : ∀ l ∈ ls, l.length ≤ maxLen) :
    Calls Tryd.prog 40 #[v] w fun e w' => e = .returned (.int .u32 (crc32 ls.flatten : Nat)) ∧ w = w' := by
  have HC := Lib.hid (show Calls Tryd.prog 54 #[.int .u32 4294967295, v] w fun e w' => e = .returned (.int .u32 (sum32 4294967295 ls : Nat)) ∧ w = w' from upd32c 4294967295 v ls w hT (by decide) h hl hll)
  clear hT h hl hll
  have hq := sum32_lt (s := 4294967295) (by decide) ls
  have Hq := Lib.hid (show crc32 ls.flatten = 4294967295 ^^^ sum32 4294967295 ls by rw [sum32_flat]; rfl)
  generalize sum32 4294967295 ls = q at *
  have e1 : bits .xor .u32 4294967295 (q : Int) = ((4294967295 ^^^ q : Nat) : Int) := u32_xor_nat 4294967295 q (by decide) hq
  go_enter Tryd.func40, Tryd.ntmps40
  go_wp2_with ((go_at_call 54; with_reducible refine HC.out.mono ?_); rintro e w' ⟨rfl, rfl⟩)
  go_ret
  exact ⟨ret_int (by rw [Hq.out]; exact e1), rfl⟩
set_option maxRecDepth 100000 in
theorem refUpdate32 (s : Nat) (v : Value) (l : List UInt8) (w : World) (hs : s < 4294967296) (h : Byt w v l) (hl : l.length ≤ maxLen) :
    Calls Tryd.prog 38 #[.int .u32 s, v] w fun e w' => e = .returned (.int .u32 (upd32 s l : Nat)) ∧ w = w' := by
  unfold maxLen at hl
  obtain ⟨A, c, rfl, hc, hr⟩ := h
  have Hr := Lib.hid hr; clear hr
  go_enter Tryd.func38, Tryd.ntmps38
  go_wp2
  go_loop [0, 5] (fun t i => ∃ k : Nat, k ≤ l.length ∧ i = .int .i64 k ∧ t = .int .u32 (upd32 s (l.take k) : Nat)) (fun _ i => l.length - (intOf i).toNat)
  case atStart => exact ⟨0, Nat.zero_le _, rfl, rfl⟩
  case round =>
    obtain ⟨k, hk, rfl, rfl⟩ := hrel
    by_cases hlt : k < l.length
    · obtain ⟨g, o, rfl, hg, hcell⟩ := Hr.out (by omega)
      have hck := hcell k hlt
      have Hs2 := Lib.hid (upd32_snoc s l k hlt)
      have hlt2 := upd32_lt hs (l.take k)
      have hb := byte_lt l[k]
      generalize upd32 s (l.take k) = q at *
      generalize l[k].toNat = b at *
      have e1 := u32_xor_nat q b hlt2 (by omega)
      have hx : q ^^^ b < 4294967296 := Nat.xor_lt_two_pow (n := 32) hlt2 (by omega)
      have i0 : (0 : Int) ≤ k := by omega
      have i1 : (k : Int) < l.length := by omega
      clear hcell
      generalize hxe : q ^^^ b = x at *
      have Hxe := Lib.hid hxe; clear hxe
      go_wp2
      clear e1
      go_loop [0, 6] (fun t' i => ∃ j : Nat, j ≤ 8 ∧ i = .int .i64 j ∧ t' = .int .u32 (it f32 j x : Nat)) (fun _ i => 8 - (intOf i).toNat)
      case atStart => exact ⟨0, Nat.zero_le _, rfl, rfl⟩
      case round =>
        obtain ⟨j, hj, rfl, rfl⟩ := hrel
        by_cases hj8 : j < 8
        · have Hn := Lib.hid (it32_next j x)
          have hlt3 := it32_lt (n := j) hx
          generalize it f32 j x = y at *
          have e2 : bits .xor .u32 ((y : Int) / 2) 2197175160 = ((y / 2 ^^^ 2197175160 : Nat) : Int) := u32_xor_nat (y / 2) 2197175160 (by omega) (by decide)
          by_cases hodd : y % 2 = 1
          · have hod : (y : Int) % 2 = 1 := by omega
            have He := Lib.hid hodd; clear hodd
            go_wp2
            go_round
            case rel => exact ⟨j + 1, by omega, by go_num, by rw [Hn.out, if_pos He.out]⟩
            case measure => simp [intOf]; omega
          · have hod : ((y : Int) % 2 == 1) = false := by simp; omega
            have hod2 : ¬ (y : Int) % 2 = 1 := by omega
            have He := Lib.hid hodd; clear hodd
            go_wp2
            go_round
            case rel => exact ⟨j + 1, by omega, by go_num, by rw [Hn.out, if_neg He.out]; rfl⟩
            case measure => simp [intOf]; omega
        · have e : j = 8 := by omega
          have He := Lib.hid e; clear e
          go_wp2
          go_round
          case rel => exact ⟨k + 1, by omega, by go_num, by rw [Hs2.out, He.out]; unfold step32; rw [Hxe.out]⟩
          case measure => simp [intOf]; omega
    · have e : k = l.length := by omega
      have He := Lib.hid e; clear e
      go_wp2
      go_ret
      exact ⟨ret_int (by rw [List.take_of_length_le (by have := He.out; omega)]), rfl⟩
theorem refCRC32 (v : Value) (l : List UInt8) (w : World) (h : Byt w v l) (hl : l.length ≤ maxLen) :
    Calls Tryd.prog 26 #[v] w fun e w' => e = .returned (.int .u32 (crc32 l : Nat)) ∧ w = w' := by
  have HC := Lib.hid (show Calls Tryd.prog 38 #[.int .u32 4294967295, v] w fun e w' => e = .returned (.int .u32 (upd32 4294967295 l : Nat)) ∧ w = w' from refUpdate32 4294967295 v l w (by decide) h hl)
  have hq := upd32_lt (s := 4294967295) (by decide) l
  have Hq := Lib.hid (show crc32 l = 4294967295 ^^^ upd32 4294967295 l from rfl)
  clear h hl
  generalize upd32 4294967295 l = q at *
  have e1 : bits .xor .u32 4294967295 (q : Int) = ((4294967295 ^^^ q : Nat) : Int) := u32_xor_nat 4294967295 q (by decide) hq
  go_enter Tryd.func26, Tryd.ntmps26
  go_wp2_with ((go_at_call 38; with_reducible refine HC.out.mono ?_); rintro e w' ⟨rfl, rfl⟩)
  go_ret
  exact ⟨ret_int (by rw [Hq.out]), rfl⟩
end Go.Proofs.YtcebockdfkjoiaaDoor
