/- The reference's Read and Write. Conditions stand in each theorem. -/
import Derived.Test.YtmnlkejhhdbhlaaRA
import Derived.Deep.CutBlock
import Derived.Laws.CopyRow
namespace Go.Proofs.Ytmnlkejhhdbhlaa
open Go.RowKit
set_option linter.unusedVariables false
set_option maxHeartbeats 4000000
set_option maxRecDepth 100000
theorem byt_cap {w : World} {A : Option Addr} {n c : Nat} {l : List UInt8} (h : Byt w (.slice A n c) l) : n ≤ c := by
  obtain ⟨A1, c1, e, h2, _⟩ := h
  simp only [Value.slice.injEq] at e
  obtain ⟨rfl, rfl, rfl⟩ := e
  exact h2
/-- A part of a slice of bytes. -/
theorem sub_run (A : Option Addr) (n c lo hi : Nat) (h1 : lo ≤ hi) (h2 : hi ≤ n) (hc : n ≤ c) :
    ∃ A' c', (∀ W : World, (Instr.slice 29 (.slice A n c) (some (.int .i64 (lo : Int))) (some (.int .i64 (hi : Int))) none).run Try.prog W = .ok (.slice A' (hi - lo) c') W) ∧ ∀ (W : World) (l : List UInt8), Byt W (.slice A n c) l → Byt W (.slice A' (hi - lo) c') ((l.take hi).drop lo) := by
  obtain ⟨i0, hi0, hz0, hz1, hz2⟩ := info_parts u8_info
  refine ⟨if c = lo then A else A.map (·.add lo), c - lo, fun W => ?_, fun W l h => ?_⟩
  · rw [run_slice_lh (P := Try.prog) (w := W) (t := 29) (a := A) (len := n) (cap := c) (ht := under29e) .i64 .i64 (lo : Int) (hi : Int) (by omega) (by omega) (by omega)]
    simp [sizeOf, typeInfo, elem29, hi0, hz1, sliced]
  · have hn := h.len
    have hlen : ((l.take hi).drop lo).length = hi - lo := by simp; omega
    obtain ⟨A1, c1, e, _, hr⟩ := h
    simp only [Value.slice.injEq] at e
    obtain ⟨rfl, rfl, rfl⟩ := e
    refine ⟨_, _, by rw [hlen], by omega, fun h0 => ?_⟩
    rw [hlen] at h0
    obtain ⟨g, o, rfl, hg, hcell⟩ := hr (by omega)
    refine ⟨g, o + lo, by rw [if_neg (by omega)]; simp [add_plain], hg, fun j hj => ?_⟩
    rw [hlen] at hj
    rw [Nat.add_assoc, hcell (lo + j) (by omega)]
    simp
section
variable {w w' : World} {S T : Nat → Prop} {A1 A2 : Option Addr} {n1 c1 n2 c2 : Nat} {m : Mm}
theorem rRead_any (h : Rf w S A1 n1 c1 A2 n2 c2 m) (hmax : m.B.length ≤ 4194304) (a : Nat) (n : Int) (ha : a < 18446744073709551616) (hn : n < 9223372036854775808) :
    Calls Try.prog 30 #[.agg #[.slice A1 n1 c1, .slice A2 n2 c2], .int .u64 (a : Int), .int .i64 n] w (RdPost w (m.rd a n) (m.chk a n)) := by
  have hb := below_alloc w (.cells #[.slice A1 n1 c1, .slice A2 n2 c2] 32)
  have HC := Lib.hid (rCheck_any (h.below hb) hmax a n ha hn)
  have bx := cell_of_row (w.alloc (.cells #[.slice A1 n1 c1, .slice A2 n2 c2] 32)) w.heap.size 0 _ 32 (0, 0) (heap_alloc_new w _)
  have BX := Lib.hid (heap_alloc_new w (.cells #[.slice A1 n1 c1, .slice A2 n2 c2] 32))
  have HB0 := Lib.hid hb
  by_cases hz : m.chk a n = 0
  · obtain ⟨k, rfl, hk⟩ := Mm.chk_ok hz
    rw [← h.B.len] at hk
    have hn1 : n1 ≤ 4194304 := by rw [h.B.len]; exact hmax
    obtain ⟨hi, hhi⟩ : ∃ hi, hi = a + k := ⟨_, rfl⟩
    obtain ⟨A', c', hsl, hsb⟩ := sub_run A1 n1 c1 a hi (by omega) (by omega) (byt_cap h.B)
    rw [show hi - a = k by omega] at hsl hsb
    have hrd : m.rd a (k : Int) = (m.B.take hi).drop a := by unfold Mm.rd; rw [if_pos hz, List.drop_take, show hi - a = k by omega]; rfl
    have hll : ((m.B.take hi).drop a).length = k := by have := h.B.len; simp; omega
    have HApp : Hid (∀ W, Below w.heap.size w W → ∃ A c w', (Builtin.append_ #[29, 29] 29 #[.slice (some ⟨W.heap.size, 0, none⟩) 0 0, .slice A' k c']).run Try.prog (W.alloc (.cells #[] 5)) = .ok (.slice A k c) w' ∧ w'.ownsRow w.heap.size 5 1 (.slice A k c) k (bv ((m.B.take hi).drop a)) ∧ Below w.heap.size w w') := Lib.hid fun W hW => by
      have hx := hsb _ _ ((h.B.below hW).below (below_alloc W (.cells #[] 5)))
      obtain ⟨v', w', hrun, ho, hg, _⟩ := run_append_own_src (W.alloc (.cells #[] 5)) w.heap.size 0 (.slice (some ⟨W.heap.size, 0, none⟩) 0 0) (.slice A' k c') [] _ 29 (World.ownsRow_made W #[] 0 hW.size (Nat.zero_le _) (by simp)) hx (by rw [hll]; omega) (by have := hW.size; simp; omega)
      rw [hll, Nat.zero_add, List.nil_append] at ho
      obtain ⟨A, c, rfl⟩ := own_form ho
      exact ⟨A, c, w', hrun, ho, (hW.alloc hW.size _).grown hg (by have := hW.size; simp; omega) (by intro k hk; simp [Value.ownBlock] at hk; have := hW.size; omega)⟩
    have HPost : Hid (∀ A c w', w'.ownsRow w.heap.size 5 1 (.slice A k c) k (bv ((m.B.take hi).drop a)) → Below w.heap.size w w' → RdPost w (m.rd a (k : Int)) (m.chk a (k : Int)) (.returned (.tuple #[.slice A k c, .int .i64 0])) w') := Lib.hid fun A c w' h1 h2 => by
      refine ⟨⟨A, c, ?_, ?_⟩, h2⟩
      · rw [hrd, hll, hz]
      · rw [hrd, hll]; exact h1
    rw [hz] at HC
    have hwa : IntKind.i64.wrap (a : Int) = (a : Int) := by rw [IntKind.wrap_i64]; omega
    have hak : (a : Int) + (k : Int) = (hi : Int) := by omega
    have hwk : IntKind.i64.wrap (hi : Int) = (hi : Int) := by rw [IntKind.wrap_i64]; omega
    have hwk2 : wrap64 (hi : Int) = (hi : Int) := by unfold wrap64; omega
    clear hz hrd hll h hmax ha hn hk hb hsb hn1 hhi
    go_enter Try.func30, Try.ntmps30
    go_upto_region 4 with ((go_at_call 31; with_reducible refine HC.out.mono ?_); rintro e w2 ⟨rfl, hb⟩; have HB2 := Lib.hid (HB0.out.trans (hb.mono HB0.out.size)); have b2 : w2.cell? ⟨w.heap.size, 0, none⟩ = some (.slice A1 n1 c1) := (hb.cell (p := ⟨w.heap.size, 0, none⟩) (by simp)).trans bx; clear hb)
    obtain ⟨A7, c7, w7, hrun, ho, hb7⟩ := HApp.out w2 HB2.out
    have b2x : (w2.alloc (.cells #[] 5)).cell? ⟨w.heap.size, 0, none⟩ = some (.slice A1 n1 c1) := ((below_alloc w2 _).cell (p := ⟨w.heap.size, 0, none⟩) (World.block_lt_of_cell? w2 _ b2)).trans b2
    have HRun := Lib.hid hrun
    have HO := Lib.hid ho
    have HB7 := Lib.hid hb7
    clear hrun ho hb7 bx
    go_wp2_with (at_builtin; refine wpList_append_run rfl (.tmp 16) (.tmp 25) 29 29 rfl _ _ _ w7 rfl rfl HRun.out ?_)
    go_ret2
    exact HPost.out _ _ _ HO.out HB7.out
  · have HPost : Hid (∀ w', Below w.heap.size w w' → RdPost w (m.rd a n) (m.chk a n) (.returned (.tuple #[.slice none 0 0, .int .i64 (m.chk a n)])) w') := Lib.hid fun w' h2 => by
      have hl : m.rd a n = [] := by unfold Mm.rd; rw [if_neg hz]
      refine ⟨⟨none, 0, ?_, ?_⟩, h2⟩
      · rw [hl]; rfl
      · rw [hl]; exact World.ownsRow_nil _ _ _ _
    have hne : ((m.chk a n : Int) == 0) = false := by simp [hz]
    generalize m.chk a n = z at *
    have hne2 : (z != 0) = true := by simp [hz]
    clear h hmax ha hn hb
    go_enter Try.func30, Try.ntmps30
    go_wp2_with ((go_at_call 31; with_reducible refine HC.out.mono ?_); rintro e w2 ⟨rfl, hb⟩; have HB2 := Lib.hid (HB0.out.trans (hb.mono HB0.out.size)); clear hb)
    go_ret2
    exact HPost.out _ HB2.out
end
end Go.Proofs.Ytmnlkejhhdbhlaa
