/- The contracts of New, change, Write, Fill. Conditions stand in each theorem. -/
import Derived.Test.YtngaifokkkmmcaaE
import Derived.Laws.EntriesVeiled
namespace Go.Proofs.Ytngaifokkkmmcaa
open Go.RowKit
set_option linter.unusedVariables false
set_option maxHeartbeats 1000000
set_option maxRecDepth 100000
/-- A new memory. -/
def Mm.new (n : Nat) : Mm := ⟨List.replicate n 0, []⟩
theorem make_bytes (w : World) (n : Nat) (h : n ≤ 4194304) : (Instr.makeSlice 25 (.int .i64 (n : Int)) (.int .i64 (n : Int))).run Try.prog w = .ok (.slice (some ⟨w.heap.size, 0, none⟩) n n) (w.alloc (.cells (madeCells #[.int .u8 0] n) 5)) := by
  obtain ⟨i0, hi0, hz0, hz1, hz2⟩ := info_parts u8_info
  have hr := run_makeSlice (P := Try.prog) w 25 5 i0 _ Try.underlying25 hi0 hz0 .i64 .i64 n n (by omega) (Int.le_refl _) (by rw [hz1]; omega) (by rw [hz2]; omega) (by omega)
  simp only [Int.toNat_natCast] at hr
  rw [hr, hz1, Nat.mul_one]
  rfl
theorem made_own (w : World) (n : Nat) (h : n ≤ 4194304) : (w.alloc (.cells (madeCells #[.int .u8 0] n) 5)).ownsRow w.heap.size 5 1 (.slice (some ⟨w.heap.size, 0, none⟩) n n) n (bv (List.replicate n 0)) := by
  refine ⟨by rw [bv_length, List.length_replicate]; omega, .inr ⟨_, n, _, rfl, Nat.le_refl _, heap_alloc_new w _, Nat.le_refl _, by unfold maxLen; omega, by rw [size_madeCells]; omega, ?_⟩⟩
  rw [List.take_of_length_le (by rw [Array.length_toList, size_madeCells]; omega)]
  apply List.ext_getElem?
  intro j
  by_cases hj : j < n
  · simp [madeCells, bv, hj, Nat.mod_one]
  · simp [madeCells, bv, hj]
def NewPost (w : World) (n : Nat) (e : Ending) (w' : World) : Prop := ∃ b d, e = .returned (.tuple #[.pointer (some ⟨b, 0, none⟩), .int .i64 0]) ∧ Mem w' w.heap.size b d n (Mm.new n) ∧ Below w.heap.size w w'
theorem New_ok (k : Nat) (h1 : 1 ≤ k) (h2 : k ≤ 1024) (w : World) : Calls Try.prog 19 #[.int .i64 (k : Int)] w (NewPost w (k * 4096)) := by
  have HX := Lib.hid hold_new
  obtain ⟨N, hN⟩ : ∃ N, N = k * 4096 := ⟨_, rfl⟩
  have hNi : (k : Int) * 4096 = (N : Int) := by omega
  have hNm : N ≤ 4194304 := by omega
  have hmk := fun W => make_bytes W N hNm
  rw [← hNi] at hmk
  have hmul : wrap64 ((k : Int) * 4096) = (k : Int) * 4096 := by unfold wrap64; omega
  have hmul2 : IntKind.i64.wrap ((k : Int) * 4096) = (k : Int) * 4096 := by rw [IntKind.wrap_i64]; omega
  have hz := zero62
  have HS : Hid (∀ W, Below w.heap.size w W → NewPost w N (.returned (.tuple #[.pointer (some ⟨W.heap.size + 1, 0, none⟩), .int .i64 0])) ((W.alloc (.cells (madeCells #[.int .u8 0] N) 5)).alloc (.cells (zMem.setIfInBounds 769 (.slice (some ⟨W.heap.size, 0, none⟩) N N)) 56))) := Lib.hid fun W hW => by
    have hs : (W.alloc (.cells (madeCells #[.int .u8 0] N) 5)).heap.size = W.heap.size + 1 := by simp
    have ho := (made_own W N hNm).alloc (.cells (zMem.setIfInBounds 769 (.slice (some ⟨W.heap.size, 0, none⟩) N N)) 56)
    refine ⟨W.heap.size + 1, W.heap.size, rfl, ⟨⟨zMem.setIfInBounds 769 (.slice (some ⟨W.heap.size, 0, none⟩) N N), ?_, by simp [zMem_size], by rw [zMem_set]; exact zLog_lg _ rfl, ?_⟩, ?_, by have := hW.size; omega⟩, (hW.alloc hW.size _).alloc (by rw [hs]; have := hW.size; omega) _⟩
    · have := heap_alloc_new (W.alloc (.cells (madeCells #[.int .u8 0] N) 5)) (.cells (zMem.setIfInBounds 769 (.slice (some ⟨W.heap.size, 0, none⟩) N N)) 56)
      rw [hs] at this
      exact this
    · rw [Array.getElem?_setIfInBounds, if_pos rfl, if_pos (by rw [zMem_size]; decide)]
      simp [Mm.new]
    · have := ho.mono (base' := w.heap.size) hW.size
      simpa [Mm.new] using this
  have hz1 := zMem_size
  have d1 : decide ((k : Int) ≥ 1) = true := by simp; omega
  have d2 : decide ((k : Int) ≤ 1024) = true := by simp; omega
  rw [← hN]
  clear hN hNi
  go_enter Try.func19, Try.ntmps19
  go_wp2_with ((go_at_call 45; with_reducible refine (HX.out _ _ _).mono ?_); rintro e w' ⟨rfl, rfl⟩)
  go_ret2
  have := HS.out (w.alloc (.cells #[.bool true, .bool true] 4)) (below_alloc _ _)
  rw [World.size_alloc] at this
  exact this
theorem New_bad (p : Int) (h : ¬ (1 ≤ p ∧ p ≤ 1024)) (w : World) : Calls Try.prog 19 #[.int .i64 p] w fun e w' => e = .returned (.tuple #[.pointer none, .int .i64 2]) ∧ Below w.heap.size w w' := by
  have HX := Lib.hid hold_new
  by_cases h1 : 1 ≤ p
  · have d1 : decide (p ≥ 1) = true := by simp; omega
    have d2 : decide (p ≤ 1024) = false := by simp; omega
    clear h
    go_enter Try.func19, Try.ntmps19
    go_wp2_with ((go_at_call 45; with_reducible refine (HX.out _ _ _).mono ?_); rintro e w' ⟨rfl, rfl⟩)
    go_ret2
    exact ⟨rfl, below_alloc _ _⟩
  · have d1 : decide (p ≥ 1) = false := by simp; omega
    have d2 : decide (p ≤ 1024) = true := by simp; omega
    clear h
    go_enter Try.func19, Try.ntmps19
    go_wp2_with ((go_at_call 45; with_reducible refine (HX.out _ _ _).mono ?_); rintro e w' ⟨rfl, rfl⟩)
    go_ret2
    exact ⟨rfl, below_alloc _ _⟩
/-- The state behind a call that stores the bytes l, if the span lies in the memory. -/
def Mm.ch (m : Mm) (a : Nat) (n : Int) (l : List UInt8) : Mm := if m.chk a n = 0 then ({ m with B := pat m.B a l } : Mm).log a l.length else m
section
variable {w : World} {base b d cap : Nat} {m : Mm}
theorem Mem.data {w' : World} (h : Mem w base b d cap m) {B' : List UInt8} (hl : B'.length = m.B.length) (hr : w'.ownsRow base 5 1 (.slice (some ⟨d, 0, none⟩) m.B.length cap) m.B.length (bv B')) (hc : Chg (· = d) w w') : Mem w' base b d cap { m with B := B' } := by
  obtain ⟨c, h1, h2, h3, h4⟩ := h.blk
  exact ⟨⟨c, (hc.block b h.lt h.ne).trans h1, h2, h3, by rw [h4, hl]⟩, by rw [hl]; exact hr, h.hb⟩
theorem change34 (h : Mem w base b d cap m) (hG : Gm m) (a : Nat) (n : Int) (l : List UInt8) (q : Nat) (ha : a < 18446744073709551616) (hn : n < 9223372036854775808) (hl : m.chk a n = 0 → n = (l.length : Int)) (hq : q < w.heap.size)
    (HF : ∀ W, Chg (fun k => k = d) w W → ∀ k (hk : k < l.length), Calls Try.prog 53 #[.int .i64 (k : Int), .pointer (some ⟨q, 0, none⟩)] W fun e W' => e = .returned (.int .u8 (l[k].toNat : Int)) ∧ W = W') :
    Calls Try.prog 30 #[.pointer (some ⟨b, 0, none⟩), .int .u64 (a : Int), .int .i64 n, .func (.func 53) #[] #[.pointer (some ⟨q, 0, none⟩)]] w fun e w' => e = .returned (.int .i64 (m.chk a n)) ∧ Mem w' base b d cap (m.ch a n l) ∧ Chg (fun k => k = b ∨ k = d) w w' := by
  have HC := Lib.hid (Check_any h hG a n ha hn)
  by_cases hz : m.chk a n = 0
  · obtain ⟨k, rfl, hk⟩ := Mm.chk_ok hz
    have hkl : k = l.length := by have := hl hz; omega
    have hmax := hG.max
    have hcnt := hG.cnt
    have HP : Hid (∀ W, Below w.heap.size w W → Calls Try.prog 43 #[.pointer (some ⟨b, 0, none⟩), .int .u64 (a : Int), .int .i64 (k : Int)] W fun e w' => (∃ o c, e = .returned (.slice (some ⟨d, o, none⟩) k c) ∧ k ≤ c ∧ (0 < k → o = a)) ∧ W = w') := Lib.hid fun W hb => part_any (h.below hb) a k hk hG.max
    have HSt : Hid (∀ W o c, Below w.heap.size w W → k ≤ c → (0 < k → o = a) → Calls Try.prog 57 #[.slice (some ⟨d, o, none⟩) k c, .func (.func 53) #[] #[.pointer (some ⟨q, 0, none⟩)]] W fun e w' => (∃ v, e = .returned v) ∧ Mem w' base b d cap { m with B := pat m.B a l } ∧ Chg (· = d) w w') := Lib.hid fun W o c hb hc ho => by
      have h2 := h.below hb
      refine (store34 base d cap a k q o c m.B l W h2.dat hkl hk hmax ho hc (fun W' hW' => HF W' ((Chg.of_below hb).also hW'))).mono ?_
      rintro e w' ⟨h3, h4, h5⟩
      exact ⟨h3, h2.data (pat_len (by omega)) h4 h5, (Chg.of_below hb).also h5⟩
    have HA : Hid (∀ W, Mem W base b d cap { m with B := pat m.B a l } → Chg (· = d) w W → Calls Try.prog 58 #[.pointer (some ⟨b, 0, none⟩), .agg #[.int .u64 (a : Int), .int .i64 (k : Int), .bool false]] W fun e w' => (∃ v, e = .returned v) ∧ Mem w' base b d cap (m.ch a k l) ∧ Chg (fun k => k = b ∨ k = d) w w') := Lib.hid fun W h2 hc => by
      refine (add_any h2 a k (by omega) hcnt).mono ?_
      rintro e w' ⟨h3, h4, h5⟩
      refine ⟨h3, ?_, (hc.mono (fun i hi => .inr hi)).also (h5.mono (fun i hi => .inl hi))⟩
      unfold Mm.ch
      rw [if_pos hz, ← hkl]
      exact h4
    have cb : ∀ W, Mem W base b d cap { m with B := pat m.B a l } → W.cell? ⟨b, 768, none⟩ = some (.int .i64 (m.L.length : Int)) := fun W h2 => h2.ncell
    rw [hz] at HC ⊢
    clear hz hl h hG ha hn hk hkl hmax hcnt HF hq
    go_enter Try.func30, Try.ntmps30
    go_wp2
    go_step3
    go_wp2_with (first
      | ((go_at_call 22; with_reducible refine HC.out.mono ?_); rintro e w1 ⟨rfl, hb⟩; have HB := Lib.hid hb; clear hb)
      | ((go_at_call 43; with_reducible refine (HP.out _ HB.out).mono ?_); rintro e w' ⟨⟨o, c, rfl, hc, ho⟩, rfl⟩; have HQ := Lib.hid (And.intro hc ho); clear hc ho)
      | ((go_at_call 57; with_reducible refine (HSt.out _ _ _ HB.out HQ.out.1 HQ.out.2).mono ?_); rintro e w2 ⟨⟨v2, rfl⟩, hm, hc⟩; have HM2 := Lib.hid hm; have HC2 := Lib.hid hc; clear hm hc)
      | ((go_at_call 58; with_reducible refine (HA.out _ HM2.out HC2.out).mono ?_); rintro e w3 ⟨⟨v3, rfl⟩, hp⟩; have HP3 := Lib.hid hp; clear hp))
    go_step3
    go_wp2
    rw [Exit.noGoto_ret]
    go_ret
    exact ⟨rfl, HP3.out⟩
  · have hch : m.ch a n l = m := by unfold Mm.ch; rw [if_neg hz]
    have H := Lib.hid h
    rw [hch]
    have hne : ((m.chk a n : Int) == 0) = false := by simp [hz]
    generalize m.chk a n = z at *
    have hne2 : (z != 0) = true := by simp [hz]
    clear h hG ha hn hl HF hq
    go_enter Try.func30, Try.ntmps30
    go_wp2
    refine wp_scope_forward 0 rfl ?_
    go_wp2_with (first
      | ((go_at_call 22; with_reducible refine HC.out.mono ?_); rintro e w1 ⟨rfl, hb⟩; have HB := Lib.hid hb; clear hb))
    go_step3
    refine ⟨rfl, ?_⟩
    dsimp only
    go_wp2
    rw [Exit.noGoto_ret]
    go_ret
    exact ⟨rfl, H.out.below HB.out, Chg.of_below HB.out⟩
theorem change41 (h : Mem w base b d cap m) (hG : Gm m) (a : Nat) (n : Int) (l : List UInt8) (q : Nat) (ha : a < 18446744073709551616) (hn : n < 9223372036854775808) (hl : m.chk a n = 0 → n = (l.length : Int)) (hq : q < w.heap.size)
    (HF : ∀ W, Chg (fun k => k = d) w W → ∀ k (hk : k < l.length), Calls Try.prog 31 #[.int .i64 (k : Int), .pointer (some ⟨q, 0, none⟩)] W fun e W' => e = .returned (.int .u8 (l[k].toNat : Int)) ∧ W = W') :
    Calls Try.prog 30 #[.pointer (some ⟨b, 0, none⟩), .int .u64 (a : Int), .int .i64 n, .func (.func 31) #[] #[.pointer (some ⟨q, 0, none⟩)]] w fun e w' => e = .returned (.int .i64 (m.chk a n)) ∧ Mem w' base b d cap (m.ch a n l) ∧ Chg (fun k => k = b ∨ k = d) w w' := by
  have HC := Lib.hid (Check_any h hG a n ha hn)
  by_cases hz : m.chk a n = 0
  · obtain ⟨k, rfl, hk⟩ := Mm.chk_ok hz
    have hkl : k = l.length := by have := hl hz; omega
    have hmax := hG.max
    have hcnt := hG.cnt
    have HP : Hid (∀ W, Below w.heap.size w W → Calls Try.prog 43 #[.pointer (some ⟨b, 0, none⟩), .int .u64 (a : Int), .int .i64 (k : Int)] W fun e w' => (∃ o c, e = .returned (.slice (some ⟨d, o, none⟩) k c) ∧ k ≤ c ∧ (0 < k → o = a)) ∧ W = w') := Lib.hid fun W hb => part_any (h.below hb) a k hk hG.max
    have HSt : Hid (∀ W o c, Below w.heap.size w W → k ≤ c → (0 < k → o = a) → Calls Try.prog 57 #[.slice (some ⟨d, o, none⟩) k c, .func (.func 31) #[] #[.pointer (some ⟨q, 0, none⟩)]] W fun e w' => (∃ v, e = .returned v) ∧ Mem w' base b d cap { m with B := pat m.B a l } ∧ Chg (· = d) w w') := Lib.hid fun W o c hb hc ho => by
      have h2 := h.below hb
      refine (store41 base d cap a k q o c m.B l W h2.dat hkl hk hmax ho hc (fun W' hW' => HF W' ((Chg.of_below hb).also hW'))).mono ?_
      rintro e w' ⟨h3, h4, h5⟩
      exact ⟨h3, h2.data (pat_len (by omega)) h4 h5, (Chg.of_below hb).also h5⟩
    have HA : Hid (∀ W, Mem W base b d cap { m with B := pat m.B a l } → Chg (· = d) w W → Calls Try.prog 58 #[.pointer (some ⟨b, 0, none⟩), .agg #[.int .u64 (a : Int), .int .i64 (k : Int), .bool false]] W fun e w' => (∃ v, e = .returned v) ∧ Mem w' base b d cap (m.ch a k l) ∧ Chg (fun k => k = b ∨ k = d) w w') := Lib.hid fun W h2 hc => by
      refine (add_any h2 a k (by omega) hcnt).mono ?_
      rintro e w' ⟨h3, h4, h5⟩
      refine ⟨h3, ?_, (hc.mono (fun i hi => .inr hi)).also (h5.mono (fun i hi => .inl hi))⟩
      unfold Mm.ch
      rw [if_pos hz, ← hkl]
      exact h4
    have cb : ∀ W, Mem W base b d cap { m with B := pat m.B a l } → W.cell? ⟨b, 768, none⟩ = some (.int .i64 (m.L.length : Int)) := fun W h2 => h2.ncell
    rw [hz] at HC ⊢
    clear hz hl h hG ha hn hk hkl hmax hcnt HF hq
    go_enter Try.func30, Try.ntmps30
    go_wp2
    go_step3
    go_wp2_with (first
      | ((go_at_call 22; with_reducible refine HC.out.mono ?_); rintro e w1 ⟨rfl, hb⟩; have HB := Lib.hid hb; clear hb)
      | ((go_at_call 43; with_reducible refine (HP.out _ HB.out).mono ?_); rintro e w' ⟨⟨o, c, rfl, hc, ho⟩, rfl⟩; have HQ := Lib.hid (And.intro hc ho); clear hc ho)
      | ((go_at_call 57; with_reducible refine (HSt.out _ _ _ HB.out HQ.out.1 HQ.out.2).mono ?_); rintro e w2 ⟨⟨v2, rfl⟩, hm, hc⟩; have HM2 := Lib.hid hm; have HC2 := Lib.hid hc; clear hm hc)
      | ((go_at_call 58; with_reducible refine (HA.out _ HM2.out HC2.out).mono ?_); rintro e w3 ⟨⟨v3, rfl⟩, hp⟩; have HP3 := Lib.hid hp; clear hp))
    go_step3
    go_wp2
    rw [Exit.noGoto_ret]
    go_ret
    exact ⟨rfl, HP3.out⟩
  · have hch : m.ch a n l = m := by unfold Mm.ch; rw [if_neg hz]
    have H := Lib.hid h
    rw [hch]
    have hne : ((m.chk a n : Int) == 0) = false := by simp [hz]
    generalize m.chk a n = z at *
    have hne2 : (z != 0) = true := by simp [hz]
    clear h hG ha hn hl HF hq
    go_enter Try.func30, Try.ntmps30
    go_wp2
    refine wp_scope_forward 0 rfl ?_
    go_wp2_with (first
      | ((go_at_call 22; with_reducible refine HC.out.mono ?_); rintro e w1 ⟨rfl, hb⟩; have HB := Lib.hid hb; clear hb))
    go_step3
    refine ⟨rfl, ?_⟩
    dsimp only
    go_wp2
    rw [Exit.noGoto_ret]
    go_ret
    exact ⟨rfl, H.out.below HB.out, Chg.of_below HB.out⟩
end
end Go.Proofs.Ytngaifokkkmmcaa
