/- The contract of the reference's Write. Conditions stand in each theorem. -/
import Derived.Test.YtmnlkejhhdbhlaaRX
import Derived.Test.YtmnlkejhhdbhlaaMH
namespace Go.Proofs.Ytmnlkejhhdbhlaa
open Go.RowKit
set_option linter.unusedVariables false
set_option maxHeartbeats 8000000
set_option maxRecDepth 100000
theorem own_cap {w : World} {base e sz g n c : Nat} {xs : List Value} (h : w.ownsRow base e sz (.slice (some ⟨g, 0, none⟩) n c) n xs) : n ≤ c := by
  rcases h.2 with ⟨e, _⟩ | ⟨g', c2, cur, e, h1, h2, h3, _⟩
  · cases e
  · simp only [Value.slice.injEq] at e
    obtain ⟨_, _, rfl⟩ := e
    exact h3
theorem tail_run (g n c a : Nat) (ha : a < n) (hc : n ≤ c) (W : World) : (Instr.slice 29 (.slice (some ⟨g, 0, none⟩) n c) (some (.int .i64 (a : Int))) none none).run Try.prog W = .ok (.slice (some ⟨g, a, none⟩) (n - a) (c - a)) W := by
  obtain ⟨i0, hi0, hz0, hz1, hz2⟩ := info_parts u8_info
  rw [run_slice_l (P := Try.prog) (w := W) (t := 29) (a := some ⟨g, 0, none⟩) (len := n) (cap := c) (ht := under29e) .i64 (a : Int) (by omega) (by omega)]
  have hne : ¬ c = a := by omega
  simp [sizeOf, typeInfo, elem29, hi0, hz1, sliced, hne, add_plain]
section
variable {w w' : World} {S T : Nat → Prop} {A1 A2 Av : Option Addr} {n1 c1 n2 c2 nv cv : Nat} {m : Mm} {l : List UInt8}
theorem rWrite_ok (h : Rf w S A1 n1 c1 A2 n2 c2 m) (hmax : m.B.length ≤ 4194304) (hcnt : m.L.length ≤ 100000) (hS : ∀ k, S k → k < w.heap.size) (a : Nat) (hv : Byt w (.slice Av nv cv) l) (hl : 0 < nv) (hz : m.chk a (l.length : Int) = 0) :
    Calls Try.prog 28 #[.agg #[.slice A1 n1 c1, .slice A2 n2 c2], .int .u64 (a : Int), .slice Av nv cv] w (WrR w S (m.ch a (l.length : Int) l) 0) := by
  have hnv := hv.len
  have hn1 := h.B.len
  have hn2 := h.L.len
  have hfit : a + nv ≤ n1 := by
    obtain ⟨k, hk, hk2⟩ := Mm.chk_ok hz
    omega
  obtain ⟨gv, ov, rfl⟩ : ∃ gv ov, Av = some ⟨gv, ov, none⟩ := by
    obtain ⟨A, c, e, _, hr⟩ := hv
    simp only [Value.slice.injEq] at e
    obtain ⟨rfl, rfl, rfl⟩ := e
    obtain ⟨g, o, e2, _⟩ := hr hl
    exact ⟨g, o, e2⟩
  obtain ⟨hbq, hb2⟩ := bq_new w (.slice A1 n1 c1) (.slice A2 n2 c2)
  obtain ⟨w2, hw2⟩ : ∃ w2, w2 = (w.alloc (.cells #[.slice A1 n1 c1, .slice A2 n2 c2] 32)).alloc (.cells #[.slice none 0 0, .slice none 0 0] 32) := ⟨_, rfl⟩
  rw [← hw2] at hbq hb2
  have HC := Lib.hid (rCheck_any (h.below hb2) hmax a (l.length : Int) (by have := hmax; omega) (by have := hmax; omega))
  rw [hz, ← hnv] at HC
  have HQ := Lib.hid hbq
  have HB2 := Lib.hid hb2
  have HW2 := Lib.hid hw2
  have HR := Lib.hid h
  have HV := Lib.hid hv
  have HN := Lib.hid (show a + nv ≤ n1 ∧ 0 < nv ∧ n1 ≤ 4194304 ∧ n2 ≤ 100000 ∧ n1 = m.B.length ∧ n2 = m.L.length ∧ nv = l.length from ⟨hfit, hl, by omega, by omega, hn1, hn2, hnv⟩)
  have g1 : ((nv : Int) == 0) = false := by simp; omega
  have HZ := Lib.hid hz
  have HS := Lib.hid hS
  have hnvi : (nv : Int) ≤ 4194304 := by omega
  clear h hmax hcnt hv hl hz hnv hn1 hn2 hfit hbq hb2 hw2 hS
  go_enter Try.func28, Try.ntmps28
  go_upto_region 1 with fail
  rw [← HW2.out]
  have k0 := HQ.out.c0
  have k1 := HQ.out.c1
  go_upto_region 4 with ((go_at_call 31; with_reducible refine HC.out.mono ?_); rintro e w3 ⟨rfl, hb3⟩; have HQ3 := Lib.hid (HQ.out.below hb3); have HB3 := Lib.hid (HB2.out.trans (hb3.mono HB2.out.size)); clear hb3)
  obtain ⟨A4, c4, w4, hrun4, ho4, hb4⟩ := cp_bytes w3 A1 n1 c1 m.B (HR.out.B.below HB3.out) HN.out.2.2.1
  have hq4 := HQ3.out.below hb4
  have e4 := (HQ3.out.below (below_alloc w3 (.cells #[] 5))).c0
  have e5 := hq4.c0
  have e6 := hq4.f 0
  have HRun4 := Lib.hid hrun4
  have HO4 := Lib.hid ho4
  have HQ4 := Lib.hid hq4
  have HB4 := Lib.hid (HB3.out.trans (hb4.mono HB3.out.size))
  have HS4 := Lib.hid (show w.heap.size + 1 < w3.heap.size ∧ w3.heap.size ≤ w4.heap.size from ⟨HQ3.out.lt, hb4.size⟩)
  clear hrun4 ho4 hq4 hb4 k0 k1
  go_upto_region 5 with (at_builtin; refine wpList_append_run rfl (.tmp 23) (.tmp 25) 29 29 rfl _ _ _ w4 rfl rfl HRun4.out ?_)
  clear e4 e5 e6
  obtain ⟨g, c, hgf, -, -⟩ := HO4.out.form (by have := HN.out; omega)
  simp only [Value.slice.injEq, true_and] at hgf
  obtain ⟨rfl, rfl⟩ := hgf
  have hgl := HO4.out.lt g rfl
  have hq5 := HQ4.out.put0 (.slice (some ⟨g, 0, none⟩) n1 c4)
  have ho5 : (w4.setCell ⟨w.heap.size, 0, none⟩ (.slice (some ⟨g, 0, none⟩) n1 c4)).ownsRow w3.heap.size 5 1 (.slice (some ⟨g, 0, none⟩) n1 c4) n1 (bv m.B) := own_same HO4.out fun g' hg' => by
    simp only [Value.ownBlock, Option.some.injEq] at hg'
    subst hg'
    exact Below.heap_setCell w4 _ _ _ (by show g ≠ w.heap.size; have := HS4.out; omega)
  have hb5 : Below w.heap.size w (w4.setCell ⟨w.heap.size, 0, none⟩ (.slice (some ⟨g, 0, none⟩) n1 c4)) := HB4.out.setCell (Nat.le_refl _) _
  have hs5 : (w4.setCell ⟨w.heap.size, 0, none⟩ (.slice (some ⟨g, 0, none⟩) n1 c4)).heap.size = w4.heap.size := by simp [World.setCell]
  generalize w4.setCell ⟨w.heap.size, 0, none⟩ (.slice (some ⟨g, 0, none⟩) n1 c4) = w5 at *
  have hsl := tail_run g n1 c4 a (by have := HN.out; omega) (own_cap ho5) w5
  obtain ⟨w6, hcopy, ho6, hc6⟩ := copy_mid w5 w3.heap.size g n1 c4 a gv ov nv cv m.B l ho5 (HV.out.below hb5) HN.out.1
  have hS6 : g ≠ w.heap.size ∧ g ≠ w.heap.size + 1 := by have := HS4.out; omega
  have hq6 := hq5.chg hc6 (fun e => hS6.1 (Eq.symm e)) (fun e => hS6.2 (Eq.symm e))
  have hb6 : Below w.heap.size w w6 := hb5.trans (hc6.below hb5.size (fun k hk => by have hk : k = g := hk; have := HS4.out; omega))
  have e5 := hq5.c0
  have hwa : IntKind.i64.wrap (a : Int) = (a : Int) := by rw [IntKind.wrap_i64]; have := HN.out; omega
  have HO6 := Lib.hid ho6
  have HQ6 := Lib.hid hq6
  have HB6 := Lib.hid hb6
  have HS6 := Lib.hid (show w.heap.size + 1 < w3.heap.size ∧ w3.heap.size ≤ w6.heap.size from ⟨HS4.out.1, by have := hc6.size; have := HS4.out; omega⟩)
  clear hq5 ho5 hb5 hs5 ho6 hc6 hq6 hb6 hS6 hgl
  go_upto_region 6 with fail
  obtain ⟨A7, c7, w7, hrun7, ho7, hb7⟩ := cp_spans w6 A2 n2 c2 m.L (HR.out.L.below HB6.out) (by have := HN.out; omega)
  have f1 := (HQ6.out.below (below_alloc w6 (.cells #[] 47))).c1
  have hq7 := HQ6.out.below hb7
  have hx8 := row_one w7 (a, nv)
  obtain ⟨A8, c8, w8, hrun8, ho8, hg8⟩ := app_span (w7.alloc (.cells #[.int .u64 (a : Int), .int .i64 (nv : Int), .bool false] 47)) w6.heap.size n2 (.slice A7 n2 c7) m.L (a, nv) ⟨w7.heap.size, 0, none⟩ (own_same ho7 fun g' hg' => (below_alloc w7 _).block g' (ho7.lt g' hg').2) hx8 (by have := HN.out; omega) (by have := hb7.size; simp; omega)
  have hb8 : Below w6.heap.size w6 w8 := ((hb7.trans ((below_alloc w7 (.cells #[.int .u64 (a : Int), .int .i64 (nv : Int), .bool false] 47)).mono hb7.size))).grown hg8 (by have := hb7.size; simp; omega) (fun b hb => (ho7.lt b hb).1)
  have hq8 := HQ6.out.below hb8
  have f2 := hq8.c1
  have f3 := hq8.f 1
  have HRun7 := Lib.hid hrun7
  have HRun8 := Lib.hid hrun8
  have HQ9 := Lib.hid (hq8.put1 (.slice A8 (n2 + 1) c8))
  have HB9 : Hid (Below w.heap.size w (w8.setCell ⟨w.heap.size, 1, none⟩ (.slice A8 (n2 + 1) c8))) := Lib.hid ((HB6.out.trans (hb8.mono HB6.out.size)).setCell (Nat.le_refl _) _)
  have HOB : Hid ((w8.setCell ⟨w.heap.size, 1, none⟩ (.slice A8 (n2 + 1) c8)).ownsRow w3.heap.size 5 1 (.slice (some ⟨g, 0, none⟩) n1 c4) n1 (bv (pat m.B a l))) := Lib.hid (own_same HO6.out fun g' hg' => by
    have h1 := HO6.out.lt g' hg'
    exact (Below.heap_setCell w8 _ _ _ (by show g' ≠ w.heap.size; have := HS6.out; omega)).trans (hb8.block g' h1.2))
  have HOL : Hid ((w8.setCell ⟨w.heap.size, 1, none⟩ (.slice A8 (n2 + 1) c8)).ownsRow w6.heap.size 47 3 (.slice A8 (n2 + 1) c8) (n2 + 1) (sv (m.L ++ [(a, nv)]))) := Lib.hid (own_same ho8 fun g' hg' => Below.heap_setCell w8 _ _ _ (by show g' ≠ w.heap.size; have := HS6.out; have := (ho8.lt g' hg').1; omega))
  clear hrun7 hrun8 ho7 ho8 hb7 hb8 hg8 hq7 hq8 hx8 e5 hsl hcopy
  go_upto_region 7 with (first
    | (at_builtin; refine wpList_append_run rfl (.tmp 35) (.tmp 37) 30 30 rfl _ _ _ w7 rfl rfl HRun7.out ?_)
    | (at_builtin; refine wpList_append_run rfl (.tmp 38) (.tmp 43) 30 30 rfl _ _ _ w8 rfl rfl HRun8.out ?_))
  clear f1 f2 f3
  generalize w8.setCell ⟨w.heap.size, 1, none⟩ (.slice A8 (n2 + 1) c8) = w9 at *
  have q0 := HQ9.out.c0
  have q1 := HQ9.out.c1
  have q2 := HQ9.out.d0
  have q3 := HQ9.out.d1
  have q4 := HQ9.out.g
  go_wp2
  refine bodyPost_ret (results_row1 rfl _ _ (w.heap.size + 1) 32 #[.slice (some ⟨g, 0, none⟩) n1 c4, .slice A8 (n2 + 1) c8] (0, 0) _ rfl (set2 _ _ _ _ _ _ _ HQ9.out.r) Try.underlying32 rfl info32) rfl ?_
  have hbl : Below w.heap.size w ((w9.setCell ⟨w.heap.size + 1, 0, none⟩ (.slice (some ⟨g, 0, none⟩) n1 c4)).setCell ⟨w.heap.size + 1, 1, none⟩ (.slice A8 (n2 + 1) c8)) := (HB9.out.setCell (by show _ ≤ w.heap.size + 1; omega) _).setCell (by show _ ≤ w.heap.size + 1; omega) _
  have hk : ∀ k, w.heap.size + 1 < k → ((w9.setCell ⟨w.heap.size + 1, 0, none⟩ (.slice (some ⟨g, 0, none⟩) n1 c4)).setCell ⟨w.heap.size + 1, 1, none⟩ (.slice A8 (n2 + 1) c8)).heap[k]? = w9.heap[k]? := fun k hk =>
    (Below.heap_setCell _ _ _ _ (by show k ≠ w.heap.size + 1; omega)).trans (Below.heap_setCell _ _ _ _ (by show k ≠ w.heap.size + 1; omega))
  have hBm : (m.ch a (l.length : Int) l).B = pat m.B a l := Mm.ch_B HZ.out
  have hLm : (m.ch a (l.length : Int) l).L = m.L ++ [(a, nv)] := by rw [Mm.ch_L HZ.out, if_neg (by have := HN.out; omega), HN.out.2.2.2.2.2.2]
  have hoB := own_same HOB.out fun g' hg' => hk g' (by have := (HOB.out.lt g' hg').1; have := HS6.out; omega)
  have hoL := own_same HOL.out fun g' hg' => hk g' (by have := (HOL.out.lt g' hg').1; have := HS6.out; omega)
  refine ⟨_, _, _, _, _, _, rfl, ⟨?_, ?_, ?_, ?_⟩, hbl⟩
  · rw [hBm]
    exact Byt.of_own hoB
  · intro h0 p e hs
    obtain rfl := Option.some.inj e
    have h1 := (hoB.lt g rfl).1
    have h2 := HS.out g hs
    have := HS6.out
    omega
  · rw [hLm]
    have e1 : n2 + 1 = (m.L ++ [(a, nv)]).length := by rw [List.length_append, HN.out.2.2.2.2.2.1]; rfl
    have := hoL
    rw [e1] at this ⊢
    exact spn_of_own this
  · intro h0 p e hs
    subst e
    have h1 := (hoL.lt p.block rfl).1
    have h2 := HS.out p.block hs
    have := HS6.out
    omega
theorem rWrite_any (h : Rf w S A1 n1 c1 A2 n2 c2 m) (hmax : m.B.length ≤ 4194304) (hcnt : m.L.length ≤ 100000) (hS : ∀ k, S k → k < w.heap.size) (a : Nat) (ha : a < 18446744073709551616) (hv : Byt w (.slice Av nv cv) l) (hl : l.length ≤ 4194304) :
    Calls Try.prog 28 #[.agg #[.slice A1 n1 c1, .slice A2 n2 c2], .int .u64 (a : Int), .slice Av nv cv] w (WrR w S (m.ch a (l.length : Int) l) (m.chk a (l.length : Int))) := by
  rcases Decidable.em (m.chk a (l.length : Int) = 0) with hz | hz
  · rcases Nat.eq_zero_or_pos l.length with h0 | h0
    · exact rWrite_no h hmax a ha hv hl (.inr h0)
    · have := rWrite_ok h hmax hcnt hS a hv (by rw [hv.len]; exact h0) hz
      rw [hz]
      exact this
  · exact rWrite_no h hmax a ha hv hl (.inl hz)
end
end Go.Proofs.Ytmnlkejhhdbhlaa
