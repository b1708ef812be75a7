/- A memory of the call's own; literals; what the law's examples need. Conditions stand in each theorem. -/
import Derived.Test.YtngaifokkkmmcaaCB
namespace Go.Proofs.Ytngaifokkkmmcaa
open Go.RowKit Go.Shelf
set_option linter.unusedVariables false
set_option maxHeartbeats 4000000
set_option maxRecDepth 100000
/-- A memory of the call's own, and what was there is as it was. -/
def Kp (w : World) (b d cap : Nat) (m : Mm) (W : World) : Prop := Mem W w.heap.size b d cap m ∧ Below w.heap.size w W
section
variable {w W W' : World} {b d cap : Nat} {m m' : Mm}
theorem Kp.later (h : Kp w b d cap m W) (hb : Below W.heap.size W W') : Kp w b d cap m W' := ⟨h.1.below hb, h.2.trans (hb.mono h.2.size)⟩
theorem Kp.mv (h : Kp w b d cap m W) (hm : Mem W' w.heap.size b d cap m') (hc : Chg (fun k => k = b ∨ k = d) W W') : Kp w b d cap m' W' :=
  ⟨hm, h.2.trans (hc.below h.2.size (fun i hi => by rcases hi with rfl | rfl; exact h.1.hb; exact h.1.row.1))⟩
theorem Kp.mem (h : Kp w b d cap m W) : Mem W w.heap.size b d cap m := h.1
theorem Kp.bel (h : Kp w b d cap m W) : Below w.heap.size w W := h.2
end
theorem kp_new (w : World) (k L : Nat) (hk0 : 0 < k) (hk : k ≤ 1024) (hL : L = k * 4096) : Calls Try.prog 19 #[.int .i64 (k : Int)] w fun e w' => ∃ b d cap, e = .returned (.tuple #[.pointer (some ⟨b, 0, none⟩), .int .i64 0]) ∧ Kp w b d cap (Mm.new L) w' := by
  subst hL
  exact (show Calls Try.prog 19 #[.int .i64 (k : Int)] w (NewPost w (k * 4096)) from New_ok k hk0 hk w).mono fun e w' ⟨b, d, h1, h2, h3⟩ => ⟨b, d, _, h1, h2, h3⟩
theorem spn_lit (W : World) (l : List (Nat × Nat)) (h0 : 0 < l.length) : Spn (W.alloc (.cells (sv l).toArray 42)) (.slice (some ⟨W.heap.size, 0, none⟩) l.length l.length) l :=
  ⟨_, l.length, rfl, Nat.le_refl _, fun _ => ⟨W.heap.size, 0, rfl, by simp, fun j hj => by
    obtain ⟨a1, a2, a3⟩ := sv_at l j hj
    have e := fun k => cell_of_row _ W.heap.size k _ 42 (0, 0) (heap_alloc_new W (.cells (sv l).toArray 42))
    rw [Nat.zero_add, e, e, e, List.getElem?_toArray, List.getElem?_toArray, List.getElem?_toArray]
    exact ⟨a1, a2, a3⟩⟩⟩
/-- The cells of numbers. -/
def uv (xs : List Nat) : List Value := xs.map fun x : Nat => .int .u64 (x : Int)
theorem u64_lit (W : World) (xs : List Nat) (hx : ∀ x ∈ xs, x < 18446744073709551616) : U64s (W.alloc (.cells (uv xs).toArray 23)) (.slice (some ⟨W.heap.size, 0, none⟩) xs.length xs.length) xs :=
  ⟨_, xs.length, rfl, Nat.le_refl _, hx, fun _ => ⟨W.heap.size, 0, rfl, by simp, fun j hj => by
    rw [Nat.zero_add, cell_of_row _ W.heap.size j _ 23 (0, 0) (heap_alloc_new W (.cells (uv xs).toArray 23)), List.getElem?_toArray]
    simp [uv, hj]⟩⟩
section
variable {w W : World} {b d cap : Nat} {m : Mm}
theorem kp_spans (h : Kp w b d cap m W) (hG : Gm m) (fs sc : Nat) (n : Int) (r : Except Int (List (Nat × Nat))) (l : List (Nat × Nat)) (no : Int) (hfs : fs < 18446744073709551616) (hsc : sc < 18446744073709551616) (hr : spE m fs sc n = r) (hl : lstO r = l) (hno : numO r = no) (h0 : 0 < l.length) (hm : l.length ≤ 1000000) :
    Calls Try.prog 18 #[.pointer (some ⟨b, 0, none⟩), .int .u64 (fs : Int), .int .u64 (sc : Int), .int .i64 n, .int .i64 no, .slice (some ⟨W.heap.size, 0, none⟩) l.length l.length] (W.alloc (.cells (sv l).toArray 42)) fun e w' => e = .returned (.bool true) ∧ Below W.heap.size W w' := by
  subst hr
  have hb := below_alloc W (.cells (sv l).toArray 42)
  exact (spans_eq _ _ _ _ _ _ _ _ (Spans_any (h.1.below hb) hG fs sc n hfs hsc) hno (by rw [hl]; exact spn_lit W l h0) (by rw [hl]; exact hm)).mono fun e w' ⟨h1, h2⟩ => ⟨h1, hb.trans (h2.mono hb.size)⟩
theorem kp_spans0 (h : Kp w b d cap m W) (hG : Gm m) (fs sc : Nat) (n : Int) (r : Except Int (List (Nat × Nat))) (no : Int) (hfs : fs < 18446744073709551616) (hsc : sc < 18446744073709551616) (hr : spE m fs sc n = r) (hl : lstO r = []) (hno : numO r = no) :
    Calls Try.prog 18 #[.pointer (some ⟨b, 0, none⟩), .int .u64 (fs : Int), .int .u64 (sc : Int), .int .i64 n, .int .i64 no, .slice none 0 0] W fun e w' => e = .returned (.bool true) ∧ Below W.heap.size W w' := by
  subst hr
  exact spans_eq _ _ _ _ _ _ _ _ (Spans_any h.1 hG fs sc n hfs hsc) hno (by rw [hl]; exact Spn.nil W) (by rw [hl]; simp)
end
/-- The memory of the examples. -/
def m4 : Mm := Mm.new 16384
theorem m4_len : m4.B.length = 16384 := by unfold m4 Mm.new; exact List.length_replicate
theorem m4_gm : Gm m4 := Gm.new (by omega) (by omega)
theorem sp1 : spE m4 100 0 50 = .ok [(100, 50)] := by simp [spE, spK, pgE, cnt, te, Mm.chk, m4_len]
theorem sp2 : spE m4 4000 8192 200 = .ok [(4000, 96), (8192, 104)] := by simp [spE, spK, pgE, cnt, te, Mm.chk, m4_len]
theorem sp3 : spE m4 102 0 4 = .error 150 := by simp [spE, spK, pgE, cnt]
theorem sp4 : spE m4 4000 8200 200 = .error 150 := by simp [spE, spK, pgE, cnt, te, Mm.chk, m4_len]
theorem sp5 : spE m4 16380 4 5 = .error 150 := by simp [spE, spK, pgE, cnt, te, Mm.chk, m4_len]
def m5 : Mm := m4.ch 12272 ((enc [4096, 8192]).length : Int) (enc [4096, 8192])
theorem m5_chk : m4.chk 12272 ((([4096, 8192] : List Nat).length * 8 : Nat) : Int) = 0 := by simp [Mm.chk, m4_len]
theorem m5_len : m5.B.length = 16384 := by unfold m5; rw [ch_len, m4_len]
theorem m5_gm : Gm m5 := m4_gm.ch (by show (0 : Nat) < 1000000; decide) (fun _ => rfl)
theorem m5_a : at8 m5 12272 = 4096 := at8_ch (j := 0) m5_chk (by simp) (by simp)
theorem m5_b : at8 m5 12280 = 8192 := at8_ch (j := 1) m5_chk (by simp) (by simp)
theorem sp6 : spE m5 0 12272 9000 = .ok [(0, 4096), (4096, 4096), (8192, 808)] := by simp [spE, spK, pgE, cnt, te, rm, lstE, rdE, Mm.chk, m5_len, m5_a, m5_b]
end Go.Proofs.Ytngaifokkkmmcaa
