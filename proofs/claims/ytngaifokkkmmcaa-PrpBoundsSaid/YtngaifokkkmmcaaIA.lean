/- PrpBounds: what its walk needs. Conditions stand in each theorem. -/
import Derived.Test.YtngaifokkkmmcaaHC
namespace Go.Proofs.Ytngaifokkkmmcaa
open Go.RowKit Go.Shelf
set_option linter.unusedVariables false
set_option maxHeartbeats 4000000
set_option maxRecDepth 100000
/-- The pages of PrpBounds. -/
def pgb (K : Nat) : List Nat := (List.range K).map fun i => i % 8 * 4096
theorem pgb_length (K : Nat) : (pgb K).length = K := by simp [pgb]
theorem pgb_at (K k : Nat) (h : k < K) : (pgb K)[k]'(by rw [pgb_length]; exact h) = k % 8 * 4096 := by simp [pgb]
theorem pgb_snoc (k : Nat) : pgb (k + 1) = pgb k ++ [k % 8 * 4096] := by simp [pgb, List.range_succ]
theorem pgb_mem (K : Nat) : ∀ x ∈ pgb K, x % 4096 = 0 ∧ x + 4096 ≤ 65536 := fun x hx => by
  obtain ⟨y, -, rfl⟩ := List.mem_map.1 hx
  omega
theorem pgb_cons (K : Nat) : ∃ ps, pgb (K + 1) = 0 :: ps ∧ ps.length = K := by
  have h := pgb_length (K + 1)
  cases hp : pgb (K + 1) with
  | nil => rw [hp] at h; simp at h
  | cons p ps =>
    have h0 := pgb_at (K + 1) 0 (by omega)
    simp only [hp, List.getElem_cons_zero] at h0
    rw [hp] at h
    exact ⟨ps, by rw [h0], by simpa using h⟩
theorem page_i (k : Nat) (h : k < 1000) : ∃ Y P : Int, P = ((k % 8 * 4096 : Nat) : Int) ∧ (k : Int).tmod 8 = Y ∧ IntKind.i64.wrap Y = Y ∧ wrap64 Y = Y ∧ IntKind.u64.wrap Y = Y ∧ IntKind.u64.wrap (Y * 4096) = P := by
  refine ⟨((k % 8 : Nat) : Int), _, rfl, tmod_nat k 8, i64_nat _ (by omega), wrap64_nat _ (by omega), u64_nat _ (by omega), ?_⟩
  rw [show ((k % 8 : Nat) : Int) * 4096 = ((k % 8 * 4096 : Nat) : Int) by omega]
  exact u64_nat _ (by omega)
theorem sums_k (o nn : Nat) (NN : Int) (hNN : NN = (nn : Int)) (ho : o < 4096) (hn : nn ≤ 2000000) : ∃ S1 S2 K : Int, K = (((o + nn + 4095) / 4096 : Nat) : Int) ∧ IntKind.i64.wrap ((o : Int) + NN) = S1 ∧ wrap64 ((o : Int) + NN) = S1 ∧ IntKind.i64.wrap (S1 + 4095) = S2 ∧ wrap64 (S1 + 4095) = S2 ∧ S2.tdiv 4096 = K ∧ IntKind.i64.wrap K = K ∧ wrap64 K = K := by
  subst hNN
  have e1 : (o : Int) + (nn : Int) = ((o + nn : Nat) : Int) := by omega
  have e2 : ((o + nn : Nat) : Int) + 4095 = ((o + nn + 4095 : Nat) : Int) := by omega
  refine ⟨((o + nn : Nat) : Int), ((o + nn + 4095 : Nat) : Int), _, rfl, ?_, ?_, ?_, ?_, tdiv_nat (o + nn + 4095) 4096, i64_nat _ (by omega), wrap64_nat _ (by omega)⟩
  · rw [e1]; exact i64_nat _ (by omega)
  · rw [e1]; exact wrap64_nat _ (by omega)
  · rw [e2]; exact i64_nat _ (by omega)
  · rw [e2]; exact wrap64_nat _ (by omega)
def m16 : Mm := Mm.new 65536
theorem m16_len : m16.B.length = 65536 := by unfold m16 Mm.new; exact List.length_replicate
theorem m16_gm : Gm m16 := Gm.new (by omega) (by omega)
theorem new16 (w : World) : Calls Try.prog 19 #[.int .i64 16] w fun e w' => ∃ b d cap, e = .returned (.tuple #[.pointer (some ⟨b, 0, none⟩), .int .i64 0]) ∧ Kp w b d cap m16 w' := kp_new w 16 65536 (by decide) (by decide) (by decide)
section
variable {w W : World} {b d cap : Nat} {m : Mm}
/-- Build of three pages or more. -/
theorem kp_bldx (h : Kp w b d cap m W) (hG : Gm m) (hL : m.L.length < 999999) (vp : Value) (l0 l1 o n p0 : Nat) (ps : List Nat) (L0 L1 : Int) (e0 : L0 = (l0 : Int)) (e1 : L1 = (l1 : Int)) (ho : o < 4096) (ho4 : o % 4 = 0) (hn0 : 0 < n) (hn : n ≤ 1048576) (hp : W.ownsRow w.heap.size 23 1 vp (p0 :: ps).length (uv (p0 :: ps))) (h2 : 2 ≤ ps.length)
    (hpm : ∀ x ∈ p0 :: ps, x % 4096 = 0) (hpl : (p0 :: ps).length = cnt o (n : Int)) (hx : ∀ x ∈ p0 :: ps, x + 4096 ≤ m.B.length) (hll : l0 + te l0 = l1) (h8 : l0 % 8 = 0) (hB : l1 + 4096 ≤ m.B.length) :
    Calls Try.prog 15 #[.pointer (some ⟨b, 0, none⟩), .slice (some ⟨W.heap.size, 0, none⟩) 2 2, vp, .int .i64 (o : Int), .int .i64 (n : Int)] (W.alloc (.cells #[.int .u64 L0, .int .u64 L1] 23))
      fun e w' => e = .returned (.tuple #[.int .u64 ((p0 + o : Nat) : Int), .int .u64 (l0 : Int), .int .i64 0]) ∧ Kp w b d cap (bldM m l0 l1 ps) w' ∧ U64s w' vp (p0 :: ps) := by
  subst e0 e1
  have hmax := hG.max
  have hlt : ∀ x ∈ p0 :: ps, x < 18446744073709551616 := fun x hxx => by have := hx x hxx; omega
  have hU := u64_of_own hp hlt
  have hb := below_alloc W (.cells #[.int .u64 (l0 : Int), .int .u64 (l1 : Int)] 23)
  have hl : U64s (W.alloc (.cells #[.int .u64 (l0 : Int), .int .u64 (l1 : Int)] 23)) (.slice (some ⟨W.heap.size, 0, none⟩) 2 2) [l0, l1] := u64_lit W [l0, l1] (by simp; omega)
  have hk := h.later hb
  have hbl := h.1.lt
  have hdl := h.1.dlt
  obtain ⟨W0, hW0⟩ : ∃ W0, W0 = W.alloc (.cells #[.int .u64 (l0 : Int), .int .u64 (l1 : Int)] 23) := ⟨_, rfl⟩
  rw [← hW0] at hb hl hk ⊢
  have hol : ∀ g, (Value.slice (some ⟨W.heap.size, 0, none⟩) 2 2).ownBlock = some g → ¬ (g = b ∨ g = d) := fun g hg => by simp only [Value.ownBlock, Option.some.injEq] at hg; omega
  have hop : ∀ g, vp.ownBlock = some g → ¬ (g = b ∨ g = d) := fun g hg => by
    obtain ⟨cm, em, -⟩ := h.1.blk
    obtain ⟨-, -, cur, ed, -⟩ := h.1.row
    rcases hp.2 with ⟨e, -⟩ | ⟨g2, cp, cu, e, a1, a2, -⟩
    · rw [e] at hg; cases hg
    · rw [e] at hg
      simp only [Value.ownBlock, Option.some.injEq] at hg
      subst hg
      rintro (rfl | rfl)
      · rw [em] at a2; cases a2
      · rw [ed] at a2; cases a2
  have hU0 := hU.below hb
  have hpa : aln 4096 (p0 :: ps) = true := List.all_eq_true.2 fun x hxx => by simpa using hpm x hxx
  refine (Build_lists hk.1 hG hL _ vp l0 l1 p0 ps o n ho ho4 hn0 hn hl hol hU0 hop hpl hpa hll h8 hB).mono ?_
  rintro e w' ⟨rfl, hm, hc⟩
  rw [bldS_ge h2]
  exact ⟨rfl, hk.mv hm hc, hU0.chg hc (fun _ => hop)⟩
end
end Go.Proofs.Ytngaifokkkmmcaa
