/- PrpHolds: what its walk needs. Conditions stand in each theorem. -/
import Derived.Test.YtngaifokkkmmcaaMC
namespace Go.Proofs.Ytngaifokkkmmcaa
open Go.RowKit Go.Shelf
set_option linter.unusedVariables false
set_option maxHeartbeats 4000000
set_option maxRecDepth 100000
/-- The pages' addresses, the offset added to the first. -/
def offs (o : Nat) : List Nat → List Nat
  | [] => []
  | p :: ps => (p + o) :: ps
theorem offs_length (o : Nat) : ∀ ps : List Nat, (offs o ps).length = ps.length
  | [] => rfl
  | p :: ps => rfl
theorem offs_at (o : Nat) (ps : List Nat) (k : Nat) (h : k < ps.length) : (offs o ps)[k]'(by rw [offs_length]; exact h) = ps[k] + (if k = 0 then o else 0) := by
  match ps, k, h with
  | p :: ps, 0, _ => rfl
  | p :: ps, k + 1, h => simp [offs]
theorem cnt_pos {o n : Nat} (h1 : 1 ≤ n) (h2 : n ≤ 1048576) (ho : o < 4096) : cnt o (n : Int) = (o + n + 4095) / 4096 := by
  unfold cnt
  rw [if_neg (by omega), Int.toNat_natCast, Nat.mod_eq_of_lt ho]
/-- What is left behind k pages. -/
theorem rst_offs {o n : Nat} {ps : List Nat} (ho : o < 4096) (hp : ∀ x ∈ ps, x % 4096 = 0) : ∀ k, k ≤ ps.length → rst n ((offs o ps).take k) = if k = 0 then n else n - (4096 * k - o)
  | 0, _ => rfl
  | k + 1, hk => by
    have hkl : k < (offs o ps).length := by rw [offs_length]; omega
    have hx := hp _ (List.getElem_mem (show k < ps.length by omega))
    rw [List.take_succ_eq_append_getElem hkl, rst_snoc, rst_offs ho hp k (by omega), offs_at o ps k (by omega)]
    by_cases h0 : k = 0
    · subst h0
      rw [if_pos rfl, if_pos rfl, if_neg (by omega)]
      unfold te
      omega
    · rw [if_neg h0, if_neg h0, if_neg (by omega)]
      unfold te
      omega
theorem spl_at : ∀ (l : List Nat) (r k : Nat) (h : k < l.length), (spl r l)[k]'(by rw [spl_length]; exact h) = (l[k], min (rst r (l.take k)) (te l[k]))
  | x :: l, r, 0, h => rfl
  | x :: l, r, k + 1, h => by
    simp only [spl, List.getElem_cons_succ, List.take_succ_cons, rst]
    exact spl_at l _ k (by simpa using h)
/-- Each span: its address, its length, what is left. -/
theorem span_facts {o n : Nat} {ps : List Nat} (ho : o < 4096) (hp : ∀ x ∈ ps, x % 4096 = 0) (h1 : 1 ≤ n) (h2 : n ≤ 1048576) (hc : ps.length = cnt o (n : Int)) (k : Nat) (hk : k < ps.length) :
    ∃ x z r, (spl n (offs o ps))[k]'(by rw [spl_length, offs_length]; exact hk) = (x, z) ∧ x = ps[k] + (if k = 0 then o else 0) ∧ rst n ((offs o ps).take k) = r ∧ 1 ≤ z ∧ z ≤ r ∧ r ≤ n ∧ rst n ((offs o ps).take (k + 1)) = r - z ∧ x % 4096 + z ≤ 4096 ∧ x + z ≤ ps[k] + 4096 := by
  have hkl : k < (offs o ps).length := by rw [offs_length]; exact hk
  have hx := hp _ (List.getElem_mem hk)
  have hr := rst_offs (n := n) ho hp k (by omega)
  have hr1 := rst_offs (n := n) ho hp (k + 1) (by omega)
  rw [cnt_pos h1 h2 ho] at hc
  refine ⟨_, _, _, spl_at _ n k hkl, offs_at o ps k hk, rfl, ?_⟩
  rw [offs_at o ps k hk, hr, hr1]
  by_cases h0 : k = 0
  · subst h0
    rw [if_pos rfl, if_pos rfl, if_neg (by omega)]
    unfold te
    omega
  · rw [if_neg h0, if_neg h0, if_neg (by omega)]
    unfold te
    omega
theorem rst_end {o n : Nat} {ps : List Nat} (ho : o < 4096) (hp : ∀ x ∈ ps, x % 4096 = 0) (h1 : 1 ≤ n) (h2 : n ≤ 1048576) (hc : ps.length = cnt o (n : Int)) : rst n ((offs o ps).take ps.length) = 0 := by
  rw [rst_offs ho hp _ (Nat.le_refl _)]
  rw [cnt_pos h1 h2 ho] at hc
  rw [if_neg (by omega)]
  omega
section
variable {w W W' : World} {b d cap : Nat} {m : Mm}
/-- A row of numbers grows beside a memory. -/
theorem kp_grow {v : Value} {n : Nat} {xs : List Value} {w0 : World} (h : Kp w b d cap m W) (hb : Below W.heap.size W w0) (ho : W.ownsRow w.heap.size 23 1 v n xs) (hg : w0.grownBy W' v.ownBlock) : Kp w b d cap m W' := by
  have grl : ∀ g, v.ownBlock = some g → w.heap.size ≤ g ∧ ∃ cur, W.heap[g]? = some (.cells cur 23 (0, 0)) := fun g hgg => by
    rcases ho.2 with ⟨e, -⟩ | ⟨g2, cp, cu, e, a1, a2, -⟩
    · rw [e] at hgg; cases hgg
    · rw [e] at hgg
      simp only [Value.ownBlock, Option.some.injEq] at hgg
      subst hgg
      exact ⟨a1, cu, a2⟩
  obtain ⟨cm, em, -⟩ := h.1.blk
  obtain ⟨-, -, cur, ed, -⟩ := h.1.row
  refine ⟨h.1.keep fun k hk => ?_, (h.2.trans (hb.mono h.2.size)).grown hg (Nat.le_trans h.2.size hb.size) (fun k hk => (grl k hk).1)⟩
  have hne : v.ownBlock ≠ some k := fun e => by
    obtain ⟨-, c2, h2⟩ := grl k e
    rcases hk with rfl | rfl
    · rw [em] at h2; cases h2
    · rw [ed] at h2; cases h2
  have hkl : k < W.heap.size := by
    rcases hk with rfl | rfl
    · exact h.1.lt
    · exact h.1.dlt
  exact (hg.block k (Nat.lt_of_lt_of_le hkl hb.size) (Ne.symm hne)).trans (hb.block k hkl)
/-- Build of the law's pages. -/
theorem kp_bld (h : Kp w b d cap m W) (hG : Gm m) (hL : m.L.length < 999999) (vp : Value) (l0 l1 o n : Nat) (ps : List Nat) (L0 L1 : Int) (e0 : L0 = (l0 : Int)) (e1 : L1 = (l1 : Int)) (ho : o < 4096) (ho4 : o % 4 = 0) (hn : n ≤ 1048576) (hp : W.ownsRow w.heap.size 23 1 vp ps.length (uv ps))
    (hpm : ∀ x ∈ ps, x % 4096 = 0) (hpl : ps.length = cnt o (n : Int)) (hx : ∀ x ∈ ps, x + 4096 ≤ m.B.length) (hll : l0 + te l0 = l1) (h8 : l0 % 8 = 0) (hB : l1 + 4096 ≤ m.B.length) :
    Calls Try.prog 15 #[.pointer (some ⟨b, 0, none⟩), .slice (some ⟨W.heap.size, 0, none⟩) 2 2, vp, .int .i64 (o : Int), .int .i64 (n : Int)] (W.alloc (.cells #[.int .u64 L0, .int .u64 L1] 23))
      fun e w' => ∃ m' a s, e = .returned (.tuple #[.int .u64 ((a : Nat) : Int), .int .u64 ((s : Nat) : Int), .int .i64 0]) ∧ Kp w b d cap m' w' ∧ Gm m' ∧ m'.B.length = m.B.length ∧ a < 18446744073709551616 ∧ s < 18446744073709551616 ∧ spE m' a s (n : Int) = .ok (spl n (offs o ps)) ∧ U64s w' vp ps := by
  subst e0 e1
  have hmax := hG.max
  have hl1m : l1 % 4096 = 0 := by rw [← hll]; unfold te; omega
  have hlt : ∀ x ∈ ps, x < 18446744073709551616 := fun x hxx => by have := hx x hxx; omega
  have hU := u64_of_own hp hlt
  have hb := below_alloc W (.cells #[.int .u64 (l0 : Int), .int .u64 (l1 : Int)] 23)
  have hl : U64s (W.alloc (.cells #[.int .u64 (l0 : Int), .int .u64 (l1 : Int)] 23)) (.slice (some ⟨W.heap.size, 0, none⟩) 2 2) [l0, l1] := u64_lit W [l0, l1] (by simp; omega)
  have hk := h.later hb
  have hbl := h.1.lt
  have hdl := h.1.dlt
  obtain ⟨W0, hW0⟩ : ∃ W0, W0 = W.alloc (.cells #[.int .u64 (l0 : Int), .int .u64 (l1 : Int)] 23) := ⟨_, rfl⟩
  rw [← hW0] at hb hl hk ⊢
  have hol : ∀ g, (Value.slice (some ⟨W.heap.size, 0, none⟩) 2 2).ownBlock = some g → ¬ (g = b ∨ g = d) := fun g hg => by simp only [Value.ownBlock, Option.some.injEq] at hg; omega
  have hop : ∀ g, vp.ownBlock = some g → ¬ (g = b ∨ g = d) := fun g hg => by
    obtain ⟨cm, em, -⟩ := h.1.blk
    obtain ⟨-, -, cur, ed, -⟩ := h.1.row
    rcases hp.2 with ⟨e, -⟩ | ⟨g2, cp, cu, e, a1, a2, -⟩
    · rw [e] at hg; cases hg
    · rw [e] at hg
      simp only [Value.ownBlock, Option.some.injEq] at hg
      subst hg
      rintro (rfl | rfl)
      · rw [em] at a2; cases a2
      · rw [ed] at a2; cases a2
  have hU0 := hU.below hb
  match ps, hp, hpm, hpl, hx, hlt, hU0 with
  | [], hp, hpm, hpl, hx, hlt, hU0 =>
    have hn0 : n = 0 := by
      by_cases h0 : n = 0
      · exact h0
      · rw [cnt_pos (by omega) hn ho] at hpl
        simp at hpl
        omega
    subst hn0
    refine (Build_zero hk.1 hG _ vp [l0, l1] o ho ho4 hl (by simp) (by simp [alst, aln, h8, hl1m]) hU0).mono ?_
    rintro e w' ⟨rfl, hm, hc⟩
    exact ⟨m, 0, 0, rfl, hk.mv hm hc, hG, rfl, by decide, by decide, rfl, hU0.chg hc (fun h0 => absurd h0 (by simp))⟩
  | p0 :: ps, hp, hpm, hpl, hx, hlt, hU0 =>
    have hn0 : 0 < n := by
      rcases Nat.eq_zero_or_pos n with h0 | h0
      · subst h0
        unfold cnt at hpl
        rw [if_pos (.inl (by omega))] at hpl
        simp at hpl
      · exact h0
    have hpa : aln 4096 (p0 :: ps) = true := List.all_eq_true.2 fun x hxx => by simpa using hpm x hxx
    refine (Build_lists hk.1 hG hL _ vp l0 l1 p0 ps o n ho ho4 hn0 hn hl hol hU0 hop hpl hpa hll h8 hB).mono ?_
    rintro e w' ⟨rfl, hm, hc⟩
    have hp0 := hx p0 (by simp)
    refine ⟨_, _, _, rfl, hk.mv hm hc, bldM_gm hG hL, bldM_len, by omega, ?_, spE_bld l0 l1 p0 ps o n ho ho4 hn hpl hpa hx hmax hll h8 hB, hU0.chg hc (fun _ => hop)⟩
    match ps, hlt with
    | [], _ => show (0 : Nat) < _; decide
    | [x], hlt => exact hlt x (by simp)
    | x :: y :: zs, _ => show l0 < _; omega
end
end Go.Proofs.Ytngaifokkkmmcaa
