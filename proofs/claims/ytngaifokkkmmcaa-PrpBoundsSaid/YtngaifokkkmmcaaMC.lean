/- Rows of numbers that grow; Build of nothing. Conditions stand in each theorem. -/
import Derived.Test.YtngaifokkkmmcaaMB
namespace Go.Proofs.Ytngaifokkkmmcaa
open Go.RowKit Go.Shelf
set_option linter.unusedVariables false
set_option maxHeartbeats 4000000
set_option maxRecDepth 100000
theorem uv_length (xs : List Nat) : (uv xs).length = xs.length := by simp [uv]
theorem uv_one2 (xs : List Nat) : ∀ u ∈ uv xs, u.oneCell' = true := uv_one xs
theorem app_u64 (w : World) (base n : Nat) (v : Value) (L : List Nat) (p : Nat) (x : Addr) (hown : w.ownsRow base 23 1 v n (uv L)) (hx : ∀ j u, (uv [p])[j]? = some u → w.cell? (x.add j) = some u) (hsz : n ≤ 1000000) (hbase : base ≤ w.heap.size) :
    ∃ A c w', (Builtin.append_ #[44, 44] 44 #[v, .slice (some x) 1 1]).run Try.prog w = .ok (.slice A (n + 1) c) w' ∧ w'.ownsRow base 23 1 (.slice A (n + 1) c) (n + 1) (uv (L ++ [p])) ∧ w.grownBy w' v.ownBlock := by
  obtain ⟨i0, hi0, hz0, hz1, hz2⟩ := info_parts u64_info
  obtain ⟨v', w', hrun, h3, h4, _, _⟩ := run_append_own_at (P := Try.prog) w base 44 44 23 i0 _ 1 8 Try.underlying44 hi0 hz0 hz1 hz2 rfl (by decide) v n (uv L) hown x 1 1 (uv [p]) rfl hx (uv_one2 _) (by unfold maxLen; omega) (by omega) hbase
  obtain ⟨A, c, rfl⟩ := own_form h3
  exact ⟨A, c, w', hrun, by simpa [uv] using h3, h4⟩
theorem u64_of_own {w : World} {base : Nat} {v : Value} {l : List Nat} (h : w.ownsRow base 23 1 v l.length (uv l)) (hl : ∀ x ∈ l, x < 18446744073709551616) : U64s w v l := by
  rcases h.2 with ⟨rfl, h0⟩ | ⟨g, cap, cur, rfl, _, hg, hnc, _, _, _⟩
  · exact ⟨none, 0, by rw [h0], by omega, hl, fun hp => absurd hp (by omega)⟩
  · refine ⟨_, cap, rfl, hnc, hl, fun hp => ⟨g, 0, rfl, (Array.getElem?_eq_some_iff.1 hg).1, fun j hj => ?_⟩⟩
    rw [Nat.zero_add, h.cellAt j (by omega)]
    simp [uv, hj]
section
variable {w : World} {base b d cap : Nat} {m : Mm}
theorem Build_zero (h : Mem w base b d cap m) (hG : Gm m) (vl vp : Value) (ls : List Nat) (F : Nat) (hF : F < 4096) (hF4 : F % 4 = 0) (hl : U64s w vl ls) (hll : ls.length ≤ 100000) (hal : alst ls = true) (hp : U64s w vp []) :
    Calls Try.prog 15 #[.pointer (some ⟨b, 0, none⟩), vl, vp, .int .i64 (F : Int), .int .i64 0] w (BdP w base b d cap (.ok (m, 0, 0))) := by
  obtain ⟨W0, hW0⟩ : ∃ W0, W0 = ((w.alloc (.cells #[.int .u64 0] 23)).alloc (.cells #[.int .u64 0] 23)).alloc (.cells #[.int .i64 0] 38) := ⟨_, rfl⟩
  obtain ⟨bl, sz, x0, x1, x2⟩ := boxes_new w W0 hW0
  have hcv : IntKind.u64.wrap (F : Int) = (F : Int) := by rw [IntKind.wrap_u64]; omega
  have hmod : (F : Int).tmod 4 = 0 := by rw [Int.tmod_eq_emod_of_nonneg (by omega)]; omega
  have dF : decide ((F : Int) < 4096) = true := decide_eq_true (by omega)
  have dF2 : decide (F < 4096) = true := decide_eq_true hF
  have HRR := Lib.hid (reqT_ok (h.below bl) hG 0 (by omega) (by omega))
  have hc0 : cnt F 0 = 0 := by unfold cnt; rw [if_pos (.inl (by omega))]
  have HC := Lib.hid (fun W => show Calls Try.prog 21 #[.int .u64 (F : Int), .int .i64 0] W fun e w' => e = .returned (.int .i64 0) ∧ W = w' from (Count_any F 0 W (by omega)).mono fun e w' ⟨h1, h2⟩ => ⟨by rw [h1, hc0]; rfl, h2⟩)
  have HA := Lib.hid (fun W (hb : Below w.heap.size w W) => areAligned_lit vp [] 4096 4096 rfl W (hp.below hb) (by simp) (by decide))
  have HL := Lib.hid (fun W (hb : Below w.heap.size w W) => areLists_any vl ls W (hl.below hb) (by omega))
  have hpa : aln 4096 [] = true := rfl
  rw [hpa] at HA
  rw [hal] at HL
  have HQ := Lib.hid (req6_yB 2)
  obtain ⟨A, c, rfl, -⟩ := hp
  have hlen : ([] : List Nat).length = 0 := rfl
  rw [hlen] at HA ⊢
  have HBD := Lib.hid h
  obtain ⟨A7, c7, rfl⟩ : ∃ A c, vl = .slice A ls.length c := by obtain ⟨A, c, e, -⟩ := hl; exact ⟨A, c, e⟩
  have HW0 := Lib.hid hW0
  have HX := Lib.hid (And.intro bl (And.intro sz (And.intro x0 (And.intro x1 x2))))
  have HK : Hid (∀ W, Below W0.heap.size W0 W → Below w.heap.size w W) := Lib.hid fun W hb => bl.trans (hb.mono (by omega))
  clear hW0 bl sz x0 x1 x2 hl h hG hpa hal hF hF4 hlen hll hc0
  refine calls_of_wpF Try.func15 rfl ?_
  simp only [Try.ntmps15, List.size_toArray, List.length_cons, List.length_nil, Nat.reduceAdd, Nat.reduceSub, Array.replicate_succ, Array.replicate_zero, List.push_toArray, List.append_toArray, List.nil_append, List.cons_append]
  refine wpF_of ?_
  go_wp2_with fail
  rw [← HW0.out]
  with_reducible refine HRR.out.mono ?_
  rintro e w1 ⟨rfl, hb⟩
  have HB1 := Lib.hid hb
  clear hb
  go_wp2_with (first
    | ((go_at_call 21; with_reducible refine (HC.out _).mono ?_); rintro e w' ⟨rfl, rfl⟩)
    | ((go_at_call 36; with_reducible refine (HA.out _ (HK.out _ HB1.out)).mono ?_); rintro e w2 ⟨rfl, hb⟩; have HB2 := Lib.hid (HB1.out.trans (hb.mono HB1.out.size)); clear hb)
    | ((go_at_call 37; with_reducible refine (HL.out _ (HK.out _ HB2.out)).mono ?_); rintro e w3 ⟨rfl, hb⟩; have HB3 := Lib.hid (HB2.out.trans (hb.mono HB2.out.size)); clear hb))
  with_reducible refine (HQ.out _).mono ?_
  rintro e w4 ⟨rfl, hb⟩
  have HB4 := Lib.hid (HB3.out.trans (hb.mono HB3.out.size))
  clear hb
  obtain ⟨bl, sz, x0, x1, x2⟩ := HX.out
  have y0 := (HB4.out.block _ (by omega)).trans x0
  have y1 := (HB4.out.block _ (by omega)).trans x1
  have y2 := (HB4.out.block _ (by omega)).trans x2
  have HT := Lib.hid (three_boxes (a := .int .u64 0) (b := .int .u64 0) (c := .int .i64 0) y0 y1 y2 _ rfl)
  have k0 := cell_of_row w4 w.heap.size 0 _ 23 (0, 0) y0
  have f0 := frozen_of_row w4 w.heap.size 0 _ 23 y0
  have k1 := cell_of_row w4 (w.heap.size + 1) 0 _ 23 (0, 0) y1
  have f1 := frozen_of_row w4 (w.heap.size + 1) 0 _ 23 y1
  have k2 := cell_of_row w4 (w.heap.size + 1 + 1) 0 _ 38 (0, 0) y2
  have f2 := frozen_of_row w4 (w.heap.size + 1 + 1) 0 _ 38 y2
  have e0 : w4.setCell ⟨w.heap.size, 0, none⟩ (.int .u64 0) = w4 := setCell_id y0
  have e1 : w4.setCell ⟨w.heap.size + 1, 0, none⟩ (.int .u64 0) = w4 := setCell_id y1
  have e2 : w4.setCell ⟨w.heap.size + 1 + 1, 0, none⟩ (.int .i64 0) = w4 := setCell_id y2
  have HE : Hid (∀ tm, TB w.heap.size tm → LeavesInM Fence.wide 9 Try.prog Try.f15 tm (BdP w base b d cap (.ok (m, 0, 0))) [dfB w.heap.size] .returning w4) := Lib.hid fun tm ht =>
    leaveB_ok y0 y1 y2 ht ⟨rfl, HBD.out.below (HK.out _ HB4.out), Chg.of_below (HK.out _ HB4.out)⟩
  clear bl sz x0 x1 x2 y0 y1 y2
  go_wp2
  exact HE.out _ ⟨rfl, rfl, rfl⟩
end
end Go.Proofs.Ytngaifokkkmmcaa
