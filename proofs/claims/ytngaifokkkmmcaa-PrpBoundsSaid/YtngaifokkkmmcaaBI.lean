/- Build at a memory, where its arguments are right. Conditions stand in each theorem. -/
import Derived.Test.YtngaifokkkmmcaaBH
namespace Go.Proofs.Ytngaifokkkmmcaa
open Go.RowKit Go.Shelf
set_option linter.unusedVariables false
set_option maxHeartbeats 4000000
set_option maxRecDepth 100000
section
variable {w : World} {base b d cap : Nat} {m : Mm}
theorem Build_go (h : Mem w base b d cap m) (hG : Gm m) (vl vp : Value) (ls : List Nat) (p0 : Nat) (ps : List Nat) (F n : Nat) (hF : F < 4096) (hF4 : F % 4 = 0) (hn0 : 0 < n) (hn : n ≤ 1048576) (hl : U64s w vl ls) (hll : ls.length ≤ 100000) (hal : alst ls = true)
    (hp : U64s w vp (p0 :: ps)) (hop : ∀ g, vp.ownBlock = some g → ¬ (g = b ∨ g = d)) (hpl : (p0 :: ps).length = cnt F (n : Int)) (hpa : aln 4096 (p0 :: ps) = true) (r : Except Int (Mm × Nat))
    (HF : ∀ W v, Below w.heap.size w W → U64s W v ps → (∀ S : Nat → Prop, (∀ b, vp.ownBlock = some b → ¬ S b) → ∀ b, v.ownBlock = some b → ¬ S b) → Calls Try.prog 38 #[.pointer (some ⟨b, 0, none⟩), vl, v] W (FuP W base b d cap r)) :
    Calls Try.prog 15 #[.pointer (some ⟨b, 0, none⟩), vl, vp, .int .i64 (F : Int), .int .i64 (n : Int)] w (BdP w base b d cap (bdR r (p0 + F))) := by
  obtain ⟨W0, hW0⟩ : ∃ W0, W0 = ((w.alloc (.cells #[.int .u64 0] 23)).alloc (.cells #[.int .u64 0] 23)).alloc (.cells #[.int .i64 0] 38) := ⟨_, rfl⟩
  obtain ⟨bl, sz, x0, x1, x2⟩ := boxes_new w W0 hW0
  have hp0 := hp.lt (j := 0) (by simp)
  simp only [List.getElem_cons_zero] at hp0
  have hpm : p0 % 4096 = 0 := by
    have := hpa
    simp [aln] at this
    exact this.1
  have hadd : IntKind.u64.wrap ((p0 : Int) + (F : Int)) = ((p0 + F : Nat) : Int) := by rw [IntKind.wrap_u64]; omega
  have hadd2 : wrap64 ((p0 : Int) + (F : Int)) = wrap64 ((p0 : Int) + (F : Int)) := rfl
  have hcv : IntKind.u64.wrap (F : Int) = (F : Int) := by rw [IntKind.wrap_u64]; omega
  have hmod : (F : Int).tmod 4 = 0 := by rw [Int.tmod_eq_emod_of_nonneg (by omega)]; omega
  have dF : decide ((F : Int) < 4096) = true := decide_eq_true (by omega)
  have dF2 : decide (F < 4096) = true := decide_eq_true hF
  have hcl := cnt_le F (n : Int)
  have HRR := Lib.hid (reqT_ok (h.below bl) hG (n : Int) (by omega) (by omega))
  have HC := Lib.hid (fun W => Count_any F (n : Int) W (by omega))
  have HA := Lib.hid (fun W (hb : Below w.heap.size w W) => areAligned_lit vp (p0 :: ps) 4096 4096 rfl W (hp.below hb) (by simp at hpl ⊢; omega) (by decide))
  have HL := Lib.hid (fun W (hb : Below w.heap.size w W) => areLists_any vl ls W (hl.below hb) (by omega))
  rw [hpa] at HA
  rw [hal] at HL
  rw [← hpl] at HC
  have HQ := Lib.hid (req6_yB 2)
  obtain ⟨vd, hdr, hdu, ⟨A5, c5, rfl⟩, hdo⟩ := drop64 hp 1 (by simp) (by simp at hpl ⊢; omega)
  have hp' := hp
  obtain ⟨A, c, rfl, -, -, hr⟩ := hp
  obtain ⟨g, o, rfl, hg, hcell⟩ := hr (by simp)
  have c0 := hcell 0 (by simp)
  rw [Nat.add_zero] at c0
  have c1 : w.cell? ⟨g, o, none⟩ = some (.int .u64 (p0 : Int)) := c0
  have HFF := Lib.hid (fun W (hb : Below w.heap.size w W) => HF W _ hb (hdu W (hp'.below hb)) hdo)
  have hdn : decide ((n : Int) = 0) = false := decide_eq_false (by omega)
  have hdn2 : ((n : Int) == 0) = false := beq_eq_false_iff_ne.2 (by omega)
  have hn0' : ¬ n = 0 := by omega
  have HBD := Lib.hid (And.intro h.lt h.dlt)
  obtain ⟨X, hX⟩ : ∃ X, X = p0 + F := ⟨_, rfl⟩
  rw [← hX] at hadd ⊢
  have hlen : (p0 :: ps).length = ps.length + 1 := rfl
  rw [hlen] at HC HA hdr HFF ⊢
  obtain ⟨M, hM⟩ : ∃ M, M = ps.length + 1 := ⟨_, rfl⟩
  rw [← hM] at HC HA hdr HFF ⊢
  have hM1 : 1 ≤ M := by omega
  have hE := hdr w
  obtain ⟨i0, hi0, hz0, hz1, hz2⟩ := info_parts u64_info
  rw [run_slice_l (P := Try.prog) (w := w) (t := 44) (a := some ⟨g, o, none⟩) (len := M) (cap := c) (ht := under44e) .i64 ((1 : Nat) : Int) (by omega) (by omega)] at hE
  simp [sizeOf, typeInfo, elem44, hi0, hz1, sliced, add_plain] at hE
  rw [← hE.1, ← hE.2] at HFF
  clear hE hi0 hz0 hz1 hz2 i0 hdr
  have hgn : ¬ (g = b ∨ g = d) := hop g rfl
  have hM2 : (1 : Int) ≤ (M : Int) := by omega
  have hM3 : (0 : Int) < (M : Int) := by omega
  have hM4 : 0 < M := by omega
  have hM5 : M ≤ 257 := by rw [hM]; omega
  have hM6 : (M : Int) ≤ 257 := by omega
  obtain ⟨A7, c7, rfl⟩ : ∃ A c, vl = .slice A ls.length c := by obtain ⟨A, c, e, -⟩ := hl; exact ⟨A, c, e⟩
  have HW0 := Lib.hid hW0
  have HX := Lib.hid (And.intro bl (And.intro sz (And.intro x0 (And.intro x1 x2))))
  have hgl : g < w.heap.size := hg
  have HGN := Lib.hid hgn
  clear hgn
  have HK : Hid (∀ W, Below W0.heap.size W0 W → Below w.heap.size w W ∧ W.cell? ⟨g, o, none⟩ = some (.int .u64 (p0 : Int))) := Lib.hid fun W hb => by
    have hB : Below w.heap.size w W := bl.trans (hb.mono (by omega))
    exact ⟨hB, (hB.cell (p := ⟨g, o, none⟩) hgl).trans c1⟩
  clear hW0 bl sz x0 x1 x2 HF hr hcell c0 hp' hl hdu hdo h hG hpa hal hpl hcl hF hF4 hn hn0 hpm hp0 hX hM hlen hg hll
  refine calls_of_wpF Try.func15 rfl ?_
  simp only [Try.ntmps15, List.size_toArray, List.length_cons, List.length_nil, Nat.reduceAdd, Nat.reduceSub, Array.replicate_succ, Array.replicate_zero, List.push_toArray, List.append_toArray, List.nil_append, List.cons_append]
  refine wpF_of ?_
  go_wp2_with fail
  rw [← HW0.out]
  with_reducible refine HRR.out.mono ?_
  rintro e w1 ⟨rfl, hb⟩
  have HB1 := Lib.hid hb
  clear hb
  go_wp2_with (first
    | ((go_at_call 21; with_reducible refine (HC.out _).mono ?_); rintro e w' ⟨rfl, rfl⟩)
    | ((go_at_call 36; with_reducible refine (HA.out _ (HK.out _ HB1.out).1).mono ?_); rintro e w2 ⟨rfl, hb⟩; have HB2 := Lib.hid (HB1.out.trans (hb.mono HB1.out.size)); clear hb)
    | ((go_at_call 37; with_reducible refine (HL.out _ (HK.out _ HB2.out).1).mono ?_); rintro e w3 ⟨rfl, hb⟩; have HB3 := Lib.hid (HB2.out.trans (hb.mono HB2.out.size)); clear hb))
  with_reducible refine (HQ.out _).mono ?_
  rintro e w4 ⟨rfl, hb⟩
  have HB4 := Lib.hid (HB3.out.trans (hb.mono HB3.out.size))
  clear hb
  obtain ⟨hB4, c4⟩ := HK.out _ HB4.out
  clear hB4
  go_wp2
  refine wp_region_held_drew (S := fun w' => w'.cell? ⟨g, o, none⟩ = some (.int .u64 (p0 : Int))) (by kernel_rfl) c4 (fun hHeld => ?_)
  refine wpAnyH_take (i := 0) (v := ?v0) rfl (by kernel_rfl) (by kernel_rfl) (by kernel_rfl) (hq15 39 (by decide) _) (Or.inl ⟨by rfl, ?y0⟩) hHeld ?r0
  case y0 =>
    intro W hSw
    go_simp
    try with_reducible rfl
  try simp only [Act.put, List.setIfInBounds_toArray]
  refine wpAnyH_take (i := 1) (v := ?v1) rfl (by kernel_rfl) (by kernel_rfl) (by kernel_rfl) (hq15 40 (by decide) _) (Or.inl ⟨by rfl, ?y1⟩) hHeld ?r1
  case y1 =>
    intro W hSw
    go_simp
    try with_reducible rfl
  try simp only [Act.put]
  refine wpAnyH_take (i := 2) (v := ?v2) rfl (by kernel_rfl) (by kernel_rfl) (by kernel_rfl) (hq15 41 (by decide) _) (Or.inl ⟨by rfl, ?y2⟩) hHeld ?r2
  case y2 =>
    intro W hSw
    go_simp
    try with_reducible rfl
  try simp only [Act.put]
  refine wpAnyH_take (i := 3) (v := ?v3) rfl (by kernel_rfl) (by kernel_rfl) (by kernel_rfl) (hq15 42 (by decide) _) (Or.inl ⟨by rfl, ?y3⟩) hHeld ?r3
  case y3 =>
    intro W hSw
    go_simp
    try with_reducible rfl
  try simp only [Act.put]
  refine wpAnyH_take (i := 4) (v := ?v4) rfl (by kernel_rfl) (by kernel_rfl) (by kernel_rfl) (hq15 43 (by decide) _) (Or.inl ⟨by rfl, ?y4⟩) hHeld ?r4
  case y4 =>
    intro W hSw
    go_simp
    try with_reducible rfl
  try simp only [Act.put]
  refine wpAnyH_take (i := 5) (v := ?v5) rfl (by kernel_rfl) (by kernel_rfl) (by kernel_rfl) (hq15 44 (by decide) _) (Or.inl ⟨by rfl, ?y5⟩) hHeld ?r5
  case y5 =>
    intro W hSw
    go_simp
    try with_reducible rfl
  try simp only [Act.put]
  refine wpAnyH_take (i := 6) (v := ?v6) rfl (by kernel_rfl) (by kernel_rfl) (by kernel_rfl) (hq15 45 (by decide) _) (Or.inl ⟨by rfl, ?y6⟩) hHeld ?r6
  case y6 =>
    intro W hSw
    go_simp
    try with_reducible rfl
  try simp only [Act.put]
  refine wpAnyH_take (i := 7) (v := ?v7) rfl (by kernel_rfl) (by kernel_rfl) (by kernel_rfl) (hq15 46 (by decide) _) (Or.inl ⟨by rfl, ?y7⟩) hHeld ?r7
  case y7 =>
    intro W hSw
    go_simp
    try with_reducible rfl
  try simp only [Act.put]
  refine wpAnyH_take (i := 8) (v := ?v8) rfl (by kernel_rfl) (by kernel_rfl) (by kernel_rfl) (hq15 47 (by decide) _) (Or.inl ⟨by rfl, ?y8⟩) hHeld ?r8
  case y8 =>
    intro W hSw
    go_simp
    try with_reducible rfl
  try simp only [Act.put]
  refine wpAnyH_take (i := 9) (v := ?v9) rfl (by kernel_rfl) (by kernel_rfl) (by kernel_rfl) (hq15 48 (by decide) _) (Or.inl ⟨by rfl, ?y9⟩) hHeld ?r9
  case y9 =>
    intro W hSw
    go_simp
    try with_reducible rfl
  try simp only [Act.put]
  refine wpAnyH_ready (rs := [10]) (by kernel_rfl) (by simp) ?_
  refine AllReadyH.cons rfl (fun K hK => ?_) AllReadyH.nil
  go_simp
  have HFX := Lib.hid (HFF.out w4.drew (HK.out _ (HB4.out.drew)).1)
  clear HFF
  with_reducible refine HFX.out.mono ?_
  cases r with
  | error q =>
    rintro e w5 ⟨rfl, hb⟩
    obtain ⟨bl, sz, x0, x1, x2⟩ := HX.out
    have hb0 := HB4.out.drew.trans (hb.mono HB4.out.drew.size)
    refine leaveB_err (w := w) (n0 := w.heap.size) (⟨⟨_, (hb0.block _ (by omega)).trans x0⟩, ⟨_, (hb0.block _ (by omega)).trans x1⟩, ⟨_, (hb0.block _ (by omega)).trans x2⟩⟩) ⟨rfl, rfl, rfl⟩ fun W' hc => ⟨rfl, ?_⟩
    exact (bl.trans (hb0.mono (by omega))).trans (hc.below (by have := hb0.size; omega) fun i hi => by omega)
  | ok v =>
    obtain ⟨m', yy⟩ := v
    rintro e w5 ⟨rfl, hm5, hc5⟩
    have hgl4 : g < w4.drew.heap.size := by have := (HK.out _ HB4.out).1.size; show g < w4.heap.size; omega
    have c5 := (hc5.cell (p := ⟨g, o, none⟩) hgl4 HGN.out).trans hHeld
    obtain ⟨bl, sz, x0, x1, x2⟩ := HX.out
    have hbd := HBD.out
    have hs4 := HB4.out.size
    have y : ∀ k o', k < W0.heap.size → ¬ (k = b ∨ k = d) → W0.heap[k]? = some o' → w5.heap[k]? = some o' := fun k o' hk hne ho => (hc5.block k (by show k < w4.heap.size; omega) hne).trans ((HB4.out.block k hk).trans ho)
    have y0 := y _ _ (by omega) (by omega) x0
    have y1 := y _ _ (by omega) (by omega) x1
    have y2 := y _ _ (by omega) (by omega) x2
    have HT := Lib.hid (three_boxes (a := .int .u64 (X : Int)) (b := .int .u64 (yy : Int)) (c := .int .i64 0) y0 y1 y2 _ rfl)
    obtain ⟨Wa, hWa⟩ : ∃ Wa, Wa = w5.setCell ⟨w.heap.size, 0, none⟩ (.int .u64 (X : Int)) := ⟨_, rfl⟩
    obtain ⟨Wb, hWb⟩ : ∃ Wb, Wb = Wa.setCell ⟨w.heap.size + 1, 0, none⟩ (.int .u64 (yy : Int)) := ⟨_, rfl⟩
    rw [← hWa, ← hWb] at HT
    have za : ∀ k, k ≠ w.heap.size → Wa.heap[k]? = w5.heap[k]? := fun k hk => by rw [hWa]; exact Below.heap_setCell w5 ⟨w.heap.size, 0, none⟩ _ k hk
    have zb : ∀ k, k ≠ w.heap.size + 1 → Wb.heap[k]? = Wa.heap[k]? := fun k hk => by rw [hWb]; exact Below.heap_setCell Wa ⟨w.heap.size + 1, 0, none⟩ _ k hk
    have k0 := cell_of_row w5 w.heap.size 0 _ 23 (0, 0) y0
    have f0 := frozen_of_row w5 w.heap.size 0 _ 23 y0
    have k1 := cell_of_row Wa (w.heap.size + 1) 0 _ 23 (0, 0) ((za _ (by omega)).trans y1)
    have f1 := frozen_of_row Wa (w.heap.size + 1) 0 _ 23 ((za _ (by omega)).trans y1)
    have k2 := cell_of_row Wb (w.heap.size + 1 + 1) 0 _ 38 (0, 0) ((zb _ (by omega)).trans ((za _ (by omega)).trans y2))
    have f2 := frozen_of_row Wb (w.heap.size + 1 + 1) 0 _ 38 ((zb _ (by omega)).trans ((za _ (by omega)).trans y2))
    have ca : Wa.cell? ⟨g, o, none⟩ = some (.int .u64 (p0 : Int)) := (World.cell?_of_block (w := w5) (w' := Wa) (a := ⟨g, o, none⟩) (za g (by omega))).trans c5
    have cb : Wb.cell? ⟨g, o, none⟩ = some (.int .u64 (p0 : Int)) := (World.cell?_of_block (w := Wa) (w' := Wb) (a := ⟨g, o, none⟩) (zb g (by omega))).trans ca
    have HEND : Hid (BdP w base b d cap (bdR (.ok (m', yy)) X) (.returned (.tuple #[.int .u64 (X : Int), .int .u64 (yy : Int), .int .i64 0])) (Wb.setCell ⟨w.heap.size + 1 + 1, 0, none⟩ (.int .i64 0))) := Lib.hid (by
      obtain ⟨-, -, -, hc⟩ := HT.out
      refine ⟨rfl, hm5.chg hc (by omega) (by omega), ?_⟩
      have h1 : Chg (fun k => k = b ∨ k = d) w w5 := (Chg.of_below (HK.out _ HB4.out.drew).1).also hc5
      exact h1.trans hc (fun i hi hlt => by omega))
    have HWA := Lib.hid hWa
    have HWB := Lib.hid hWb
    clear y za zb y0 y1 y2 x0 x1 x2 hbd hWa hWb
    refine hK.out _ _ c5 (fun hHeld2 => ?_)
    clear hK K
    try simp only [Act.put, List.setIfInBounds_toArray, List.set_cons_zero, List.set_cons_succ]
    refine wpAnyH_ready (rs := [11]) (by kernel_rfl) (by simp) ?_
    refine AllReadyH.cons rfl (fun K hK => ?_) AllReadyH.nil
    go_simp
    rw [← HWA.out]
    refine hK.out _ _ ca (fun hHeld3 => ?_)
    clear hK K
    try simp only [Act.put, List.setIfInBounds_toArray, List.set_cons_zero, List.set_cons_succ]
    refine wpAnyH_ready (rs := [12]) (by kernel_rfl) (by simp) ?_
    refine AllReadyH.cons rfl (fun K hK => ?_) AllReadyH.nil
    go_simp
    rw [← HWB.out]
    refine hK.out _ _ cb (fun hHeld4 => ?_)
    clear hK K
    try simp only [Act.put, List.setIfInBounds_toArray, List.set_cons_zero, List.set_cons_succ]
    refine wpAnyH_ready (rs := [13]) (by kernel_rfl) (by simp) ?_
    refine AllReadyH.cons rfl (fun K hK => ?_) AllReadyH.nil
    go_simp
    have cd : (Wb.setCell ⟨w.heap.size + 1 + 1, 0, none⟩ (.int .i64 0)).cell? ⟨g, o, none⟩ = some (.int .u64 (p0 : Int)) := (World.cell?_of_block (w := Wb) (a := ⟨g, o, none⟩) (Below.heap_setCell Wb ⟨w.heap.size + 1 + 1, 0, none⟩ _ g (by show g ≠ w.heap.size + 1 + 1; omega))).trans cb
    refine hK.out _ _ cd (fun hHeld5 => ?_)
    clear hK K
    try simp only [Act.put, List.setIfInBounds_toArray, List.set_cons_zero, List.set_cons_succ]
    refine wpAnyH_done (by kernel_rfl) ?_ _
    go_wp2
    all_goals exact leaveB_ok HT.out.1 HT.out.2.1 HT.out.2.2.1 ⟨rfl, rfl, rfl⟩ HEND.out
end
end Go.Proofs.Ytngaifokkkmmcaa
