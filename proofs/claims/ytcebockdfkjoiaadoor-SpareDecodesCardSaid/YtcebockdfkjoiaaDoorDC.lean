/- The walk of SpareDecodes. Condition: the table lies as the program's text lays it. -/
import Derived.Test.YtcebockdfkjoiaaDoorDB
import Derived.Test.YtcebockdfkjoiaaDoorL
namespace Go.Proofs.YtcebockdfkjoiaaDoor
open Go.RowKit
set_option linter.unusedVariables false
set_option maxHeartbeats 8000000
set_option maxRecDepth 100000

/-- All of the first k bytes are FF, and there are 64. -/
def blk (l : List UInt8) (k : Nat) : Bool := decide (l.length = 64) && (l.take k).all (fun x => x == 255)
theorem blk_step (l : List UInt8) (k : Nat) (h : k < l.length) : blk l (k + 1) = (blk l k && (l[k] == 255)) := by
  unfold blk
  rw [List.take_succ_eq_append_getElem h, List.all_append]
  simp [Bool.and_assoc]
theorem blk_all (l : List UInt8) : blk l l.length = decide (l = List.replicate 64 255) := by
  unfold blk
  rw [List.take_length, Bool.eq_iff_iff]
  simp only [Bool.and_eq_true, decide_eq_true_eq, List.all_eq_true, beq_iff_eq]
  constructor
  · rintro ⟨h1, h2⟩
    exact List.eq_replicate_iff.2 ⟨h1, h2⟩
  · intro h
    rw [List.eq_replicate_iff] at h
    exact h
theorem byte_beq (x : UInt8) : ((x.toNat : Int) == 255) = (x == 255) := by
  rw [Bool.eq_iff_iff, beq_iff_eq, beq_iff_eq, ← UInt8.toNat_inj]
  simp
  omega
theorem decodes_early (v1 v2 : Value) (l data : List UInt8) (sealed : Bool) (w : World) (hT : Tabs w) (h1 : Byt w v1 l) (h2 : Byt w v2 data) (hm1 : l.length ≤ maxLen) (hm2 : data.length ≤ maxLen) (hc : 70 < l.length ∨ 300 < data.length) :
    Calls Tryd.prog 4 #[v1, v2, .bool sealed] w fun e w' => e = .returned (.bool true) ∧ Below w.heap.size w w' := by
  unfold maxLen at hm1 hm2
  have HT := Lib.hid hT; clear hT
  obtain ⟨A, c, rfl, -, -⟩ := h1
  obtain ⟨A2, c2, rfl, -, -⟩ := h2
  generalize l.length = n at *
  generalize data.length = m at *
  by_cases h : 70 < n
  · have g1 : (70 : Int) < n := by omega
    have g2 : decide ((70 : Int) < n) = true := decide_eq_true g1
    clear hc
    go_enter Tryd.func4, Tryd.ntmps4
    go_wp2_with fail
    refine (works_any _ HT.out).mono ?_
    rintro e w3 ⟨rfl, hb3⟩
    have Hb3 := Lib.hid hb3; clear hb3
    go_wp2
    go_ret
    exact ⟨rfl, Hb3.out⟩
  · have g1 : decide ((70 : Int) < n) = false := decide_eq_false (by omega)
    have g3 : (300 : Int) < m := by omega
    have g2 : decide ((300 : Int) < m) = true := decide_eq_true g3
    clear hc
    go_enter Tryd.func4, Tryd.ntmps4
    go_wp2_with fail
    refine (works_any _ HT.out).mono ?_
    rintro e w3 ⟨rfl, hb3⟩
    have Hb3 := Lib.hid hb3; clear hb3
    go_wp2
    go_ret
    exact ⟨rfl, Hb3.out⟩
theorem decodes_main (v1 v2 : Value) (l data : List UInt8) (sealed : Bool) (w : World) (hT : Tabs w) (h1 : Byt w v1 l) (h2 : Byt w v2 data) (hm1 : l.length ≤ 70) (hm2 : data.length ≤ 300) :
    Calls Tryd.prog 4 #[v1, v2, .bool sealed] w fun e w' => e = .returned (.bool true) ∧ Below w.heap.size w w' := by
  obtain ⟨va, wa, hr1, ho, hbw⟩ := one_append w v1 l h1 (by omega)
  have Hr1 := Lib.hid hr1
  have HO := Lib.hid ho
  have HBW := Lib.hid hbw
  have HT := Lib.hid hT
  have HBo := Lib.hid (Byt.of_own ho)
  have H2 := Lib.hid (h2.below hbw)
  have HH2 := Lib.hid h2
  obtain ⟨A, c, hva, -, -⟩ := HBo.out
  subst hva
  obtain ⟨A1, c1, rfl, -, -⟩ := h1
  obtain ⟨A2, c2, rfl, -, -⟩ := h2
  obtain ⟨n, hn⟩ : ∃ n, n = l.length := ⟨_, rfl⟩
  obtain ⟨m, hm⟩ : ∃ m, m = data.length := ⟨_, rfl⟩
  rw [← hn] at hm1 Hr1 HO HBo ⊢
  rw [← hm] at hm2 H2 HH2 ⊢
  have HL := Lib.hid hn.symm
  have HM := Lib.hid hm.symm
  clear hr1 ho hbw hT hn hm
  have d1 : decide ((70 : Int) < n) = false := decide_eq_false (by omega)
  have d2 : decide ((300 : Int) < m) = false := decide_eq_false (by omega)
  cases sealed
  · obtain ⟨L', W1, hS, hW⟩ : ∃ L' W1, (L'.length = n ∧ Byt W1 (.slice A n c) L' ∧ Byt W1 (.slice A2 m c2) data ∧ Below w.heap.size w W1) ∧ W1 = wa := ⟨l, wa, ⟨HL.out, HBo.out, H2.out, HBW.out⟩, rfl⟩
    have HS := Lib.hid hS
    subst hW
    clear hS
    go_enter Tryd.func4, Tryd.ntmps4
    go_upto_region 6 with (at_builtin; refine wpList_append_run rfl (.tmp 22) (.tmp 23) 26 26 rfl _ _ _ _ rfl rfl Hr1.out ?_)
    obtain ⟨S, hS⟩ : ∃ S, S = (Sp.dec L' data).1 := ⟨_, rfl⟩
    obtain ⟨E, hE⟩ : ∃ E, E = (Sp.dec L' data).2 := ⟨_, rfl⟩
    have HD1 := Lib.hid (show Calls Tryd.prog 16 #[.slice A n c, .slice A2 m c2] W1 fun e w' => e = .returned (.tuple #[.agg #[.int .u8 (S.kind : Int), .int .i64 S.sector, .int .u64 (S.seq : Int), .int .u64 (S.prev : Int), .int .i64 S.index, .int .i64 S.length], .int .i64 E]) ∧ Below W1.heap.size W1 w' from by rw [hS, hE]; exact Decode_any _ _ L' data W1 (HT.out.below HS.out.2.2.2) HS.out.2.1 HS.out.2.2.1 (by rw [HS.out.1]; unfold maxLen; omega) (by rw [HM.out]; unfold maxLen; omega))
    have HD2 := Lib.hid (fun (W : World) (hW : Below W1.heap.size W1 W) => (show Calls Tryd.prog 17 #[.slice A n c, .slice A2 m c2] W fun e w' => e = .returned (.tuple #[.agg #[.int .u8 (S.kind : Int), .int .i64 S.sector, .int .u64 (S.seq : Int), .int .u64 (S.prev : Int), .int .i64 S.index, .int .i64 S.length], .int .i64 E]) ∧ Below W.heap.size W w' from by rw [hS, hE]; exact rDecode_any _ _ L' data W (HS.out.2.1.below hW) (HS.out.2.2.1.below hW) (by rw [HS.out.1]; unfold maxLen; omega) (by rw [HM.out]; omega)))
    clear hS hE
    go_wp2_with fail
    refine HD1.out.mono ?_
    rintro e W2 ⟨rfl, hb2⟩
    have Hb2 := Lib.hid (hb2.trans ((below_alloc W2 (.cells #[.int .u8 (S.kind : Int), .int .i64 S.sector, .int .u64 (S.seq : Int), .int .u64 (S.prev : Int), .int .i64 S.index, .int .i64 S.length] 25)).mono hb2.size))
    have HR2 := Lib.hid (heap_alloc_new W2 (.cells #[.int .u8 (S.kind : Int), .int .i64 S.sector, .int .u64 (S.seq : Int), .int .u64 (S.prev : Int), .int .i64 S.index, .int .i64 S.length] 25))
    clear hb2
    go_wp2_with fail
    refine (HD2.out _ Hb2.out).mono ?_
    rintro e W3 ⟨rfl, hb3⟩
    have HR3 := Lib.hid (row_later HR2.out hb3)
    have Hb3 := Lib.hid (Hb2.out.trans (hb3.mono Hb2.out.size))
    have HN2 := Lib.hid (show W2.heap.size < W3.heap.size from (Array.getElem?_eq_some_iff.1 HR3.out).1)
    clear hb3
    go_upto_region 8 with fail
    have HR4 := Lib.hid (row_later HR3.out (below_alloc W3 (.cells #[.int .u8 (S.kind : Int), .int .i64 S.sector, .int .u64 (S.seq : Int), .int .u64 (S.prev : Int), .int .i64 S.index, .int .i64 S.length] 25)))
    have HQ4 := Lib.hid (heap_alloc_new W3 (.cells #[.int .u8 (S.kind : Int), .int .i64 S.sector, .int .u64 (S.seq : Int), .int .u64 (S.prev : Int), .int .i64 S.index, .int .i64 S.length] 25))
    have Hb4 := Lib.hid (Hb3.out.trans ((below_alloc W3 (.cells #[.int .u8 (S.kind : Int), .int .i64 S.sector, .int .u64 (S.seq : Int), .int .u64 (S.prev : Int), .int .i64 S.index, .int .i64 S.length] 25)).mono Hb3.out.size))
    obtain ⟨n2, hn2⟩ : ∃ n2, n2 = W2.heap.size := ⟨_, rfl⟩
    obtain ⟨n3, hn3⟩ : ∃ n3, n3 = W3.heap.size := ⟨_, rfl⟩
    obtain ⟨W4, hW4⟩ : ∃ W4, W4 = W3.alloc (.cells #[.int .u8 (S.kind : Int), .int .i64 S.sector, .int .u64 (S.seq : Int), .int .u64 (S.prev : Int), .int .i64 S.index, .int .i64 S.length] 25) := ⟨_, rfl⟩
    rw [← hW4] at HR4 HQ4 Hb4 ⊢
    rw [← hn2] at HR4 ⊢
    rw [← hn3] at HQ4 ⊢
    clear hn2 hn3 hW4 HR2 HR3 HN2 Hb2 Hb3 HD1 HD2
    have HB4 := Lib.hid (HS.out.2.1.below Hb4.out)
    have Hw4 := Lib.hid (below_step HS.out.2.2.2 Hb4.out)
    have e0 : ((n : Int) == 64) = blk L' 0 := by
      unfold blk
      rw [List.take_zero, List.all_nil, Bool.and_true, HS.out.1, Bool.eq_iff_iff, beq_iff_eq, decide_eq_true_eq]
      omega
    have HE0 := Lib.hid e0
    clear e0
    have hn70 : (n : Int) ≤ 70 := by omega
    go_wp2
    go_loop [11, 12] (fun bl i => ∃ k : Nat, k ≤ n ∧ i = .int .i64 k ∧ bl = .bool (blk L' k)) (fun _ i => n - (intOf i).toNat)
    case atStart => exact ⟨0, Nat.zero_le _, rfl, by rw [← HE0.out]⟩
    case round =>
      obtain ⟨k, hk, rfl, rfl⟩ := hrel
      by_cases hlt : k < n
      · have hltL : k < L'.length := by have := HS.out.1; omega
        have HST := Lib.hid (blk_step L' k hltL)
        obtain ⟨A', c', ev, -, hcell⟩ := HB4.out
        simp only [Value.slice.injEq] at ev
        obtain ⟨eA, -, rfl⟩ := ev
        rw [← eA] at hcell
        obtain ⟨g', o', hgo, -, hc4⟩ := hcell (by omega)
        cases hgo
        subst eA
        have kc := hc4 k hltL
        (try rw [Nat.zero_add] at kc)
        have HBB := Lib.hid (byte_beq L'[k])
        clear hcell hc4
        generalize L'[k] = x at *
        obtain ⟨y, hy⟩ : ∃ y : Int, y = (x.toNat : Int) := ⟨_, rfl⟩
        rw [← hy] at kc HBB
        have hk0 : (0 : Int) ≤ (k : Int) := by omega
        have hk1 : (k : Int) < (n : Int) := by omega
        clear hy
        cases hbk : blk L' k
        · have HN := Lib.hid (show blk L' (k + 1) = false by rw [HST.out, hbk]; rfl)
          clear hbk
          go_wp2
          go_round
          case rel => exact ⟨k + 1, by omega, by go_num, by rw [HN.out]⟩
          case measure => simp [intOf]; omega
        · have HN := Lib.hid (show blk L' (k + 1) = (y == 255) by rw [HST.out, hbk, HBB.out]; rfl)
          clear hbk
          go_wp2
          go_round
          case rel => exact ⟨k + 1, by omega, by go_num, by rw [HN.out]⟩
          case measure => simp [intOf]; omega
      · have hkl : k = n := by omega
        subst hkl
        have HBL := Lib.hid (show Calls Tryd.prog 18 #[.slice A k c] W4 fun e w' => e = .returned (.bool (blk L' k)) ∧ Below W4.heap.size W4 w' from by
          have := Blank_any _ L' W4 HB4.out
          rw [← blk_all, HS.out.1] at this
          exact this)
        generalize blk L' k = bb at *
        have k0 : W4.cell? ⟨n2, 0, none⟩ = some (.int .u8 (S.kind : Int)) := cell_of_row _ _ 0 _ _ _ HR4.out
        have k1 : W4.cell? ⟨n2, 1, none⟩ = some (.int .i64 S.sector) := cell_of_row _ _ 1 _ _ _ HR4.out
        have k2 : W4.cell? ⟨n2, 2, none⟩ = some (.int .u64 (S.seq : Int)) := cell_of_row _ _ 2 _ _ _ HR4.out
        have k3 : W4.cell? ⟨n2, 3, none⟩ = some (.int .u64 (S.prev : Int)) := cell_of_row _ _ 3 _ _ _ HR4.out
        have k4 : W4.cell? ⟨n2, 4, none⟩ = some (.int .i64 S.index) := cell_of_row _ _ 4 _ _ _ HR4.out
        have k5 : W4.cell? ⟨n2, 5, none⟩ = some (.int .i64 S.length) := cell_of_row _ _ 5 _ _ _ HR4.out
        have q0 : W4.cell? ⟨n3, 0, none⟩ = some (.int .u8 (S.kind : Int)) := cell_of_row _ _ 0 _ _ _ HQ4.out
        have q1 : W4.cell? ⟨n3, 1, none⟩ = some (.int .i64 S.sector) := cell_of_row _ _ 1 _ _ _ HQ4.out
        have q2 : W4.cell? ⟨n3, 2, none⟩ = some (.int .u64 (S.seq : Int)) := cell_of_row _ _ 2 _ _ _ HQ4.out
        have q3 : W4.cell? ⟨n3, 3, none⟩ = some (.int .u64 (S.prev : Int)) := cell_of_row _ _ 3 _ _ _ HQ4.out
        have q4 : W4.cell? ⟨n3, 4, none⟩ = some (.int .i64 S.index) := cell_of_row _ _ 4 _ _ _ HQ4.out
        have q5 : W4.cell? ⟨n3, 5, none⟩ = some (.int .i64 S.length) := cell_of_row _ _ 5 _ _ _ HQ4.out
        go_wp2_with (first
          | ((go_at_call 12; with_reducible refine (num_any _ _).mono ?_); rintro e w' ⟨rfl, rfl⟩)
          | ((go_at_call 18; with_reducible refine HBL.out.mono ?_); rintro e W5 ⟨rfl, hb5⟩; have Hw5 := Lib.hid (below_step Hw4.out hb5); clear hb5)
          | ((go_at_call 8; with_reducible refine (works_any _ (HT.out.below Hw5.out)).mono ?_); rintro e W6 ⟨rfl, hb6⟩; have Hw6 := Lib.hid (below_step Hw5.out hb6); clear hb6))
        go_ret
        exact ⟨rfl, Hw6.out⟩
  · by_cases h64 : n = 64
    · have hl64 : l.length = 64 := HL.out.trans h64
      obtain ⟨g, cg, hvg, hcg, hge, hgl, hrow⟩ := rowAt_own (r := .slice A n c) (l := l) (by rw [HL.out]; exact HO.out) (by omega)
      rw [HL.out] at hvg hcg
      cases hvg
      have HSE := Lib.hid (show Calls Tryd.prog 15 #[.slice (some ⟨g, 0, none⟩) n c, .slice A2 m c2] wa _ from by rw [h64]; exact Seal_any g c l data (.slice A2 m c2) wa hrow hgl hl64 (by omega) H2.out (by rw [HM.out]; exact hm2))
      have d3 : ((n : Int) == 64) = true := by rw [beq_iff_eq]; omega
      have H64 := Lib.hid h64
      have HGE := Lib.hid hge
      have HGL := Lib.hid hgl
      have HCG := Lib.hid hcg
      clear hrow hge hgl hcg hl64 h64
      go_enter Tryd.func4, Tryd.ntmps4
      go_upto_region 6 with (first | (at_builtin; refine wpList_append_run rfl (.tmp 22) (.tmp 23) 26 26 rfl _ _ _ wa rfl rfl Hr1.out ?_) | ((go_at_call 15; with_reducible refine HSE.out.mono ?_); rintro e W1 ⟨rfl, hrow, hch⟩; have HROW := Lib.hid hrow; have HCH := Lib.hid hch; clear hrow hch))
      obtain ⟨L', hL'⟩ : ∃ L', L' = l.take 60 ++ putB (crc32 (data ++ l.take 60)) 4 := ⟨_, rfl⟩
      have hlen : L'.length = n := by rw [hL', List.length_append, List.length_take, putB_length, HL.out, H64.out]; rfl
      rw [← hL'] at HROW
      have HS := Lib.hid (show L'.length = n ∧ Byt W1 (.slice (some ⟨g, 0, none⟩) n c) L' ∧ Byt W1 (.slice A2 m c2) data ∧ Below w.heap.size w W1 from
        ⟨hlen, by have := HROW.out.byt (Nat.lt_of_lt_of_le HGL.out HCH.out.size) (c := c) (by rw [hlen]; exact HCG.out); rwa [hlen] at this,
         byt_chg H2.out HCH.out (fun h0 b hb hg => by
           obtain ⟨A', c', e, -, hr⟩ := HH2.out
           simp only [Value.slice.injEq] at e
           obtain ⟨rfl, -, rfl⟩ := e
           obtain ⟨b', o', rfl, hb', -⟩ := hr h0
           simp only [Value.ownBlock, Option.some.injEq] at hb
           have := HGE.out
           omega), HBW.out.trans (HCH.out.below HBW.out.size (fun i hi => by rw [hi]; exact HGE.out))⟩)
      clear hlen hL' d3
      obtain ⟨S, hS⟩ : ∃ S, S = (Sp.dec L' data).1 := ⟨_, rfl⟩
      obtain ⟨E, hE⟩ : ∃ E, E = (Sp.dec L' data).2 := ⟨_, rfl⟩
      have HD1 := Lib.hid (show Calls Tryd.prog 16 #[.slice (some ⟨g, 0, none⟩) n c, .slice A2 m c2] W1 fun e w' => e = .returned (.tuple #[.agg #[.int .u8 (S.kind : Int), .int .i64 S.sector, .int .u64 (S.seq : Int), .int .u64 (S.prev : Int), .int .i64 S.index, .int .i64 S.length], .int .i64 E]) ∧ Below W1.heap.size W1 w' from by rw [hS, hE]; exact Decode_any _ _ L' data W1 (HT.out.below HS.out.2.2.2) HS.out.2.1 HS.out.2.2.1 (by rw [HS.out.1]; unfold maxLen; omega) (by rw [HM.out]; unfold maxLen; omega))
      have HD2 := Lib.hid (fun (W : World) (hW : Below W1.heap.size W1 W) => (show Calls Tryd.prog 17 #[.slice (some ⟨g, 0, none⟩) n c, .slice A2 m c2] W fun e w' => e = .returned (.tuple #[.agg #[.int .u8 (S.kind : Int), .int .i64 S.sector, .int .u64 (S.seq : Int), .int .u64 (S.prev : Int), .int .i64 S.index, .int .i64 S.length], .int .i64 E]) ∧ Below W.heap.size W w' from by rw [hS, hE]; exact rDecode_any _ _ L' data W (HS.out.2.1.below hW) (HS.out.2.2.1.below hW) (by rw [HS.out.1]; unfold maxLen; omega) (by rw [HM.out]; omega)))
      clear hS hE
      go_wp2_with fail
      refine HD1.out.mono ?_
      rintro e W2 ⟨rfl, hb2⟩
      have Hb2 := Lib.hid (hb2.trans ((below_alloc W2 (.cells #[.int .u8 (S.kind : Int), .int .i64 S.sector, .int .u64 (S.seq : Int), .int .u64 (S.prev : Int), .int .i64 S.index, .int .i64 S.length] 25)).mono hb2.size))
      have HR2 := Lib.hid (heap_alloc_new W2 (.cells #[.int .u8 (S.kind : Int), .int .i64 S.sector, .int .u64 (S.seq : Int), .int .u64 (S.prev : Int), .int .i64 S.index, .int .i64 S.length] 25))
      clear hb2
      go_wp2_with fail
      refine (HD2.out _ Hb2.out).mono ?_
      rintro e W3 ⟨rfl, hb3⟩
      have HR3 := Lib.hid (row_later HR2.out hb3)
      have Hb3 := Lib.hid (Hb2.out.trans (hb3.mono Hb2.out.size))
      have HN2 := Lib.hid (show W2.heap.size < W3.heap.size from (Array.getElem?_eq_some_iff.1 HR3.out).1)
      clear hb3
      go_upto_region 8 with fail
      have HR4 := Lib.hid (row_later HR3.out (below_alloc W3 (.cells #[.int .u8 (S.kind : Int), .int .i64 S.sector, .int .u64 (S.seq : Int), .int .u64 (S.prev : Int), .int .i64 S.index, .int .i64 S.length] 25)))
      have HQ4 := Lib.hid (heap_alloc_new W3 (.cells #[.int .u8 (S.kind : Int), .int .i64 S.sector, .int .u64 (S.seq : Int), .int .u64 (S.prev : Int), .int .i64 S.index, .int .i64 S.length] 25))
      have Hb4 := Lib.hid (Hb3.out.trans ((below_alloc W3 (.cells #[.int .u8 (S.kind : Int), .int .i64 S.sector, .int .u64 (S.seq : Int), .int .u64 (S.prev : Int), .int .i64 S.index, .int .i64 S.length] 25)).mono Hb3.out.size))
      obtain ⟨n2, hn2⟩ : ∃ n2, n2 = W2.heap.size := ⟨_, rfl⟩
      obtain ⟨n3, hn3⟩ : ∃ n3, n3 = W3.heap.size := ⟨_, rfl⟩
      obtain ⟨W4, hW4⟩ : ∃ W4, W4 = W3.alloc (.cells #[.int .u8 (S.kind : Int), .int .i64 S.sector, .int .u64 (S.seq : Int), .int .u64 (S.prev : Int), .int .i64 S.index, .int .i64 S.length] 25) := ⟨_, rfl⟩
      rw [← hW4] at HR4 HQ4 Hb4 ⊢
      rw [← hn2] at HR4 ⊢
      rw [← hn3] at HQ4 ⊢
      clear hn2 hn3 hW4 HR2 HR3 HN2 Hb2 Hb3 HD1 HD2
      have HB4 := Lib.hid (HS.out.2.1.below Hb4.out)
      have Hw4 := Lib.hid (below_step HS.out.2.2.2 Hb4.out)
      have e0 : ((n : Int) == 64) = blk L' 0 := by
        unfold blk
        rw [List.take_zero, List.all_nil, Bool.and_true, HS.out.1, Bool.eq_iff_iff, beq_iff_eq, decide_eq_true_eq]
        omega
      have HE0 := Lib.hid e0
      clear e0
      have hn70 : (n : Int) ≤ 70 := by omega
      go_wp2
      go_loop [11, 12] (fun bl i => ∃ k : Nat, k ≤ n ∧ i = .int .i64 k ∧ bl = .bool (blk L' k)) (fun _ i => n - (intOf i).toNat)
      case atStart => exact ⟨0, Nat.zero_le _, rfl, by rw [← HE0.out]⟩
      case round =>
        obtain ⟨k, hk, rfl, rfl⟩ := hrel
        by_cases hlt : k < n
        · have hltL : k < L'.length := by have := HS.out.1; omega
          have HST := Lib.hid (blk_step L' k hltL)
          obtain ⟨A', c', ev, -, hcell⟩ := HB4.out
          simp only [Value.slice.injEq] at ev
          obtain ⟨eA, -, rfl⟩ := ev
          rw [← eA] at hcell
          obtain ⟨g', o', hgo, -, hc4⟩ := hcell (by omega)
          cases hgo
          subst eA
          have kc := hc4 k hltL
          (try rw [Nat.zero_add] at kc)
          have HBB := Lib.hid (byte_beq L'[k])
          clear hcell hc4
          generalize L'[k] = x at *
          obtain ⟨y, hy⟩ : ∃ y : Int, y = (x.toNat : Int) := ⟨_, rfl⟩
          rw [← hy] at kc HBB
          have hk0 : (0 : Int) ≤ (k : Int) := by omega
          have hk1 : (k : Int) < (n : Int) := by omega
          clear hy
          cases hbk : blk L' k
          · have HN := Lib.hid (show blk L' (k + 1) = false by rw [HST.out, hbk]; rfl)
            clear hbk
            go_wp2
            go_round
            case rel => exact ⟨k + 1, by omega, by go_num, by rw [HN.out]⟩
            case measure => simp [intOf]; omega
          · have HN := Lib.hid (show blk L' (k + 1) = (y == 255) by rw [HST.out, hbk, HBB.out]; rfl)
            clear hbk
            go_wp2
            go_round
            case rel => exact ⟨k + 1, by omega, by go_num, by rw [HN.out]⟩
            case measure => simp [intOf]; omega
        · have hkl : k = n := by omega
          subst hkl
          have HBL := Lib.hid (show Calls Tryd.prog 18 #[.slice (some ⟨g, 0, none⟩) k c] W4 fun e w' => e = .returned (.bool (blk L' k)) ∧ Below W4.heap.size W4 w' from by
            have := Blank_any _ L' W4 HB4.out
            rw [← blk_all, HS.out.1] at this
            exact this)
          generalize blk L' k = bb at *
          have k0 : W4.cell? ⟨n2, 0, none⟩ = some (.int .u8 (S.kind : Int)) := cell_of_row _ _ 0 _ _ _ HR4.out
          have k1 : W4.cell? ⟨n2, 1, none⟩ = some (.int .i64 S.sector) := cell_of_row _ _ 1 _ _ _ HR4.out
          have k2 : W4.cell? ⟨n2, 2, none⟩ = some (.int .u64 (S.seq : Int)) := cell_of_row _ _ 2 _ _ _ HR4.out
          have k3 : W4.cell? ⟨n2, 3, none⟩ = some (.int .u64 (S.prev : Int)) := cell_of_row _ _ 3 _ _ _ HR4.out
          have k4 : W4.cell? ⟨n2, 4, none⟩ = some (.int .i64 S.index) := cell_of_row _ _ 4 _ _ _ HR4.out
          have k5 : W4.cell? ⟨n2, 5, none⟩ = some (.int .i64 S.length) := cell_of_row _ _ 5 _ _ _ HR4.out
          have q0 : W4.cell? ⟨n3, 0, none⟩ = some (.int .u8 (S.kind : Int)) := cell_of_row _ _ 0 _ _ _ HQ4.out
          have q1 : W4.cell? ⟨n3, 1, none⟩ = some (.int .i64 S.sector) := cell_of_row _ _ 1 _ _ _ HQ4.out
          have q2 : W4.cell? ⟨n3, 2, none⟩ = some (.int .u64 (S.seq : Int)) := cell_of_row _ _ 2 _ _ _ HQ4.out
          have q3 : W4.cell? ⟨n3, 3, none⟩ = some (.int .u64 (S.prev : Int)) := cell_of_row _ _ 3 _ _ _ HQ4.out
          have q4 : W4.cell? ⟨n3, 4, none⟩ = some (.int .i64 S.index) := cell_of_row _ _ 4 _ _ _ HQ4.out
          have q5 : W4.cell? ⟨n3, 5, none⟩ = some (.int .i64 S.length) := cell_of_row _ _ 5 _ _ _ HQ4.out
          go_wp2_with (first
            | ((go_at_call 12; with_reducible refine (num_any _ _).mono ?_); rintro e w' ⟨rfl, rfl⟩)
            | ((go_at_call 18; with_reducible refine HBL.out.mono ?_); rintro e W5 ⟨rfl, hb5⟩; have Hw5 := Lib.hid (below_step Hw4.out hb5); clear hb5)
            | ((go_at_call 8; with_reducible refine (works_any _ (HT.out.below Hw5.out)).mono ?_); rintro e W6 ⟨rfl, hb6⟩; have Hw6 := Lib.hid (below_step Hw5.out hb6); clear hb6))
          go_ret
          exact ⟨rfl, Hw6.out⟩
    · obtain ⟨L', W1, hS, hW⟩ : ∃ L' W1, (L'.length = n ∧ Byt W1 (.slice A n c) L' ∧ Byt W1 (.slice A2 m c2) data ∧ Below w.heap.size w W1) ∧ W1 = wa := ⟨l, wa, ⟨HL.out, HBo.out, H2.out, HBW.out⟩, rfl⟩
      have HS := Lib.hid hS
      subst hW
      clear hS
      have d3 : ((n : Int) == 64) = false := by rw [beq_eq_false_iff_ne]; omega
      go_enter Tryd.func4, Tryd.ntmps4
      go_upto_region 6 with (at_builtin; refine wpList_append_run rfl (.tmp 22) (.tmp 23) 26 26 rfl _ _ _ _ rfl rfl Hr1.out ?_)
      clear d3
      obtain ⟨S, hS⟩ : ∃ S, S = (Sp.dec L' data).1 := ⟨_, rfl⟩
      obtain ⟨E, hE⟩ : ∃ E, E = (Sp.dec L' data).2 := ⟨_, rfl⟩
      have HD1 := Lib.hid (show Calls Tryd.prog 16 #[.slice A n c, .slice A2 m c2] W1 fun e w' => e = .returned (.tuple #[.agg #[.int .u8 (S.kind : Int), .int .i64 S.sector, .int .u64 (S.seq : Int), .int .u64 (S.prev : Int), .int .i64 S.index, .int .i64 S.length], .int .i64 E]) ∧ Below W1.heap.size W1 w' from by rw [hS, hE]; exact Decode_any _ _ L' data W1 (HT.out.below HS.out.2.2.2) HS.out.2.1 HS.out.2.2.1 (by rw [HS.out.1]; unfold maxLen; omega) (by rw [HM.out]; unfold maxLen; omega))
      have HD2 := Lib.hid (fun (W : World) (hW : Below W1.heap.size W1 W) => (show Calls Tryd.prog 17 #[.slice A n c, .slice A2 m c2] W fun e w' => e = .returned (.tuple #[.agg #[.int .u8 (S.kind : Int), .int .i64 S.sector, .int .u64 (S.seq : Int), .int .u64 (S.prev : Int), .int .i64 S.index, .int .i64 S.length], .int .i64 E]) ∧ Below W.heap.size W w' from by rw [hS, hE]; exact rDecode_any _ _ L' data W (HS.out.2.1.below hW) (HS.out.2.2.1.below hW) (by rw [HS.out.1]; unfold maxLen; omega) (by rw [HM.out]; omega)))
      clear hS hE
      go_wp2_with fail
      refine HD1.out.mono ?_
      rintro e W2 ⟨rfl, hb2⟩
      have Hb2 := Lib.hid (hb2.trans ((below_alloc W2 (.cells #[.int .u8 (S.kind : Int), .int .i64 S.sector, .int .u64 (S.seq : Int), .int .u64 (S.prev : Int), .int .i64 S.index, .int .i64 S.length] 25)).mono hb2.size))
      have HR2 := Lib.hid (heap_alloc_new W2 (.cells #[.int .u8 (S.kind : Int), .int .i64 S.sector, .int .u64 (S.seq : Int), .int .u64 (S.prev : Int), .int .i64 S.index, .int .i64 S.length] 25))
      clear hb2
      go_wp2_with fail
      refine (HD2.out _ Hb2.out).mono ?_
      rintro e W3 ⟨rfl, hb3⟩
      have HR3 := Lib.hid (row_later HR2.out hb3)
      have Hb3 := Lib.hid (Hb2.out.trans (hb3.mono Hb2.out.size))
      have HN2 := Lib.hid (show W2.heap.size < W3.heap.size from (Array.getElem?_eq_some_iff.1 HR3.out).1)
      clear hb3
      go_upto_region 8 with fail
      have HR4 := Lib.hid (row_later HR3.out (below_alloc W3 (.cells #[.int .u8 (S.kind : Int), .int .i64 S.sector, .int .u64 (S.seq : Int), .int .u64 (S.prev : Int), .int .i64 S.index, .int .i64 S.length] 25)))
      have HQ4 := Lib.hid (heap_alloc_new W3 (.cells #[.int .u8 (S.kind : Int), .int .i64 S.sector, .int .u64 (S.seq : Int), .int .u64 (S.prev : Int), .int .i64 S.index, .int .i64 S.length] 25))
      have Hb4 := Lib.hid (Hb3.out.trans ((below_alloc W3 (.cells #[.int .u8 (S.kind : Int), .int .i64 S.sector, .int .u64 (S.seq : Int), .int .u64 (S.prev : Int), .int .i64 S.index, .int .i64 S.length] 25)).mono Hb3.out.size))
      obtain ⟨n2, hn2⟩ : ∃ n2, n2 = W2.heap.size := ⟨_, rfl⟩
      obtain ⟨n3, hn3⟩ : ∃ n3, n3 = W3.heap.size := ⟨_, rfl⟩
      obtain ⟨W4, hW4⟩ : ∃ W4, W4 = W3.alloc (.cells #[.int .u8 (S.kind : Int), .int .i64 S.sector, .int .u64 (S.seq : Int), .int .u64 (S.prev : Int), .int .i64 S.index, .int .i64 S.length] 25) := ⟨_, rfl⟩
      rw [← hW4] at HR4 HQ4 Hb4 ⊢
      rw [← hn2] at HR4 ⊢
      rw [← hn3] at HQ4 ⊢
      clear hn2 hn3 hW4 HR2 HR3 HN2 Hb2 Hb3 HD1 HD2
      have HB4 := Lib.hid (HS.out.2.1.below Hb4.out)
      have Hw4 := Lib.hid (below_step HS.out.2.2.2 Hb4.out)
      have e0 : ((n : Int) == 64) = blk L' 0 := by
        unfold blk
        rw [List.take_zero, List.all_nil, Bool.and_true, HS.out.1, Bool.eq_iff_iff, beq_iff_eq, decide_eq_true_eq]
        omega
      have HE0 := Lib.hid e0
      clear e0
      have hn70 : (n : Int) ≤ 70 := by omega
      go_wp2
      go_loop [11, 12] (fun bl i => ∃ k : Nat, k ≤ n ∧ i = .int .i64 k ∧ bl = .bool (blk L' k)) (fun _ i => n - (intOf i).toNat)
      case atStart => exact ⟨0, Nat.zero_le _, rfl, by rw [← HE0.out]⟩
      case round =>
        obtain ⟨k, hk, rfl, rfl⟩ := hrel
        by_cases hlt : k < n
        · have hltL : k < L'.length := by have := HS.out.1; omega
          have HST := Lib.hid (blk_step L' k hltL)
          obtain ⟨A', c', ev, -, hcell⟩ := HB4.out
          simp only [Value.slice.injEq] at ev
          obtain ⟨eA, -, rfl⟩ := ev
          rw [← eA] at hcell
          obtain ⟨g', o', hgo, -, hc4⟩ := hcell (by omega)
          cases hgo
          subst eA
          have kc := hc4 k hltL
          (try rw [Nat.zero_add] at kc)
          have HBB := Lib.hid (byte_beq L'[k])
          clear hcell hc4
          generalize L'[k] = x at *
          obtain ⟨y, hy⟩ : ∃ y : Int, y = (x.toNat : Int) := ⟨_, rfl⟩
          rw [← hy] at kc HBB
          have hk0 : (0 : Int) ≤ (k : Int) := by omega
          have hk1 : (k : Int) < (n : Int) := by omega
          clear hy
          cases hbk : blk L' k
          · have HN := Lib.hid (show blk L' (k + 1) = false by rw [HST.out, hbk]; rfl)
            clear hbk
            go_wp2
            go_round
            case rel => exact ⟨k + 1, by omega, by go_num, by rw [HN.out]⟩
            case measure => simp [intOf]; omega
          · have HN := Lib.hid (show blk L' (k + 1) = (y == 255) by rw [HST.out, hbk, HBB.out]; rfl)
            clear hbk
            go_wp2
            go_round
            case rel => exact ⟨k + 1, by omega, by go_num, by rw [HN.out]⟩
            case measure => simp [intOf]; omega
        · have hkl : k = n := by omega
          subst hkl
          have HBL := Lib.hid (show Calls Tryd.prog 18 #[.slice A k c] W4 fun e w' => e = .returned (.bool (blk L' k)) ∧ Below W4.heap.size W4 w' from by
            have := Blank_any _ L' W4 HB4.out
            rw [← blk_all, HS.out.1] at this
            exact this)
          generalize blk L' k = bb at *
          have k0 : W4.cell? ⟨n2, 0, none⟩ = some (.int .u8 (S.kind : Int)) := cell_of_row _ _ 0 _ _ _ HR4.out
          have k1 : W4.cell? ⟨n2, 1, none⟩ = some (.int .i64 S.sector) := cell_of_row _ _ 1 _ _ _ HR4.out
          have k2 : W4.cell? ⟨n2, 2, none⟩ = some (.int .u64 (S.seq : Int)) := cell_of_row _ _ 2 _ _ _ HR4.out
          have k3 : W4.cell? ⟨n2, 3, none⟩ = some (.int .u64 (S.prev : Int)) := cell_of_row _ _ 3 _ _ _ HR4.out
          have k4 : W4.cell? ⟨n2, 4, none⟩ = some (.int .i64 S.index) := cell_of_row _ _ 4 _ _ _ HR4.out
          have k5 : W4.cell? ⟨n2, 5, none⟩ = some (.int .i64 S.length) := cell_of_row _ _ 5 _ _ _ HR4.out
          have q0 : W4.cell? ⟨n3, 0, none⟩ = some (.int .u8 (S.kind : Int)) := cell_of_row _ _ 0 _ _ _ HQ4.out
          have q1 : W4.cell? ⟨n3, 1, none⟩ = some (.int .i64 S.sector) := cell_of_row _ _ 1 _ _ _ HQ4.out
          have q2 : W4.cell? ⟨n3, 2, none⟩ = some (.int .u64 (S.seq : Int)) := cell_of_row _ _ 2 _ _ _ HQ4.out
          have q3 : W4.cell? ⟨n3, 3, none⟩ = some (.int .u64 (S.prev : Int)) := cell_of_row _ _ 3 _ _ _ HQ4.out
          have q4 : W4.cell? ⟨n3, 4, none⟩ = some (.int .i64 S.index) := cell_of_row _ _ 4 _ _ _ HQ4.out
          have q5 : W4.cell? ⟨n3, 5, none⟩ = some (.int .i64 S.length) := cell_of_row _ _ 5 _ _ _ HQ4.out
          go_wp2_with (first
            | ((go_at_call 12; with_reducible refine (num_any _ _).mono ?_); rintro e w' ⟨rfl, rfl⟩)
            | ((go_at_call 18; with_reducible refine HBL.out.mono ?_); rintro e W5 ⟨rfl, hb5⟩; have Hw5 := Lib.hid (below_step Hw4.out hb5); clear hb5)
            | ((go_at_call 8; with_reducible refine (works_any _ (HT.out.below Hw5.out)).mono ?_); rintro e W6 ⟨rfl, hb6⟩; have Hw6 := Lib.hid (below_step Hw5.out hb6); clear hb6))
          go_ret
          exact ⟨rfl, Hw6.out⟩

theorem decodes_any (v1 v2 : Value) (l data : List UInt8) (sealed : Bool) (w : World) (hT : Tabs w) (h1 : Byt w v1 l) (h2 : Byt w v2 data) (hm1 : l.length ≤ maxLen) (hm2 : data.length ≤ maxLen) :
    Calls Tryd.prog 4 #[v1, v2, .bool sealed] w fun e w' => e = .returned (.bool true) ∧ Below w.heap.size w w' := by
  by_cases hc : 70 < l.length ∨ 300 < data.length
  · exact decodes_early v1 v2 l data sealed w hT h1 h2 hm1 hm2 hc
  · exact decodes_main v1 v2 l data sealed w hT h1 h2 (by omega) (by omega)
end Go.Proofs.YtcebockdfkjoiaaDoor
