/- The reference's Fill and New. Conditions stand in each theorem. -/
import Derived.Test.YtmnlkejhhdbhlaaRY
namespace Go.Proofs.Ytmnlkejhhdbhlaa
open Go.RowKit
set_option linter.unusedVariables false
set_option maxHeartbeats 8000000
set_option maxRecDepth 100000
theorem fill_step (n k : Nat) (b : UInt8) (h : k < n) : (List.replicate k b ++ List.replicate (n - k) 0).set k b = List.replicate (k + 1) b ++ List.replicate (n - (k + 1)) 0 := by
  rw [List.set_append_right _ _ (by simp)]
  simp only [List.length_replicate, Nat.sub_self]
  rw [show n - k = (n - (k + 1)) + 1 by omega, List.replicate_succ, List.set_cons_zero, List.replicate_succ', List.append_assoc]
  rfl
theorem info32z : (Try.prog.info? 32).map (fun i => (i.zero, i.size)) = some (some (.agg #[.slice none 0 0, .slice none 0 0]), 2) := by kernel_rfl
/-- What the reference's New leaves. -/
def NwR (w : World) (m : Mm) (k : Int) (e : Ending) (w' : World) : Prop :=
  ∃ A1 n1 c1, e = .returned (.tuple #[.agg #[.slice A1 n1 c1, .slice none 0 0], .int .i64 k]) ∧ Rf w' (fun j => j < w.heap.size) A1 n1 c1 none 0 0 m ∧ Below w.heap.size w w'
theorem rNew_bad (p : Int) (h : ¬ (1 ≤ p ∧ p ≤ 1024)) (w : World) : Calls Try.prog 12 #[.int .i64 p] w (NwR w ⟨[], []⟩ 2) := by
  have HP : Hid (∀ W', Below w.heap.size w W' → NwR w ⟨[], []⟩ 2 (.returned (.tuple #[.agg #[.slice none 0 0, .slice none 0 0], .int .i64 2])) W') := Lib.hid fun W' hb => ⟨_, _, _, rfl, ⟨Byt.nil _, fun h0 => absurd h0 (by omega), Spn.nil _, fun h0 => absurd h0 (by omega)⟩, hb⟩
  have E1 := Lib.hid (heap_alloc_new w (.cells #[.slice none 0 0, .slice none 0 0] 32))
  have q0 := cell_of_row (w.alloc (.cells #[.slice none 0 0, .slice none 0 0] 32)) w.heap.size 0 _ 32 (0, 0) E1.out
  have HBd : Hid (Below w.heap.size w (w.alloc (.cells #[.slice none 0 0, .slice none 0 0] 32))) := Lib.hid (below_alloc _ _)
  by_cases h1 : 1 ≤ p
  · have g1 : decide (p < 1) = false := decide_eq_false (by omega)
    have g2 : decide (p > 1024) = true := decide_eq_true (by omega)
    have g3 : decide (1024 < p) = true := decide_eq_true (by omega)
    clear h q0
    go_enter Try.func12, Try.ntmps12
    go_wp2
    refine bodyPost_ret (results_row1 rfl _ _ w.heap.size 32 #[.slice none 0 0, .slice none 0 0] (0, 0) _ rfl E1.out Try.underlying32 rfl info32) rfl ?_
    exact HP.out _ HBd.out
  · have g1 : decide (p < 1) = true := decide_eq_true (by omega)
    clear h q0
    go_enter Try.func12, Try.ntmps12
    go_wp2
    refine bodyPost_ret (results_row1 rfl _ _ w.heap.size 32 #[.slice none 0 0, .slice none 0 0] (0, 0) _ rfl E1.out Try.underlying32 rfl info32) rfl ?_
    exact HP.out _ HBd.out
theorem rNew_ok (k : Nat) (h1 : 1 ≤ k) (h2 : k ≤ 1024) (w : World) : Calls Try.prog 12 #[.int .i64 (k : Int)] w (NwR w (Mm.new (k * 4096)) 0) := by
  obtain ⟨N, hN⟩ : ∃ N, N = k * 4096 := ⟨_, rfl⟩
  have hNi : (4096 : Int) * (k : Int) = (N : Int) := by omega
  have hNm : N ≤ 4194304 := by omega
  have hmk := fun W => make_bytes W N hNm
  have hmul : wrap64 (N : Int) = (N : Int) := by unfold wrap64; omega
  have hmul2 : IntKind.i64.wrap (N : Int) = (N : Int) := by rw [IntKind.wrap_i64]; omega
  have g1 : decide ((k : Int) < 1) = false := decide_eq_false (by omega)
  have g2 : decide ((k : Int) > 1024) = false := decide_eq_false (by omega)
  have g3 : decide ((1024 : Int) < (k : Int)) = false := decide_eq_false (by omega)
  have g4 : decide (1024 < k) = false := decide_eq_false (by omega)
  have g5 : decide (k < 1) = false := decide_eq_false (by omega)
  have g6 : (k == 0) = false := by simp; omega
  rw [← hN]
  have HM := Lib.hid hNm
  have HBd : Hid (Below w.heap.size w (w.alloc (.cells #[.slice none 0 0, .slice none 0 0] 32))) := Lib.hid (below_alloc _ _)
  have HS1 : Hid ((w.alloc (.cells #[.slice none 0 0, .slice none 0 0] 32)).heap.size = w.heap.size + 1) := Lib.hid (World.size_alloc _ _)
  have E1 := Lib.hid (heap_alloc_new w (.cells #[.slice none 0 0, .slice none 0 0] 32))
  clear hN h1 h2 hNm
  go_enter Try.func12, Try.ntmps12
  go_upto_region 3 with fail
  obtain ⟨w1, hw1⟩ : ∃ w1, w1 = w.alloc (.cells #[.slice none 0 0, .slice none 0 0] 32) := ⟨_, rfl⟩
  rw [← hw1] at HBd HS1 E1 ⊢
  clear hw1
  have hb2 := below_alloc w1 (.cells (madeCells #[.int .u8 0] N) 5)
  have e2 := (hb2.block w.heap.size (by rw [HS1.out]; omega)).trans E1.out
  have q0 := cell_of_row (w1.alloc (.cells (madeCells #[.int .u8 0] N) 5)) w.heap.size 0 _ 32 (0, 0) e2
  have q1 := cell_of_row (w1.alloc (.cells (madeCells #[.int .u8 0] N) 5)) w.heap.size 1 _ 32 (0, 0) e2
  have q2 := fun k => frozen_of_row (w1.alloc (.cells (madeCells #[.int .u8 0] N) 5)) w.heap.size k _ 32 e2
  simp only [List.getElem?_toArray, List.getElem?_cons_zero, List.getElem?_cons_succ] at q0 q1
  have E2 := Lib.hid e2
  have HO := Lib.hid (made_own w1 N HM.out)
  have HB2 := Lib.hid (HBd.out.trans (hb2.mono HBd.out.size))
  clear e2 hb2
  obtain ⟨g, hg⟩ : ∃ g, g = w1.heap.size := ⟨_, rfl⟩
  have HG := Lib.hid (show w.heap.size < g by rw [hg, HS1.out]; omega)
  have hmk1 := hmk w1
  rw [← hg] at hmk1 HO
  clear hmk hg
  generalize w1.alloc (.cells (madeCells #[.int .u8 0] N) 5) = w2 at *
  go_wp2
  refine bodyPost_ret (results_row1 rfl _ _ w.heap.size 32 #[.slice (some ⟨g, 0, none⟩) N N, .slice none 0 0] (0, 0) _ rfl (set2 _ _ _ _ _ _ _ E2.out) Try.underlying32 rfl info32) rfl ?_
  have hb3 : Below w.heap.size w ((w2.setCell ⟨w.heap.size, 0, none⟩ (.slice (some ⟨g, 0, none⟩) N N)).setCell ⟨w.heap.size, 1, none⟩ (.slice none 0 0)) := (HB2.out.setCell (Nat.le_refl _) _).setCell (Nat.le_refl _) _
  have ho3 := own_same (w' := (w2.setCell ⟨w.heap.size, 0, none⟩ (.slice (some ⟨g, 0, none⟩) N N)).setCell ⟨w.heap.size, 1, none⟩ (.slice none 0 0)) HO.out fun g' hg' => by
    simp only [Value.ownBlock, Option.some.injEq] at hg'
    subst hg'
    exact (Below.heap_setCell _ _ _ _ (by show g ≠ w.heap.size; have := HG.out; omega)).trans (Below.heap_setCell _ _ _ _ (by show g ≠ w.heap.size; have := HG.out; omega))
  refine ⟨_, _, _, rfl, ⟨Byt.of_own ho3, fun h0 p e => ?_, Spn.nil _, fun h0 => absurd h0 (by omega)⟩, hb3⟩
  obtain rfl := Option.some.inj e
  have := HG.out
  show ¬ g < w.heap.size
  omega
section
variable {w w' : World} {S T : Nat → Prop} {A1 A2 : Option Addr} {n1 c1 n2 c2 : Nat} {m : Mm}
theorem rFill_any (h : Rf w S A1 n1 c1 A2 n2 c2 m) (hmax : m.B.length ≤ 4194304) (hcnt : m.L.length ≤ 100000) (hS : ∀ k, S k → k < w.heap.size) (a : Nat) (n : Int) (x : UInt8) (ha : a < 18446744073709551616) (hn : n < 9223372036854775808) :
    Calls Try.prog 29 #[.agg #[.slice A1 n1 c1, .slice A2 n2 c2], .int .u64 (a : Int), .int .i64 n, .int .u8 (x.toNat : Int)] w (WrR w S (m.ch a n (List.replicate n.toNat x)) (m.chk a n)) := by
  obtain ⟨hbq, hb2⟩ := bq_new w (.slice A1 n1 c1) (.slice A2 n2 c2)
  obtain ⟨w2, hw2⟩ : ∃ w2, w2 = (w.alloc (.cells #[.slice A1 n1 c1, .slice A2 n2 c2] 32)).alloc (.cells #[.slice none 0 0, .slice none 0 0] 32) := ⟨_, rfl⟩
  rw [← hw2] at hbq hb2
  have HC := Lib.hid (rCheck_any (h.below hb2) hmax a n ha hn)
  have HQ := Lib.hid hbq
  have HB2 := Lib.hid hb2
  have HW2 := Lib.hid hw2
  by_cases hz : m.chk a n = 0
  · obtain ⟨k, rfl, hk⟩ := Mm.chk_ok hz
    have hkm : k ≤ 4194304 := by omega
    rw [hz] at HC ⊢
    have hT : Rf w (fun j => S j ∨ j = w.heap.size + 1) A1 n1 c1 A2 n2 c2 m := h.or (h.newer (T := fun j => j = w.heap.size + 1) (fun j hj => by omega))
    have HWr : Hid (∀ W, Below w.heap.size w W → w.heap.size + 1 < W.heap.size → ∀ g, W.ownsRow g 5 1 (.slice (some ⟨g, 0, none⟩) k k) k (bv (List.replicate k x)) → Calls Try.prog 28 #[.agg #[.slice A1 n1 c1, .slice A2 n2 c2], .int .u64 (a : Int), .slice (some ⟨g, 0, none⟩) k k] W (WrR W (fun j => S j ∨ j = w.heap.size + 1) (m.ch a (k : Int) (List.replicate k x)) 0)) := Lib.hid fun W hb hw g ho => by
      have := rWrite_any (hT.below hb) hmax hcnt (fun j hj => by rcases hj with h1 | h1; exact Nat.lt_of_lt_of_le (hS j h1) hb.size; omega) a ha (Av := some ⟨g, 0, none⟩) (nv := k) (cv := k) (l := List.replicate k x) (by
        have h2 := Byt.of_own (l := List.replicate k x) ho
        exact h2) (by simp; omega)
      rw [List.length_replicate, hz] at this
      exact this
    have hmk := fun W => make_bytes W k hkm
    have HMO := Lib.hid (fun W => made_own W k hkm)
    have hki : (k : Int) ≤ 4194304 := by omega
    rw [show ((k : Int)).toNat = k by omega]
    clear h hmax hcnt hS ha hn hz hk hbq hb2 hw2 hT hkm
    go_enter Try.func29, Try.ntmps29
    go_upto_region 1 with fail
    rw [← HW2.out]
    have k0 := HQ.out.c0
    have k1 := HQ.out.c1
    go_upto_region 5 with ((go_at_call 31; with_reducible refine HC.out.mono ?_); rintro e w3 ⟨rfl, hb3⟩; have HQ3 := Lib.hid (HQ.out.below hb3); have HB3 := Lib.hid (HB2.out.trans (hb3.mono HB2.out.size)); clear hb3)
    have hq4 := HQ3.out.below (below_alloc w3 (.cells (madeCells #[.int .u8 0] k) 5))
    have HO4 := Lib.hid (HMO.out w3)
    have HB4 := Lib.hid (HB3.out.trans ((below_alloc w3 (.cells (madeCells #[.int .u8 0] k) 5)).mono HB3.out.size))
    have HQ4 := Lib.hid hq4
    have HG3 := Lib.hid HQ3.out.lt
    obtain ⟨g, hg⟩ : ∃ g, g = w3.heap.size := ⟨_, rfl⟩
    rw [← hg] at HO4 HG3 ⊢
    clear hmk hq4 hg k0 k1
    generalize w3.alloc (.cells (madeCells #[.int .u8 0] k) 5) = w4 at *
    go_upto_region 6 with fail
    go_loopw [12] (fun i wr => ∃ j : Nat, j ≤ k ∧ i = .int .i64 j ∧ Hid (wr.ownsRow g 5 1 (.slice (some ⟨g, 0, none⟩) k k) k (bv (List.replicate j x ++ List.replicate (k - j) 0))) ∧ Hid (Chg (· = g) w4 wr)) (fun i _ => k - (RowKit.intOf i).toNat)
    case atStart => exact ⟨0, Nat.zero_le _, rfl, Lib.hid (by simpa using HO4.out), Lib.hid (Chg.refl _ _)⟩
    case round =>
      obtain ⟨j, hj, rfl, HR, HCh⟩ := hrel
      by_cases hlt : j < k
      · have f1 := HR.out.frozenAt j
        have c1' : ∃ u, wr.cell? ⟨g, j, none⟩ = some u := by
          rw [HR.out.cellAt j (by omega)]
          exact ⟨_, List.getElem?_eq_getElem (by rw [bv_length]; simp; omega)⟩
        obtain ⟨u, c1'⟩ := c1'
        have g1 : decide ((j : Int) < (k : Int)) = true := decide_eq_true (by omega)
        have g2 : decide (j < k) = true := decide_eq_true (by omega)
        have hjk : (j : Int) < (k : Int) := by omega
        go_wp2
        go_roundw
        case rel =>
          refine ⟨j + 1, by omega, by go_num, Lib.hid ?_, Lib.hid (HCh.out.setCell rfl _)⟩
          have h2 := HR.out.stored j (.int .u8 (x.toNat : Int))
          rw [bv_set, fill_step k j x hlt] at h2
          exact h2.1
        case measure => simp [RowKit.intOf]; omega
      · have hjk : j = k := by omega
        have HR2 : Hid (wr.ownsRow g 5 1 (.slice (some ⟨g, 0, none⟩) k k) k (bv (List.replicate k x))) := Lib.hid (by
          have hr := HR.out
          rw [hjk, Nat.sub_self, List.replicate_zero, List.append_nil] at hr
          exact hr)
        have g1 : decide ((j : Int) < (k : Int)) = false := decide_eq_false (by omega)
        have g2 : decide (j < k) = false := decide_eq_false (by omega)
        have hqr := HQ4.out.chg HCh.out (fun e => by have e : w.heap.size = g := e; have := HG3.out; omega) (fun e => by have e : w.heap.size + 1 = g := e; have := HG3.out; omega)
        have HBr : Hid (Below w.heap.size w wr) := Lib.hid (HB4.out.trans (HCh.out.below HB4.out.size (fun i hi => by have hi : i = g := hi; have := HG3.out; omega)))
        have HQr := Lib.hid hqr
        have HCw := Lib.hid (HWr.out wr HBr.out hqr.lt g HR2.out)
        have k0 := hqr.c0
        have k1 := hqr.c1
        clear hqr hjk hlt hj
        go_wp2_with ((go_at_call 28; with_reducible refine HCw.out.mono ?_); rintro e w6 ⟨B1, p1, d1, B2, p2, d2, rfl, hrf, hb6⟩; have hq6 := HQr.out.below hb6; have q2 := hq6.d0; have q3 := hq6.d1; have q4 := hq6.g; have HQ6 := Lib.hid hq6; have HRf := Lib.hid hrf; have HB6 := Lib.hid (HBr.out.trans (hb6.mono HBr.out.size)); clear hq6 hrf hb6)
        refine bodyPost_ret (results_row1 rfl _ _ (w.heap.size + 1) 32 #[.slice B1 p1 d1, .slice B2 p2 d2] (0, 0) _ rfl (set2 _ _ _ _ _ _ _ HQ6.out.r) Try.underlying32 rfl info32) rfl ?_
        have hch : Chg (fun j => S j ∨ j = w.heap.size + 1) w6 ((w6.setCell ⟨w.heap.size + 1, 0, none⟩ (.slice B1 p1 d1)).setCell ⟨w.heap.size + 1, 1, none⟩ (.slice B2 p2 d2)) := ((Chg.refl (fun j => S j ∨ j = w.heap.size + 1) w6).setCell (p := ⟨w.heap.size + 1, 0, none⟩) (.inr rfl) _).setCell (p := ⟨w.heap.size + 1, 1, none⟩) (.inr rfl) _
        exact ⟨_, _, _, _, _, _, rfl, (HRf.out.chg hch).mono (fun k hk => .inl hk), (HB6.out.setCell (by show _ ≤ w.heap.size + 1; omega) _).setCell (by show _ ≤ w.heap.size + 1; omega) _⟩
  · rw [Mm.ch_bad hz]
    have hne : ((m.chk a n : Int) == 0) = false := by simp [hz]
    have HRR := Lib.hid h
    generalize m.chk a n = z at *
    have hne2 : (z != 0) = true := by simp [hz]
    clear h hmax hcnt hS ha hn hbq hb2 hw2
    go_enter Try.func29, Try.ntmps29
    go_upto_region 1 with fail
    rw [← HW2.out]
    have k0 := HQ.out.c0
    have k1 := HQ.out.c1
    go_wp2_with ((go_at_call 31; with_reducible refine HC.out.mono ?_); rintro e w3 ⟨rfl, hb3⟩; have hq3 := HQ.out.below hb3; have HQ3 := Lib.hid hq3; have r0 := hq3.c0; have r1 := hq3.c1; have r2 := hq3.d0; have r3 := hq3.d1; have r4 := hq3.g; have HB3 := Lib.hid (HB2.out.trans (hb3.mono HB2.out.size)); clear hb3 hq3)
    refine bodyPost_ret (results_row1 rfl _ _ (w.heap.size + 1) 32 #[.slice A1 n1 c1, .slice A2 n2 c2] (0, 0) _ rfl (set2 _ _ _ _ _ _ _ HQ3.out.r) Try.underlying32 rfl info32) rfl ?_
    have hbl : Below w.heap.size w ((w3.setCell ⟨w.heap.size + 1, 0, none⟩ (.slice A1 n1 c1)).setCell ⟨w.heap.size + 1, 1, none⟩ (.slice A2 n2 c2)) := (HB3.out.setCell (by show _ ≤ w.heap.size + 1; omega) _).setCell (by show _ ≤ w.heap.size + 1; omega) _
    exact ⟨_, _, _, _, _, _, rfl, HRR.out.below hbl, hbl⟩
end
end Go.Proofs.Ytmnlkejhhdbhlaa
