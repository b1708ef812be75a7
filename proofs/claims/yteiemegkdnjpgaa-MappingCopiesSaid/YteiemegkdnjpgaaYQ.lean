/- The reference's Of. Conditions stand in each theorem. -/
import Derived.Test.YteiemegkdnjpgaaYP
namespace Go.Proofs.Yteiemegkdnjpgaa
open Go.RowKit Go.Shelf
set_option linter.unusedVariables false
set_option maxHeartbeats 4000000
set_option maxRecDepth 100000
/-- The first k pages of a block that have a sector. -/
def ofk (f : Int → Option Int) (z : Int) (k : Nat) : List (Int × Int) := (prs f ((List.range k).map fun i : Nat => z + (i : Int))).map fun x => (x.2, x.1)
theorem ofk_some {f : Int → Option Int} {z : Int} {k : Nat} {c : Int} (h : f (z + (k : Int)) = some c) : ofk f z (k + 1) = ofk f z k ++ [(c, z + (k : Int))] := by
  unfold ofk prs
  rw [List.range_succ, List.map_append, List.filterMap_append]
  simp [h]
theorem ofk_none {f : Int → Option Int} {z : Int} {k : Nat} (h : f (z + (k : Int)) = none) : ofk f z (k + 1) = ofk f z k := by
  unfold ofk prs
  rw [List.range_succ, List.map_append, List.filterMap_append]
  simp [h]
theorem ofk_length (f : Int → Option Int) (z : Int) (k : Nat) : (ofk f z k).length ≤ k := by
  unfold ofk
  rw [List.length_map]
  exact Nat.le_trans (prs_length _ _) (by simp)
/-- What Of gives back: by pages, sector first. -/
def ofl (b p : Nat) (L : List (Int × Int)) (q : Int) : List (Int × Int) := if 0 ≤ q ∧ q < b then ofk (look (flip L)) (q * (p : Int)) p else []
theorem ofl_prs (b p : Nat) (L : List (Int × Int)) (q : Int) : ofl b p L q = (prs (look (flip L)) (pgl b p q)).map fun x => (x.2, x.1) := by
  unfold ofl pgl
  by_cases h : 0 ≤ q ∧ q < b
  · rw [if_pos h, if_pos h]; rfl
  · rw [if_neg h, if_neg h]; rfl
theorem rof_any (s b p : Nat) {v : Value} {L : List (Int × Int)} {w : World} (h : Ent w v L) (hl : L.length ≤ 16777216) (hb : b ≤ 4096) (hp : 2 ≤ p ∧ p ≤ 512) (q : Int) : Calls Try.prog 19 #[rv s b p v, .int .i64 q] w (LisP w (ofl b p L q)) := by
  obtain ⟨A, c, rfl, -⟩ := h.form
  obtain ⟨W1, hW⟩ : ∃ W1, W1 = w.alloc (.cells #[.int .i64 (s : Int), .int .i64 (b : Int), .int .i64 (p : Int), .slice A L.length c] 29) := ⟨_, rfl⟩
  have hb1 : Below w.heap.size w W1 := by rw [hW]; exact below_alloc w _
  have x1 : W1.heap[w.heap.size]? = some (.cells #[.int .i64 (s : Int), .int .i64 (b : Int), .int .i64 (p : Int), .slice A L.length c] 29 (0, 0)) := by
    rw [hW]; exact heap_alloc_new w _
  have hs1 : W1.heap.size = w.heap.size + 1 := by rw [hW]; simp
  have HE := Lib.hid (h.below hb1)
  have HB1 := Lib.hid hb1
  have HW := Lib.hid hW
  have HX1 := Lib.hid x1
  have HS := Lib.hid hs1
  clear h hW hb1 x1 hs1
  unfold rv
  by_cases hq : 0 ≤ q ∧ q < b
  · have HL := Lib.hid (show ofl b p L q = ofk (look (flip L)) (q * (p : Int)) p from if_pos hq)
    have hp1 : (p : Int) ≤ 512 := by omega
    have hp2 : (2 : Int) ≤ p := by omega
    have hb2 : (b : Int) ≤ 4096 := by omega
    have hq1 := hq.1
    have hq2 := hq.2
    have g1 : decide (q < 0) = false := decide_eq_false (by omega)
    have g2 : decide ((b : Int) ≤ q) = false := decide_eq_false (by omega)
    have hz0 : 0 ≤ q * (p : Int) := Int.mul_nonneg hq.1 (by omega)
    have hz1 : q * (p : Int) ≤ 2097152 := by
      have h1 : q * (p : Int) ≤ 4096 * (p : Int) := Int.mul_le_mul_of_nonneg_right (by omega) (by omega)
      omega
    obtain ⟨z, hz⟩ : ∃ z, z = q * (p : Int) := ⟨_, rfl⟩
    have hzz : q * (p : Int) = z := hz.symm
    have hzp : (q + 1) * (p : Int) = z + (p : Int) := by rw [Int.add_mul, Int.one_mul, hzz]
    rw [hzz] at hz0 hz1 HL
    clear hq hz
    go_enter Try.func19, Try.ntmps19
    go_wp2
    go_loopw [5, 6, 7, 8] (fun x0 i _ _ wr => ∃ (k : Nat) (x : Value), k ≤ p ∧ i = .int .i64 (z + (k : Int)) ∧ x = x0 ∧ Hid (wr.ownsRow W1.heap.size 50 2 x (ofk (look (flip L)) z k).length (pv (ofk (look (flip L)) z k))) ∧ Hid (Below W1.heap.size W1 wr)) (fun _ i _ _ _ => (z + p - RowKit.intOf i).toNat)
    case atStart => exact ⟨0, _, Nat.zero_le _, by simp, rfl, Lib.hid (World.ownsRow_nil _ _ _ _), Lib.hid (by rw [HW.out]; exact Below.refl _ _)⟩
    case round =>
      obtain ⟨k, x, hk, rfl, rfl, HO, HB⟩ := hrel
      have y1 := (HB.out.block _ (by have := HS.out; omega)).trans HX1.out
      have c0 : wr.cell? ⟨w.heap.size, 0, none⟩ = some (.int .i64 (s : Int)) := by rw [cell_of_row wr _ 0 _ _ _ y1]; rfl
      have c1 : wr.cell? ⟨w.heap.size, 1, none⟩ = some (.int .i64 (b : Int)) := by rw [cell_of_row wr _ 1 _ _ _ y1]; rfl
      have c2 : wr.cell? ⟨w.heap.size, 2, none⟩ = some (.int .i64 (p : Int)) := by rw [cell_of_row wr _ 2 _ _ _ y1]; rfl
      have c3 : wr.cell? ⟨w.heap.size, 3, none⟩ = some (.slice A L.length c) := by rw [cell_of_row wr _ 3 _ _ _ y1]; rfl
      clear y1
      obtain ⟨A0, m0, rfl⟩ := own_form HO.out
      by_cases hlt : k < p
      · have HC := Lib.hid (rsec_any (s : Int) (b : Int) (p : Int) (HE.out.below HB.out) hl (z + (k : Int)))
        have HLE := Lib.hid (ofk_length (look (flip L)) z k)
        have hk1 : (k : Int) < p := by omega
        have hk2 : z + (k : Int) < z + (p : Int) := by omega
        unfold rv at HC
        cases hf : look (flip L) (z + (k : Int)) with
        | none =>
          have HS1 := Lib.hid (ofk_none hf)
          rw [hf] at HC
          clear hf
          have HF := Lib.hid (fun (w2 : World) (hb2 : Below wr.heap.size wr w2) => (show w2.ownsRow W1.heap.size 50 2 (.slice A0 (ofk (look (flip L)) z k).length m0) (ofk (look (flip L)) z (k + 1)).length (pv (ofk (look (flip L)) z (k + 1))) from by
            rw [HS1.out]
            exact HO.out.kept (row := none) ⟨hb2.os, hb2.tape, hb2.output, hb2.size, fun j hj _ => hb2.block j hj⟩ (by cases e : (Value.slice A0 (ofk (look (flip L)) z k).length m0).ownBlock <;> simp)))
          clear HS1 HO
          generalize (ofk (look (flip L)) z k).length = dn at *
          go_wp2_with ((go_at_call 29; with_reducible refine HC.out.mono ?_); rintro e w2 ⟨rfl, hb2⟩; have HO2 := Lib.hid (HF.out w2 hb2); have HB2 := Lib.hid (HB.out.trans (hb2.mono HB.out.size)); clear hb2)
          go_roundw
          case rel => exact ⟨k + 1, _, by omega, by go_num, rfl, HO2, HB2⟩
          case measure => simp [RowKit.intOf]; omega
        | some cc =>
          have HS1 := Lib.hid (ofk_some hf)
          rw [hf] at HC
          clear hf
          have HF := Lib.hid (fun (w2 : World) (hb2 : Below wr.heap.size wr w2) => row_append (w := W1) (W := w2) (HB.out.trans (hb2.mono HB.out.size)) (HO.out.kept (row := none) ⟨hb2.os, hb2.tape, hb2.output, hb2.size, fun j hj _ => hb2.block j hj⟩ (by cases e : (Value.slice A0 (ofk (look (flip L)) z k).length m0).ownBlock <;> simp)) (by have := HLE.out; omega) cc (z + (k : Int)) 27)
          rw [← HS1.out] at HF
          clear HS1 HO
          generalize (ofk (look (flip L)) z k).length = dn at *
          go_wp2_with (first | (at_builtin; refine wpList_append_run rfl (.tmp 37) (.tmp 41) 27 27 rfl _ _ _ _ rfl rfl Hrun.out ?_) | ((go_at_call 29; with_reducible refine HC.out.mono ?_); rintro e w2 ⟨rfl, hb2⟩; obtain ⟨A', n', m', g', m2, w3, hv3, hrun, hown, hbel⟩ := HF.out w2 hb2; cases hv3; have HO2 := Lib.hid hown; have HB2 := Lib.hid hbel; have Hrun := Lib.hid hrun; clear hb2 hown hbel hrun))
          go_roundw
          case rel => exact ⟨k + 1, _, by omega, by go_num, rfl, HO2, HB2⟩
          case measure => simp [RowKit.intOf]; omega
      · have hkl : k = p := by omega
        subst hkl
        obtain ⟨-, he, hob⟩ := ent_of_own HO.out
        have HF := Lib.hid (show LisP w (ofl b k L q) (.returned (.slice A0 (ofk (look (flip L)) z k).length m0)) wr from by
          rw [HL.out]
          exact ⟨_, rfl, he, fun j hj => by have := (hob j hj).1; have := HS.out; omega, HB1.out.trans (HB.out.mono HB1.out.size)⟩)
        clear HO he hob
        generalize (ofk (look (flip L)) z k).length = dn at *
        go_wp2
        go_ret
        exact HF.out
  · have HL := Lib.hid (show ofl b p L q = [] from if_neg hq)
    have HF := Lib.hid (show LisP w (ofl b p L q) (.returned (.slice none 0 0)) W1 from by
      rw [HL.out]
      exact ⟨_, rfl, Ent.nil _ _ _, fun j hj => by simp [Value.ownBlock] at hj, HB1.out⟩)
    have HF2 : Hid (LisP w (ofl b p L q) (.returned (.slice none 0 0)) (w.alloc (.cells #[.int .i64 (s : Int), .int .i64 (b : Int), .int .i64 (p : Int), .slice A L.length c] 29))) := by rw [← HW.out]; exact HF
    by_cases h0 : q < 0
    · have g1 : decide (q < 0) = true := decide_eq_true h0
      clear hq
      go_enter Try.func19, Try.ntmps19
      go_wp2
      go_ret
      exact HF2.out
    · have g1 : decide (q < 0) = false := decide_eq_false h0
      have g3 : (b : Int) ≤ q := by omega
      have g2 : decide ((b : Int) ≤ q) = true := decide_eq_true g3
      clear hq
      go_enter Try.func19, Try.ntmps19
      go_wp2
      go_ret
      exact HF2.out
end Go.Proofs.Yteiemegkdnjpgaa
