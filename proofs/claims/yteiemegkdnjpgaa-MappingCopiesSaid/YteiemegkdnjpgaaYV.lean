/- The law's function is: a mapping and the reference's map of the same assignments agree. Conditions stand in each theorem. -/
import Derived.Test.YteiemegkdnjpgaaYT
import Derived.Deep.CutBlock
namespace Go.Proofs.Yteiemegkdnjpgaa
open Go.RowKit Go.Shelf
set_option linter.unusedVariables false
set_option maxHeartbeats 16000000
set_option maxRecDepth 100000
theorem mem_ofk {f : Int → Option Int} {z : Int} : ∀ {k : Nat} {x : Int × Int}, x ∈ ofk f z k ↔ ∃ i : Nat, i < k ∧ x.2 = z + (i : Int) ∧ f x.2 = some x.1
  | 0, x => by simp [ofk, prs]
  | k + 1, x => by
    cases h : f (z + (k : Int)) with
    | none =>
      rw [ofk_none h, mem_ofk]
      constructor
      · rintro ⟨i, h1, h2, h3⟩
        exact ⟨i, by omega, h2, h3⟩
      · rintro ⟨i, h1, h2, h3⟩
        have : i ≠ k := fun e => by subst e; rw [h2, h] at h3; cases h3
        exact ⟨i, by omega, h2, h3⟩
    | some c =>
      rw [ofk_some h, List.mem_append, mem_ofk, List.mem_singleton]
      constructor
      · rintro (⟨i, h1, h2, h3⟩ | rfl)
        · exact ⟨i, by omega, h2, h3⟩
        · exact ⟨k, by omega, rfl, h⟩
      · rintro ⟨i, h1, h2, h3⟩
        by_cases e : i = k
        · subst e
          rw [h2, h] at h3
          cases h3
          exact .inr (by rw [← h2])
        · exact .inl ⟨i, by omega, h2, h3⟩
theorem nodup_ofk (f : Int → Option Int) (z : Int) : ∀ k : Nat, (ofk f z k).Nodup
  | 0 => by simp [ofk, prs]
  | k + 1 => by
    cases h : f (z + (k : Int)) with
    | none => rw [ofk_none h]; exact nodup_ofk f z k
    | some c =>
      rw [ofk_some h, List.nodup_append]
      refine ⟨nodup_ofk f z k, by simp, fun a ha b hb e => ?_⟩
      rw [List.mem_singleton] at hb
      subst e hb
      obtain ⟨i, h1, h2, _⟩ := mem_ofk.1 ha
      simp only at h2
      omega
theorem valid_ofl {s b p : Nat} {L : List (Int × Int)} (hF : Fits s b p L) (q : Int) : valid b p L q = ((ofl b p L q).length : Int) := by
  unfold valid ofl
  by_cases hq : 0 ≤ q ∧ q < b
  · rw [if_pos hq, if_pos hq]
    unfold cntB
    have hp := hF.hp
    have h1 : (L.filter fun x => decide (x.2 / (p : Int) = q)).Nodup := by
      refine List.Nodup.sublist List.filter_sublist ?_
      exact hF.srt.imp fun {a b} h e => by subst e; omega
    have h2 := nodup_ofk (look (flip L)) (q * (p : Int)) p
    have h3 := (List.perm_ext_iff_of_nodup h1 h2).2 fun x => by
      rw [List.mem_filter, mem_ofk, decide_eq_true_eq]
      constructor
      · rintro ⟨hx, he⟩
        have hr := hF.rng x hx
        have e1 := Int.mul_ediv_add_emod x.2 (p : Int)
        have e2 := Int.emod_nonneg x.2 (show (p : Int) ≠ 0 by omega)
        have e3 := Int.emod_lt_of_pos x.2 (show (0 : Int) < p by omega)
        rw [he, Int.mul_comm] at e1
        exact ⟨(x.2 % (p : Int)).toNat, by omega, by omega, hF.flip_iff.2 hx⟩
      · rintro ⟨i, h1, h2, h3⟩
        refine ⟨hF.flip_iff.1 h3, ?_⟩
        rw [h2, Int.add_comm, Int.add_mul_ediv_right _ _ (show (p : Int) ≠ 0 by omega), Int.ediv_eq_zero_of_lt (by omega) (by omega)]
        omega
    rw [h3.length_eq]
  · rw [if_neg hq, if_neg hq]; rfl
theorem ofl_length (b p : Nat) (L : List (Int × Int)) (q : Int) : (ofl b p L q).length ≤ p := by
  unfold ofl
  split
  · exact ofk_length _ _ _
  · simp
theorem rdl_true {L : List (Int × Int)} (h : L.length ≤ 16777216) : rdl true 1073741824 L = L := by
  rw [rdl_all (fun j h1 h2 => by omega)]
  simp
theorem rdl_false {l : List (Int × Int)} (h : l.length ≤ 16777216) : rdl false 1073741824 l = l.map fun x => (x.2, x.1) := by
  rw [rdl_all (fun j h1 h2 => by omega)]
  simp
theorem prs_len (b p : Nat) (L : List (Int × Int)) (q : Int) : (prs (look (flip L)) (pgl b p q)).length ≤ p := by
  refine Nat.le_trans (prs_length _ _) ?_
  unfold pgl
  split <;> simp
def Bel (w w' : World) : Prop := Below w.heap.size w w'
theorem Bel.refl (w : World) : Bel w w := Below.refl _ _
theorem Bel.drew {w w' : World} (h : Bel w w') : Bel w w'.drew := Below.drew h
theorem Bel.step {w w1 w2 : World} (h : Bel w w1) (h2 : Below w1.heap.size w1 w2) : Bel w w2 := Below.trans h (h2.mono (Below.size h))
/-- The state of is: the mapping, the other map's list and box. -/
structure IsS (w : World) (base bb m1 m2 g cap s b p : Nat) (v : Value) (L : List (Int × Int)) (W : World) : Prop where
  mg : Mg W base bb m1 m2 g cap s b p L
  ent : Ent W v L
  row : W.heap[w.heap.size]? = some (.cells #[.int .i64 (s : Int), .int .i64 (b : Int), .int .i64 (p : Int), v] 29 (0, 0))
  bel : Below w.heap.size w W
section
variable {w W W' : World} {base bb m1 m2 g cap s b p : Nat} {v : Value} {L : List (Int × Int)}
theorem IsS.later (h : IsS w base bb m1 m2 g cap s b p v L W) (hb : Below W.heap.size W W') : IsS w base bb m1 m2 g cap s b p v L W' :=
  ⟨h.mg.below hb, h.ent.below hb, (hb.block _ (Array.getElem?_eq_some_iff.1 h.row).1).trans h.row, h.bel.trans (hb.mono h.bel.size)⟩
theorem IsS.c0 (h : IsS w base bb m1 m2 g cap s b p v L W) : W.cell? ⟨w.heap.size, 0, none⟩ = some (.int .i64 (s : Int)) := by rw [cell_of_row W _ 0 _ _ _ h.row]; rfl
theorem IsS.c1 (h : IsS w base bb m1 m2 g cap s b p v L W) : W.cell? ⟨w.heap.size, 1, none⟩ = some (.int .i64 (b : Int)) := by rw [cell_of_row W _ 1 _ _ _ h.row]; rfl
theorem IsS.c2 (h : IsS w base bb m1 m2 g cap s b p v L W) : W.cell? ⟨w.heap.size, 2, none⟩ = some (.int .i64 (p : Int)) := by rw [cell_of_row W _ 2 _ _ _ h.row]; rfl
theorem IsS.c3 (h : IsS w base bb m1 m2 g cap s b p v L W) : W.cell? ⟨w.heap.size, 3, none⟩ = some v := by rw [cell_of_row W _ 3 _ _ _ h.row]; rfl
end
theorem ret_true {w W : World} (h : Below w.heap.size w W) : OkB w (.returned (.bool true)) W := ⟨rfl, h⟩
theorem is_any {w : World} {base bb m1 m2 g cap s b p : Nat} {v : Value} {L : List (Int × Int)} (hm : Mg w base bb m1 m2 g cap s b p L) (he : Ent w v L) : Calls Try.prog 15 #[.pointer (some ⟨bb, 0, none⟩), rv s b p v] w (OkB w) := by
  have hF := hm.fit
  have hs1 := hF.hs
  have hb1 := hF.hb
  have hp1 := hF.hp
  have hLs := hF.len
  have hn := hF.n
  have HF := Lib.hid hF
  obtain ⟨A, c, rfl, -⟩ := he.form
  have b0 := below_alloc w (.cells #[.int .i64 (s : Int), .int .i64 (b : Int), .int .i64 (p : Int), .slice A L.length c] 29)
  have HAL := Lib.hid (All_any (hm.below b0))
  have HS0 := Lib.hid (show IsS w base bb m1 m2 g cap s b p (.slice A L.length c) L (w.alloc (.cells #[.int .i64 (s : Int), .int .i64 (b : Int), .int .i64 (p : Int), .slice A L.length c] 29)) from ⟨hm.below b0, he.below b0, heap_alloc_new w _, b0⟩)
  have hpn := fun W : World => fun f a b => run_eql_func_nil (P := Try.prog) W 41 f a b Try.underlying41
  obtain ⟨NN, hNN⟩ : ∃ z : Int, z = (b : Int) * (p : Int) := ⟨_, rfl⟩
  have hbp : (b : Int) * (p : Int) = NN := hNN.symm
  have hN0 : 0 ≤ NN := by rw [hNN, ← Int.natCast_mul]; omega
  have hN1 : NN ≤ 2097152 := by rw [hNN, ← Int.natCast_mul]; omega
  clear hm he hF b0 hNN hn
  unfold rv
  go_enter Try.func15, Try.ntmps15
  go_upto_region 2 with ((go_at_call 16; with_reducible refine HAL.out.mono ?_); rintro e W2 ⟨B, sv, rfl, -, hbx, hen, hvo, hbe⟩; have HS2 := Lib.hid (HS0.out.later hbe); have HBX := Lib.hid hbx; have HEN := Lib.hid hen; have HVO := Lib.hid (fun k hk => (hvo k hk).2); clear hbx hen hvo hbe)
  have HST : Hid (∀ W, Bel W2 W → Bel W2 W ∧ W.cell? ⟨w.heap.size, 0, none⟩ = some (.int .i64 (s : Int)) ∧ W.cell? ⟨w.heap.size, 3, none⟩ = some (.slice A L.length c)) := Lib.hid fun W hW => ⟨hW, (HS2.out.later hW).c0, (HS2.out.later hW).c3⟩
  have H25 := Lib.hid (fun W (hW : Bel W2 W ∧ W.cell? ⟨w.heap.size, 0, none⟩ = some (.int .i64 (s : Int)) ∧ W.cell? ⟨w.heap.size, 3, none⟩ = some (.slice A L.length c)) => (show Calls Try.prog 25 #[.pointer (some ⟨bb, 0, none⟩)] W fun e w' => e = .returned (.int .i64 (L.length : Int)) ∧ Bel W2 w' ∧ w'.cell? ⟨w.heap.size, 0, none⟩ = some (.int .i64 (s : Int)) ∧ w'.cell? ⟨w.heap.size, 3, none⟩ = some (.slice A L.length c) from (Count_any (HS2.out.later hW.1).mg).mono fun e w' ⟨h1, h2⟩ => ⟨h1, HST.out w' (hW.1.step h2)⟩))
  have H26 := Lib.hid (fun W (hW : Bel W2 W ∧ W.cell? ⟨w.heap.size, 0, none⟩ = some (.int .i64 (s : Int)) ∧ W.cell? ⟨w.heap.size, 3, none⟩ = some (.slice A L.length c)) => (show Calls Try.prog 26 #[.pointer (some ⟨bb, 0, none⟩)] W fun e w' => e = .returned (.int .i64 (s : Int)) ∧ Bel W2 w' ∧ w'.cell? ⟨w.heap.size, 0, none⟩ = some (.int .i64 (s : Int)) ∧ w'.cell? ⟨w.heap.size, 3, none⟩ = some (.slice A L.length c) from (Sectors_any (HS2.out.later hW.1).mg).mono fun e w' ⟨h1, h2⟩ => ⟨h1, HST.out w' (hW.1.step h2)⟩))
  have H27 := Lib.hid (fun W (hW : Bel W2 W ∧ W.cell? ⟨w.heap.size, 0, none⟩ = some (.int .i64 (s : Int)) ∧ W.cell? ⟨w.heap.size, 3, none⟩ = some (.slice A L.length c)) => (show Calls Try.prog 27 #[.pointer (some ⟨bb, 0, none⟩)] W fun e w' => ∃ r, e = .returned r ∧ Ent w' r L ∧ Bel W2 w' ∧ w'.cell? ⟨w.heap.size, 0, none⟩ = some (.int .i64 (s : Int)) ∧ w'.cell? ⟨w.heap.size, 3, none⟩ = some (.slice A L.length c) from (Entries_any (HS2.out.later hW.1).mg).mono fun e w' ⟨r, h1, h2, _, h3⟩ => ⟨r, h1, h2, HST.out w' (hW.1.step h3)⟩))
  have H21 := Lib.hid (fun W (hW : Bel W2 W ∧ W.cell? ⟨w.heap.size, 0, none⟩ = some (.int .i64 (s : Int)) ∧ W.cell? ⟨w.heap.size, 3, none⟩ = some (.slice A L.length c)) => (show Calls Try.prog 21 #[.func (.func 50) #[] #[.pointer (some ⟨B, 0, none⟩)], .bool true, .int .i64 1073741824] W fun e w' => ∃ r, e = .returned r ∧ Ent w' r L ∧ Bel W2 w' ∧ w'.cell? ⟨w.heap.size, 0, none⟩ = some (.int .i64 (s : Int)) ∧ w'.cell? ⟨w.heap.size, 3, none⟩ = some (.slice A L.length c) from (read_any (HBX.out.below hW.1) (HEN.out.below hW.1) (fun k hk => Nat.lt_of_lt_of_le (HVO.out k hk) (Below.size hW.1)) (by omega) true 1073741824).mono fun e w' ⟨r, h1, h2, _, h3⟩ => ⟨r, h1, by rw [rdl_true (by omega)] at h2; exact h2, HST.out w' (hW.1.step h3)⟩))
  have H20 := Lib.hid (fun W (hW : Bel W2 W ∧ W.cell? ⟨w.heap.size, 0, none⟩ = some (.int .i64 (s : Int)) ∧ W.cell? ⟨w.heap.size, 3, none⟩ = some (.slice A L.length c)) r (hr : Ent W r L) => (show Calls Try.prog 20 #[r, .slice A L.length c] W fun e w' => e = .returned (.bool true) ∧ Bel W2 w' ∧ w'.cell? ⟨w.heap.size, 0, none⟩ = some (.int .i64 (s : Int)) ∧ w'.cell? ⟨w.heap.size, 3, none⟩ = some (.slice A L.length c) from (same_any hr (HS2.out.later hW.1).ent (by omega) (by omega)).mono fun e w' ⟨h1, h2⟩ => ⟨by rw [h1, decide_eq_true rfl], HST.out w' (hW.1.step h2)⟩))
  go_region_held3 (fun W => Bel W2 W ∧ W.cell? ⟨w.heap.size, 0, none⟩ = some (.int .i64 (s : Int)) ∧ W.cell? ⟨w.heap.size, 3, none⟩ = some (.slice A L.length c)) (first | assumption | exact HST.out _ (Bel.refl W2).drew)
    (first
      | ((go_at_call 25; with_reducible refine (H25.out _ (by assumption)).mono ?_); rintro e w3 ⟨rfl, hw3⟩)
      | ((go_at_call 26; with_reducible refine (H26.out _ (by assumption)).mono ?_); rintro e w4 ⟨rfl, hw4⟩)
      | ((go_at_call 27; with_reducible refine (H27.out _ (by assumption)).mono ?_); rintro e w5 ⟨r5, rfl, hr5, hw5⟩; obtain ⟨A5, c5, hv5, -⟩ := hr5.form; subst hv5; have HR5 := Lib.hid hr5; clear hr5)
      | ((go_at_call 20; with_reducible refine (H20.out _ (by assumption) _ HR5.out).mono ?_); rintro e w6 ⟨rfl, hw6⟩)
      | ((go_at_call 21; with_reducible refine (H21.out _ (by assumption)).mono ?_); rintro e w7 ⟨r7, rfl, hr7, hw7⟩; obtain ⟨A7, c7, hv7, -⟩ := hr7.form; subst hv7; have HR7 := Lib.hid hr7; clear hr7)
      | ((go_at_call 20; with_reducible refine (H20.out _ (by assumption) _ HR7.out).mono ?_); rintro e w8 ⟨rfl, hw8⟩))
  have HS8 := Lib.hid (HS2.out.later hw8.1)
  clear hw3 hw4 hw5 hw6 hw7 hw8 H25 H26 H27 H21 H20 HST
  go_wp2
  go_loopw [6, 7, 8, 9, 10] (fun i _ _ _ _ wr => ∃ k : Nat, k ≤ s + 2 ∧ i = .int .i64 (-1 + (k : Int)) ∧ Hid (IsS w base bb m1 m2 g cap s b p (.slice A L.length c) L wr)) (fun i _ _ _ _ _ => ((s : Int) + 1 - RowKit.intOf i).toNat)
  case atStart => exact ⟨0, Nat.zero_le _, by simp, HS8⟩
  case round =>
    obtain ⟨k, hk, rfl, HI⟩ := hrel
    have c0 := HI.out.c0
    by_cases hlt : k < s + 2
    · have HA := Lib.hid (At_any HI.out.mg (q := -1 + (k : Int)) (by unfold I64; omega))
      have HB := Lib.hid (fun W (h : IsS w base bb m1 m2 g cap s b p (.slice A L.length c) L W) => rat_any (s : Int) (b : Int) (p : Int) h.ent (by omega) (-1 + (k : Int)))
      unfold rv at HB
      generalize (look L (-1 + (k : Int))).getD 0 = y1 at HA HB
      generalize (look L (-1 + (k : Int))).isSome = y2 at HA HB
      have d1 : decide (-1 + (k : Int) ≤ s) = true := decide_eq_true (by omega)
      have d2 : -1 + (k : Int) ≤ s := by omega
      go_wp2_with (first
        | ((go_at_call 22; with_reducible refine HA.out.mono ?_); rintro e W2 ⟨rfl, hb⟩; have HI2 := Lib.hid (HI.out.later hb); have a0 := HI2.out.c0; have a1 := HI2.out.c1; have a2 := HI2.out.c2; have a3 := HI2.out.c3; clear hb)
        | ((go_at_call 37; with_reducible refine (HB.out _ HI2.out).mono ?_); rintro e W3 ⟨rfl, hb⟩; have HI3 := Lib.hid (HI2.out.later hb); clear hb))
      go_roundw
      case rel => exact ⟨k + 1, by omega, by congr 1; omega, HI3⟩
      case measure => simp [RowKit.intOf]; omega
    · have d1 : decide (-1 + (k : Int) ≤ s) = false := decide_eq_false (by omega)
      have d2 : ¬ -1 + (k : Int) ≤ s := by omega
      go_wp2
      clear d1 d2 c0
      go_loopw [11, 12, 13] (fun i _ _ wr => ∃ k : Nat, k ≤ b + 2 ∧ i = .int .i64 (-1 + (k : Int)) ∧ Hid (IsS w base bb m1 m2 g cap s b p (.slice A L.length c) L wr)) (fun i _ _ _ => ((b : Int) + 1 - RowKit.intOf i).toNat)
      case atStart => exact ⟨0, Nat.zero_le _, by simp, HI⟩
      case round =>
        clear HI
        obtain ⟨k2, hk2, rfl, HI⟩ := hrel
        have c1 := HI.out.c1
        by_cases hlt2 : k2 < b + 2
        · have d1 : decide (-1 + (k2 : Int) ≤ b) = true := decide_eq_true (by omega)
          have d2 : -1 + (k2 : Int) ≤ b := by omega
          have c0 := HI.out.c0
          have c2 := HI.out.c2
          have c3 := HI.out.c3
          have HOL := Lib.hid (ofl_length b p L (-1 + (k2 : Int)))
          have HPL := Lib.hid (prs_len b p L (-1 + (k2 : Int)))
          have HO := Lib.hid (rof_any s b p HI.out.ent (by omega) hb1.2 hp1 (-1 + (k2 : Int)))
          have HP := Lib.hid (fun W (h : IsS w base bb m1 m2 g cap s b p (.slice A L.length c) L W) => Pages_any h.mg (-1 + (k2 : Int)))
          have HVA := Lib.hid (fun W (h : IsS w base bb m1 m2 g cap s b p (.slice A L.length c) L W) => (show Calls Try.prog 24 #[.pointer (some ⟨bb, 0, none⟩), .int .i64 (-1 + (k2 : Int))] W fun e w' => e = .returned (.int .i64 ((ofl b p L (-1 + (k2 : Int))).length : Int)) ∧ Below W.heap.size W w' from by rw [← valid_ofl HF.out]; exact Valid_any h.mg (-1 + (k2 : Int))))
          have HQ := Lib.hid (show rdl false 1073741824 (prs (look (flip L)) (pgl b p (-1 + (k2 : Int)))) = ofl b p L (-1 + (k2 : Int)) by rw [rdl_false (by have := HPL.out; omega), ofl_prs])
          unfold rv at HO
          generalize ofl b p L (-1 + (k2 : Int)) = ol at *
          generalize prs (look (flip L)) (pgl b p (-1 + (k2 : Int))) = pl at *
          go_wp2_with (first
            | ((go_at_call 19; with_reducible refine HO.out.mono ?_); rintro e W2 ⟨v2, rfl, he2, -, hb⟩; have HI2 := Lib.hid (HI.out.later hb); obtain ⟨A2, n2, hv2, -⟩ := he2.form; subst hv2; have HE2 := Lib.hid he2; clear hb he2)
            | ((go_at_call 17; with_reducible refine (HP.out _ HI2.out).mono ?_); rintro e W3 ⟨B3, v3, rfl, -, hbx, hen, hvo, hb⟩; have HI3 := Lib.hid (HI2.out.later hb); have HE3 := Lib.hid (HE2.out.below hb); have HBX3 := Lib.hid hbx; have HEN3 := Lib.hid hen; have HVO3 := Lib.hid (fun k hk => (hvo k hk).2); clear hb hbx hen hvo)
            | ((go_at_call 24; with_reducible refine (HVA.out _ HI3.out).mono ?_); rintro e W4 ⟨rfl, hb⟩; have HI4 := Lib.hid (HI3.out.later hb); have HE4 := Lib.hid (HE3.out.below hb); have HBX4 := Lib.hid (HBX3.out.below hb); have HEN4 := Lib.hid (HEN3.out.below hb); have HVO4 := Lib.hid (fun k hk => Nat.lt_of_lt_of_le (HVO3.out k hk) hb.size); clear hb)
            | ((go_at_call 21; with_reducible refine (read_any HBX4.out HEN4.out HVO4.out (by have := HPL.out; omega) false 1073741824).mono ?_); rintro e W5 ⟨v5, rfl, he5, -, hb⟩; rw [HQ.out] at he5; obtain ⟨A5, n5, hv5, -⟩ := he5.form; subst hv5; have HI5 := Lib.hid (HI4.out.later hb); have HE5 := Lib.hid (HE4.out.below hb); have HR5 := Lib.hid he5; clear hb he5)
            | ((go_at_call 20; with_reducible refine (same_any HR5.out HE5.out (by have := HOL.out; omega) (by have := HOL.out; omega)).mono ?_); rintro e W6 ⟨he, hb⟩; have he2 := he.trans (congrArg (fun t => Ending.returned (.bool t)) (decide_eq_true (rfl : ol = ol))); subst he2; have HI6 := Lib.hid (HI5.out.later hb); clear hb he))
          go_roundw
          case rel => exact ⟨k2 + 1, by omega, by congr 1; omega, HI6⟩
          case measure => simp [RowKit.intOf]; omega
        · have d1 : decide (-1 + (k2 : Int) ≤ b) = false := decide_eq_false (by omega)
          have d2 : ¬ -1 + (k2 : Int) ≤ b := by omega
          go_wp2
          clear d1 d2 c1
          go_loopw [14, 15, 16, 17, 18] (fun i _ _ _ _ wr => ∃ k : Nat, (k : Int) ≤ NN + 2 ∧ i = .int .i64 (-1 + (k : Int)) ∧ Hid (IsS w base bb m1 m2 g cap s b p (.slice A L.length c) L wr)) (fun i _ _ _ _ _ => (NN + 1 - RowKit.intOf i).toNat)
          case atStart => exact ⟨0, by omega, by simp, HI⟩
          case round =>
            clear HI
            obtain ⟨k3, hk3, rfl, HI⟩ := hrel
            have c1 := HI.out.c1
            have c2 := HI.out.c2
            by_cases hlt3 : (k3 : Int) < NN + 2
            · have d1 : decide (-1 + (k3 : Int) ≤ NN) = true := decide_eq_true (by omega)
              have d2 : -1 + (k3 : Int) ≤ NN := by omega
              have HA := Lib.hid (Sector_any HI.out.mg (q := -1 + (k3 : Int)) (by unfold I64; omega))
              have HB := Lib.hid (fun W (h : IsS w base bb m1 m2 g cap s b p (.slice A L.length c) L W) => rsec_any (s : Int) (b : Int) (p : Int) h.ent (by omega) (-1 + (k3 : Int)))
              unfold rv at HB
              generalize (look (flip L) (-1 + (k3 : Int))).getD 0 = y1 at HA HB
              generalize (look (flip L) (-1 + (k3 : Int))).isSome = y2 at HA HB
              go_wp2_with (first
                | ((go_at_call 23; with_reducible refine HA.out.mono ?_); rintro e W2 ⟨rfl, hb⟩; have HI2 := Lib.hid (HI.out.later hb); have a0 := HI2.out.c0; have a1 := HI2.out.c1; have a2 := HI2.out.c2; have a3 := HI2.out.c3; clear hb)
                | ((go_at_call 29; with_reducible refine (HB.out _ HI2.out).mono ?_); rintro e W3 ⟨rfl, hb⟩; have HI3 := Lib.hid (HI2.out.later hb); clear hb))
              go_roundw
              case rel => exact ⟨k3 + 1, by omega, by congr 1; omega, HI3⟩
              case measure => simp [RowKit.intOf]; omega
            · have d1 : decide (-1 + (k3 : Int) ≤ NN) = false := decide_eq_false (by omega)
              have d2 : ¬ -1 + (k3 : Int) ≤ NN := by omega
              go_wp2
              go_ret
              exact ret_true HI.out.bel
end Go.Proofs.Yteiemegkdnjpgaa
