/- The walk of ArbiterCopies. Conditions stand in each theorem. -/
import Derived.Test.YtildofclgofjdaaZR
namespace Go.Proofs.Ytildofclgofjdaa
open Go.RowKit Go.Shelf
set_option linter.unusedVariables false
set_option maxHeartbeats 4000000
set_option maxRecDepth 100000
attribute [local go_sem ↓ 100000] loadX_eq storeX_eq loadA_eq
theorem copies_walk (wt : Bool) (bu hi me lo : Int) (v1 v2 v3 : Value) (L1 L2 L3 : List KC) (w : World) (hv1 : Acts w v1 L1) (hk1 : ∀ e ∈ L1, KC.ok w e) (hv2 : Acts w v2 L2) (hk2 : ∀ e ∈ L2, KC.ok w e) (hv3 : Acts w v3 L3) (hk3 : ∀ e ∈ L3, KC.ok w e) :
    Calls Try.prog 8 #[.agg #[.bool wt, .int .i64 bu, .int .i64 hi, .int .i64 me, .int .i64 lo], v1, v2, v3] w (OkPost w) := by
  have HF1 := Lib.hid (fun (W : World) (hW : Below w.heap.size w W) (z : Bool) (hz : fewB L1 = z) => (show Calls Try.prog 13 #[v1] W fun e w' => e = .returned (.bool z) ∧ W = w' from hz ▸ few_any v1 L1 W (hv1.below hW) (fun e he => (hk1 e he).below hW)))
  have HF2 := Lib.hid (fun (W : World) (hW : Below w.heap.size w W) (z : Bool) (hz : fewB L2 = z) => (show Calls Try.prog 13 #[v2] W fun e w' => e = .returned (.bool z) ∧ W = w' from hz ▸ few_any v2 L2 W (hv2.below hW) (fun e he => (hk2 e he).below hW)))
  have HF3 := Lib.hid (fun (W : World) (hW : Below w.heap.size w W) (z : Bool) (hz : fewB L3 = z) => (show Calls Try.prog 13 #[v3] W fun e w' => e = .returned (.bool z) ∧ W = w' from hz ▸ few_any v3 L3 W (hv3.below hW) (fun e he => (hk3 e he).below hW)))
  have HKN := Lib.hid (fun W => known_any W)
  have HB0 := Lib.hid (below_alloc w (.cells #[.bool wt, .int .i64 bu, .int .i64 hi, .int .i64 me, .int .i64 lo] 23))
  have HZ0 := Lib.hid (World.size_alloc w (.cells #[.bool wt, .int .i64 bu, .int .i64 hi, .int .i64 me, .int .i64 lo] 23))
  have HCF0 := Lib.hid (CfgAt.new w wt bu hi me lo)
  obtain ⟨A1, c1, rfl, hrow1⟩ := hv1
  have HROW1 := Lib.hid hrow1
  have HOKS1 := Lib.hid hk1
  obtain ⟨A2, c2, rfl, hrow2⟩ := hv2
  have HROW2 := Lib.hid hrow2
  have HOKS2 := Lib.hid hk2
  obtain ⟨A3, c3, rfl, hrow3⟩ := hv3
  have HROW3 := Lib.hid hrow3
  have HOKS3 := Lib.hid hk3
  clear hrow1 hrow2 hrow3 hk1 hk2 hk3
  cases hval : valB wt bu hi me lo
  · have N1 := Lib.hid (fun W => New_bad wt bu hi me lo W hval)
    clear hval
    go_enter Try.func8, Try.ntmps8
    go_wp2_with (first
      | ((go_at_call 10; with_reducible refine (N1.out _).mono ?_); rintro e w1 ⟨rfl, hb⟩; have HB1 := Lib.hid (HB0.out.trans (hb.mono HB0.out.size)); clear hb)
      | ((go_at_call 12; with_reducible refine (HKN.out _).mono ?_); rintro e w3 ⟨rfl, hb3⟩))
    go_ret
    exact ⟨rfl, HB1.out.trans (hb3.mono HB1.out.size)⟩
  have N1 := Lib.hid (fun W => New_ok wt bu hi me lo W hval)
  have HOK0 := Lib.hid (new_ok hval)
  have N14 := Lib.hid (fun W => rnew_any wt bu hi me lo W)
  clear hval
  cases hf1 : fewB L1
  · go_enter Try.func8, Try.ntmps8
    go_wp2_with (first
      | ((go_at_call 10; with_reducible refine (N1.out _).mono ?_); rintro e w1 ⟨ba, ma, rfl, hA, hga, hgm, hb⟩; have HB1 := Lib.hid (HB0.out.trans (hb.mono HB0.out.size)); have HCF1 := Lib.hid (HCF0.out.below hb); obtain ⟨k0, k1, k2, k3, k4⟩ := HCF1.out.cells; have HA1 := Lib.hid hA; have hgb : w.heap.size < ba := (by have := HZ0.out; omega); have hgm2 : w.heap.size < ma := (by have := HZ0.out; omega); clear hb hA hga hgm; have HC1 := Lib.hid (HF1.out w1 HB1.out false hf1))
      | ((go_at_call 13; with_reducible refine HC1.out.mono ?_); rintro e w2' ⟨rfl, rfl⟩; clear HC1)
      | ((go_at_call 12; with_reducible refine (HKN.out _).mono ?_); rintro e w3 ⟨rfl, hb3⟩))
    go_ret
    exact ⟨rfl, HB1.out.trans (hb3.mono HB1.out.size)⟩
  cases hf2 : fewB L2
  · go_enter Try.func8, Try.ntmps8
    go_wp2_with (first
      | ((go_at_call 10; with_reducible refine (N1.out _).mono ?_); rintro e w1 ⟨ba, ma, rfl, hA, hga, hgm, hb⟩; have HB1 := Lib.hid (HB0.out.trans (hb.mono HB0.out.size)); have HCF1 := Lib.hid (HCF0.out.below hb); obtain ⟨k0, k1, k2, k3, k4⟩ := HCF1.out.cells; have HA1 := Lib.hid hA; have hgb : w.heap.size < ba := (by have := HZ0.out; omega); have hgm2 : w.heap.size < ma := (by have := HZ0.out; omega); clear hb hA hga hgm; have HC1 := Lib.hid (HF1.out w1 HB1.out true hf1); have HC2 := Lib.hid (HF2.out w1 HB1.out false hf2))
      | ((go_at_call 13; with_reducible refine HC1.out.mono ?_); rintro e w2' ⟨rfl, rfl⟩; clear HC1)
      | ((go_at_call 13; with_reducible refine HC2.out.mono ?_); rintro e w2' ⟨rfl, rfl⟩; clear HC2)
      | ((go_at_call 12; with_reducible refine (HKN.out _).mono ?_); rintro e w3 ⟨rfl, hb3⟩))
    go_ret
    exact ⟨rfl, HB1.out.trans (hb3.mono HB1.out.size)⟩
  cases hf3 : fewB L3
  · go_enter Try.func8, Try.ntmps8
    go_wp2_with (first
      | ((go_at_call 10; with_reducible refine (N1.out _).mono ?_); rintro e w1 ⟨ba, ma, rfl, hA, hga, hgm, hb⟩; have HB1 := Lib.hid (HB0.out.trans (hb.mono HB0.out.size)); have HCF1 := Lib.hid (HCF0.out.below hb); obtain ⟨k0, k1, k2, k3, k4⟩ := HCF1.out.cells; have HA1 := Lib.hid hA; have hgb : w.heap.size < ba := (by have := HZ0.out; omega); have hgm2 : w.heap.size < ma := (by have := HZ0.out; omega); clear hb hA hga hgm; have HC1 := Lib.hid (HF1.out w1 HB1.out true hf1); have HC2 := Lib.hid (HF2.out w1 HB1.out true hf2); have HC3 := Lib.hid (HF3.out w1 HB1.out false hf3))
      | ((go_at_call 13; with_reducible refine HC1.out.mono ?_); rintro e w2' ⟨rfl, rfl⟩; clear HC1)
      | ((go_at_call 13; with_reducible refine HC2.out.mono ?_); rintro e w2' ⟨rfl, rfl⟩; clear HC2)
      | ((go_at_call 13; with_reducible refine HC3.out.mono ?_); rintro e w2' ⟨rfl, rfl⟩; clear HC3)
      | ((go_at_call 12; with_reducible refine (HKN.out _).mono ?_); rintro e w3 ⟨rfl, hb3⟩))
    go_ret
    exact ⟨rfl, HB1.out.trans (hb3.mono HB1.out.size)⟩
  obtain ⟨l160, l130⟩ := few_len hf1
  obtain ⟨l260, l230⟩ := few_len hf2
  obtain ⟨l360, l330⟩ := few_len hf3
  have HL1 := Lib.hid l130
  have HL2 := Lib.hid l230
  have HL3 := Lib.hid l330
  have l160i : (L1.length : Int) ≤ 60 := by omega
  have l260i : (L2.length : Int) ≤ 60 := by omega
  have l360i : (L3.length : Int) ≤ 60 := by omega
  clear l130 l230 l330
  go_enter Try.func8, Try.ntmps8
  go_upto_region 7 with (first
    | ((go_at_call 10; with_reducible refine (N1.out _).mono ?_); rintro e w1 ⟨ba, ma, rfl, hA, hga, hgm, hb⟩; have HB1 := Lib.hid (HB0.out.trans (hb.mono HB0.out.size)); have HCF1 := Lib.hid (HCF0.out.below hb); obtain ⟨k0, k1, k2, k3, k4⟩ := HCF1.out.cells; have HA1 := Lib.hid hA; have hgb : w.heap.size < ba := (by have := HZ0.out; omega); have hgm2 : w.heap.size < ma := (by have := HZ0.out; omega); clear hb hA hga hgm; have HC1 := Lib.hid (HF1.out w1 HB1.out true hf1); have HC2 := Lib.hid (HF2.out w1 HB1.out true hf2); have HC3 := Lib.hid (HF3.out w1 HB1.out true hf3))
    | ((go_at_call 13; with_reducible refine HC1.out.mono ?_); rintro e w2' ⟨rfl, rfl⟩; clear HC1)
    | ((go_at_call 13; with_reducible refine HC2.out.mono ?_); rintro e w2' ⟨rfl, rfl⟩; clear HC2)
    | ((go_at_call 13; with_reducible refine HC3.out.mono ?_); rintro e w2' ⟨rfl, rfl⟩; clear HC3)
    | ((go_at_call 14; with_reducible refine (N14.out _).mono ?_); rintro e w4 ⟨he4, hb4⟩; subst he4; have HB4 := Lib.hid (HB1.out.trans (hb4.mono HB1.out.size)); have HA4 := Lib.hid (HA1.out.below hb4); obtain ⟨v1, v2, v3⟩ := var_put w4 (St.new wt bu hi me lo) none 0 0; have V1 := v1; unfold zero35 at V1; have V2 := Lib.hid v2; have V3 := Lib.hid v3; clear hb4 v1 v2 v3))
  have hx : w.heap.size < w4.heap.size := by have h1 := HA4.out.lt; omega
  obtain ⟨W0, hW0⟩ : ∃ W0, W0 = (w4.alloc (.cells #[.bool false, .int .i64 0, .int .i64 0, .int .i64 0, .int .i64 0, .slice none 0 0, .int .i64 0, .int .i64 0, .int .i64 0, .int .i64 0, .int .i64 0, .int .i64 0, .int .i64 0, .int .i64 0] 35)).setRow w4.heap.size (RC (St.new wt bu hi me lo) (.slice none 0 0)) := ⟨_, rfl⟩
  have HR1 : Hid (RJ (BB3 ba ma w4.heap.size) ba ma w4.heap.size (St.new wt bu hi me lo) (.slice none 0 0) W0) := Lib.hid (by rw [hW0]; exact ⟨HA4.out.below V3.out, HOK0.out, Lds.nil _, fun h => absurd h (by simp [St.new]), V2.out⟩)
  have HBB : Hid (Below w.heap.size w W0) := Lib.hid (by rw [hW0]; exact HB4.out.trans (V3.out.mono HB4.out.size))
  rw [← hW0]
  clear hW0 V1 V2 V3 k0 k1 k2 k3 k4 HF1 HF2 HF3 N1 N14 HA4 HB4 hf1 hf2 hf3
  obtain ⟨X, hX⟩ : ∃ X, X = w4.heap.size := ⟨_, rfl⟩
  rw [← hX] at HR1 hx ⊢
  clear hX
  go_loopw [12, 13] (fun f i wr => ∃ (k : Nat) (s : St) (A : Option Addr) (n c : Nat), k ≤ L1.length ∧ f = .bool true ∧ i = .int .i64 k ∧ Hid (RJ (BB3 ba ma X) ba ma X s (.slice A n c) wr) ∧ Hid (Below w.heap.size w wr)) (fun _ i _ => L1.length - (RowKit.intOf i).toNat)
  case atStart => exact ⟨0, _, none, 0, 0, Nat.zero_le _, rfl, rfl, HR1, HBB⟩
  case round =>
    obtain ⟨k, s, A, n, c, hk, rfl, rfl, HRI, HBW⟩ := hrel
    by_cases hlt : k < L1.length
    · obtain ⟨g, o, hA, hg, hcell⟩ := HROW1.out (by omega)
      subst hA
      have hbd : Below w.heap.size w wr.drew := HBW.out.drew
      have HRD := Lib.hid (HRI.out.later (show Below wr.heap.size wr wr.drew from (Below.refl _ _).drew))
      have hact := ((hcell k hlt).below hg hbd).load
      have hldX : (loadX ⟨X, 0, none⟩).run Try.prog wr.drew = .ok (.agg (RC s (.slice A n c))) wr.drew := run_loadVar_row _ X 35 35 _ (0, 0) _ HRD.out.row Try.underlying35 rfl info35
      have hmem := List.getElem_mem hlt
      have HDO := Lib.hid (do_any ba ma s A n c L1[k] wr.drew HRD.out.arb HRD.out.ok HRD.out.lds (HRD.out.offs (fun i hi => .inl hi)) ((HOKS1.out _ hmem).below hbd) (off_old (HOKS1.out _ hmem) (by omega)) (HL1.out _ hmem))
      generalize L1[k] = x at *
      have hki0 : (0 : Int) ≤ (k : Int) := by omega
      have hki1 : (k : Int) < (L1.length : Int) := by omega
      clear hcell hmem
      go_upto_region 9 with fail
      refine Code.wp_mono nrm_le ?_
      go_region_with ((go_at_call 15; with_reducible refine HDO.out.mono ?_); rintro e w3 ⟨s', A', n', c', rfl, ha, hO, hl, hc, hkp⟩; obtain ⟨hst0, hri, hch⟩ := HRD.out.step (.inr (.inr rfl)) HRD.out.b3 ha hO hl hc hkp; have hst : (storeX ⟨X, 0, none⟩ (.agg (RC s' (.slice A' n' c')))).run Try.prog w3 = .ok () (w3.setRow X (RC s' (.slice A' n' c'))) := hst0; have HRI2 := Lib.hid hri; have HCH := Lib.hid hch; clear ha hO hl hc hkp hst0 hri hch)
      all_goals
        simp only [nrm]
        go_wp2
        go_roundw
        case rel => exact ⟨k + 1, s', A', n', c', by omega, rfl, by go_num, HRI2, Lib.hid (HBW.out.drew.trans (HCH.out.below (by have := HBW.out.size; exact this) (fun i hi => by omega)))⟩
        case measure => simp [RowKit.intOf]; omega
    · obtain rfl : k = L1.length := by omega
      go_upto_region 10 with fail
      have HS := Lib.hid HRI.out.ok.srt
      have HRD := Lib.hid (HRI.out.later (show Below wr.heap.size wr wr.drew from (Below.refl _ _).drew))
      have hba : Below wr.heap.size wr (wr.alloc (.cells #[.bool false, .int .i64 0, .int .i64 0, .int .i64 0, .int .i64 0, .slice none 0 0, .int .i64 0, .int .i64 0, .int .i64 0, .int .i64 0, .int .i64 0, .int .i64 0, .int .i64 0, .int .i64 0] 35)).drew := ((Below.refl _ _).alloc (Nat.le_refl _) _).drew
      have HBA := Lib.hid hba
      have HRA := Lib.hid (HRI.out.later hba)
      have HZA : Hid ((wr.alloc (.cells #[.bool false, .int .i64 0, .int .i64 0, .int .i64 0, .int .i64 0, .slice none 0 0, .int .i64 0, .int .i64 0, .int .i64 0, .int .i64 0, .int .i64 0, .int .i64 0, .int .i64 0, .int .i64 0] 35)).drew.heap[wr.heap.size]? = some (.cells zero35 35 (0, 0))) := Lib.hid (heap_alloc_new wr _)
      have HC1 := Lib.hid (Copy_any ba ma s wr.drew HRD.out.arb HS.out)
      have HC2 := Lib.hid (Copy_any ba ma s (wr.alloc (.cells #[.bool false, .int .i64 0, .int .i64 0, .int .i64 0, .int .i64 0, .slice none 0 0, .int .i64 0, .int .i64 0, .int .i64 0, .int .i64 0, .int .i64 0, .int .i64 0, .int .i64 0, .int .i64 0] 35)).drew HRA.out.arb HS.out)
      have l1 : (loadX ⟨X, 0, none⟩).run Try.prog wr.drew = .ok (.agg (RC s (.slice A n c))) wr.drew := run_loadVar_row _ X 35 35 _ (0, 0) _ HRD.out.row Try.underlying35 rfl info35
      have l2 : (loadX ⟨X, 0, none⟩).run Try.prog (wr.alloc (.cells #[.bool false, .int .i64 0, .int .i64 0, .int .i64 0, .int .i64 0, .slice none 0 0, .int .i64 0, .int .i64 0, .int .i64 0, .int .i64 0, .int .i64 0, .int .i64 0, .int .i64 0, .int .i64 0] 35)).drew = .ok (.agg (RC s (.slice A n c))) (wr.alloc (.cells #[.bool false, .int .i64 0, .int .i64 0, .int .i64 0, .int .i64 0, .slice none 0 0, .int .i64 0, .int .i64 0, .int .i64 0, .int .i64 0, .int .i64 0, .int .i64 0, .int .i64 0, .int .i64 0] 35)).drew := run_loadVar_row _ X 35 35 _ (0, 0) _ HRA.out.row Try.underlying35 rfl info35
      clear hba
      go_cut [14, 15] (fun p q wx => ∃ (b2 m2 Y : Nat), p = .pointer (some ⟨b2, 0, none⟩) ∧ q = .pointer (some ⟨Y, 0, none⟩) ∧ wr.heap.size ≤ b2 ∧ wr.heap.size ≤ m2 ∧ wr.heap.size ≤ Y ∧ Hid (R2 ba ma X b2 m2 Y s (.slice A n c) s (.slice A n c) wx) ∧ Hid (Below wr.heap.size wr wx))
      case first =>
        go_region_with (first
          | ((go_at_call 22; with_reducible refine HC1.out.mono ?_); rintro e w5 ⟨b2, m2, rfl, hA5, hb5, hm5, hB5⟩; have hB : Below wr.heap.size wr w5 := (show Below wr.heap.size wr w5 from ((Below.refl wr.heap.size wr).drew).trans hB5); have l5 : (loadX ⟨X, 0, none⟩).run Try.prog w5 = .ok (.agg (RC s (.slice A n c))) w5 := run_loadVar_row _ X 35 35 _ (0, 0) _ (HRI.out.later hB).row Try.underlying35 rfl info35; obtain ⟨q1, q2, q3⟩ := var_put w5 s A n c; have Q1 := q1; unfold zero35 at Q1; have l6 : (loadX ⟨X, 0, none⟩).run Try.prog (w5.alloc (.cells #[.bool false, .int .i64 0, .int .i64 0, .int .i64 0, .int .i64 0, .slice none 0 0, .int .i64 0, .int .i64 0, .int .i64 0, .int .i64 0, .int .i64 0, .int .i64 0, .int .i64 0, .int .i64 0] 35)) = .ok (.agg (RC s (.slice A n c))) (w5.alloc (.cells #[.bool false, .int .i64 0, .int .i64 0, .int .i64 0, .int .i64 0, .slice none 0 0, .int .i64 0, .int .i64 0, .int .i64 0, .int .i64 0, .int .i64 0, .int .i64 0, .int .i64 0, .int .i64 0] 35)) := run_loadVar_row _ X 35 35 _ (0, 0) _ ((HRI.out.later hB).later (below_alloc w5 _)).row Try.underlying35 rfl info35; have HM := Lib.hid (R2.made HRI.out (hB.trans (q3.mono hB.size)) (hA5.below q3) hb5 hm5 (show wr.heap.size ≤ w5.heap.size from hB.size) q2); have HMB := Lib.hid (hB.trans (q3.mono hB.size)); have hY : wr.heap.size ≤ w5.heap.size := hB.size; have HB5 := Lib.hid hb5; have HM5 := Lib.hid hm5; clear hA5 hB5 q1 q2 q3 hb5 hm5 hB)
          | ((go_at_call 22; with_reducible refine HC2.out.mono ?_); rintro e w5 ⟨b2, m2, rfl, hA5, hb5, hm5, hB5⟩; have hz : wr.heap.size + 1 ≤ w5.heap.size := (by have := hB5.size; simpa using this); have hB : Below wr.heap.size wr w5 := (HBA.out.trans (hB5.mono (by simp))); have l5 : (loadX ⟨X, 0, none⟩).run Try.prog w5 = .ok (.agg (RC s (.slice A n c))) w5 := run_loadVar_row _ X 35 35 _ (0, 0) _ (HRI.out.later hB).row Try.underlying35 rfl info35; have hrz : w5.heap[wr.heap.size]? = some (.cells zero35 35 (0, 0)) := (hB5.block _ (by simp)).trans HZA.out; have Q1 : (storeX ⟨wr.heap.size, 0, none⟩ (.agg (RC s (.slice A n c)))).run Try.prog w5 = .ok () (w5.setRow wr.heap.size (RC s (.slice A n c))) := run_storeVar_row _ wr.heap.size 35 35 zero35 _ hrz info35 rfl (RC_one _ _ _ _); have hC : Chg (fun k => k = wr.heap.size) w5 (w5.setRow wr.heap.size (RC s (.slice A n c))) := ⟨rfl, rfl, rfl, by simp, fun j hj hn => setRow_other _ _ j _ hn⟩; have hb6 : wr.heap.size + 1 ≤ b2 := (by simpa using hb5); have hm6 : wr.heap.size + 1 ≤ m2 := (by simpa using hm5); have HMB := Lib.hid (hB.trans (hC.below hB.size (fun i hi => by omega))); have HM := Lib.hid (R2.made HRI.out HMB.out (hA5.chg hC (by show ¬ b2 = wr.heap.size; omega) (by show ¬ m2 = wr.heap.size; omega)) (by omega) (by omega) (Nat.le_refl _) (setRow_heap _ wr.heap.size zero35 _ 35 (0, 0) hrz)); have hY : wr.heap.size ≤ wr.heap.size := Nat.le_refl _; have HB5 := Lib.hid (show wr.heap.size ≤ b2 by omega); have HM5 := Lib.hid (show wr.heap.size ≤ m2 by omega); clear hA5 hB5 hb5 hm5 hB hC hrz hb6 hm6))
        all_goals
          go_wp2
          go_meet
          case rel => exact ⟨b2, m2, _, rfl, rfl, HB5.out, HM5.out, hY, HM, HMB⟩
      case rest =>
        obtain ⟨b2, m2, Y, rfl, rfl, h1, h2, h3, HR2, HB2⟩ := hcut
        have hb2 : w.heap.size ≤ b2 := Nat.le_trans HBW.out.size h1
        have hm2 : w.heap.size ≤ m2 := Nat.le_trans HBW.out.size h2
        have hy2 : w.heap.size ≤ Y := Nat.le_trans HBW.out.size h3
        have HBC := Lib.hid (HBW.out.trans (HB2.out.mono HBW.out.size))
        clear HC1 HC2 HRA HBA HZA HRD HS HRI HBW HB2 l1 l2 h1 h2 h3
        obtain ⟨M, hM⟩ : ∃ M : Nat, M = max L2.length L3.length := ⟨_, rfl⟩
        have hM2 : L2.length ≤ M := by omega
        have hM3 : L3.length ≤ M := by omega
        have HMX : Hid (max (L2.length : Int) (L3.length : Int) = (M : Int)) := Lib.hid (by omega)
        have hM60 : (M : Int) ≤ 60 := by omega
        clear hM
        go_upto_region 14 with fail
        go_loopw [12, 16] (fun f i wx => ∃ (k : Nat) (s1 : St) (A1 : Option Addr) (n1 c1 : Nat) (s2 : St) (A2 : Option Addr) (n2 c2 : Nat), k ≤ M ∧ f = .bool true ∧ i = .int .i64 k ∧ Hid (R2 ba ma X b2 m2 Y s1 (.slice A1 n1 c1) s2 (.slice A2 n2 c2) wx) ∧ Hid (Below w.heap.size w wx)) (fun _ i _ => M - (RowKit.intOf i).toNat)
        case atStart => exact ⟨0, s, A, n, c, s, A, n, c, Nat.zero_le _, rfl, rfl, HR2, HBC⟩
        case round =>
          obtain ⟨k, s1, A1, n1, c1, s2, A2, n2, c2, hk, rfl, rfl, HP, HBW⟩ := hrel
          have hmx := HMX.out
          by_cases hlt : k < M
          · have hki0 : (0 : Int) ≤ (k : Int) := by omega
            have hki1 : (k : Int) < (M : Int) := by omega
            go_upto_if 82 with fail
            go_cut [12] (fun f wx => ∃ (s1 : St) (A1 : Option Addr) (n1 c1 : Nat), f = .bool true ∧ Hid (R2 ba ma X b2 m2 Y s1 (.slice A1 n1 c1) s2 (.slice A2 n2 c2) wx) ∧ Hid (Below w.heap.size w wx))
            case first =>
              by_cases hlt2 : k < L2.length
              · obtain ⟨g, o, hA, hg, hcell⟩ := HROW2.out (by omega)
                subst hA
                have hbd : Below w.heap.size w wr.drew := HBW.out.drew
                have HRD := Lib.hid (HP.out.later (show Below wr.heap.size wr wr.drew from (Below.refl _ _).drew))
                have hact := ((hcell k hlt2).below hg hbd).load
                have hldX : (loadX ⟨X, 0, none⟩).run Try.prog wr.drew = .ok (.agg (RC s1 (.slice A1 n1 c1))) wr.drew := run_loadVar_row _ X 35 35 _ (0, 0) _ HRD.out.one.row Try.underlying35 rfl info35
                have hmem := List.getElem_mem hlt2
                have HDO := Lib.hid (do_any ba ma s1 A1 n1 c1 L2[k] wr.drew HRD.out.one.arb HRD.out.one.ok HRD.out.one.lds (HRD.out.one.offs (fun i hi => .inl (.inl hi))) ((HOKS2.out _ hmem).below hbd) (off_old (HOKS2.out _ hmem) (by omega)) (HL2.out _ hmem))
                generalize L2[k] = x at *
                have hki2 : (k : Int) < (L2.length : Int) := by omega
                clear hcell hmem
                go_upto_region 17 with fail
                refine Code.wp_mono nrm_le ?_
                go_region_with ((go_at_call 15; with_reducible refine HDO.out.mono ?_); rintro e w3 ⟨s', A', n', c', rfl, ha, hO, hl, hc, hkp⟩; obtain ⟨hst, hri, hch⟩ := HRD.out.step1 ha hO hl hc hkp; have HRI2 := Lib.hid hri; have HCH := Lib.hid hch; clear ha hO hl hc hkp hri hch)
                all_goals
                  simp only [nrm]
                  go_wp2
                  go_meet
                  case rel => exact ⟨s', A', n', c', rfl, HRI2, Lib.hid (HBW.out.drew.trans (HCH.out.below (by have := HBW.out.size; exact this) (fun i hi => by omega)))⟩
              · have hki2 : ¬ (k : Int) < (L2.length : Int) := by omega
                go_wp2
                go_meet
                case rel => exact ⟨s1, A1, n1, c1, rfl, HP, HBW⟩
            case rest =>
              obtain ⟨r1, B1, p1, q1, rfl, HP2, HBX⟩ := hcut
              clear HP HBW
              by_cases hlt3 : k < L3.length
              · obtain ⟨g, o, hA, hg, hcell⟩ := HROW3.out (by omega)
                subst hA
                have hbd : Below w.heap.size w wc.drew := HBX.out.drew
                have HRD := Lib.hid (HP2.out.swap.later (show Below wc.heap.size wc wc.drew from (Below.refl _ _).drew))
                have hact := ((hcell k hlt3).below hg hbd).load
                have hldX : (loadX ⟨Y, 0, none⟩).run Try.prog wc.drew = .ok (.agg (RC s2 (.slice A2 n2 c2))) wc.drew := run_loadVar_row _ Y 35 35 _ (0, 0) _ HRD.out.one.row Try.underlying35 rfl info35
                have hmem := List.getElem_mem hlt3
                have HDO := Lib.hid (do_any b2 m2 s2 A2 n2 c2 L3[k] wc.drew HRD.out.one.arb HRD.out.one.ok HRD.out.one.lds (HRD.out.one.offs (fun i hi => .inl (.inl hi))) ((HOKS3.out _ hmem).below hbd) (off_old (HOKS3.out _ hmem) (by omega)) (HL3.out _ hmem))
                generalize L3[k] = x at *
                have hki3 : (k : Int) < (L3.length : Int) := by omega
                have hki3d : decide ((k : Int) < (L3.length : Int)) = true := decide_eq_true hki3
                clear hcell hmem
                go_upto_region 19 with fail
                refine Code.wp_mono nrm_le ?_
                go_region_with ((go_at_call 15; with_reducible refine HDO.out.mono ?_); rintro e w3 ⟨s', A', n', c', rfl, ha, hO, hl, hc, hkp⟩; obtain ⟨hst, hri, hch⟩ := HRD.out.step1 ha hO hl hc hkp; have HRI2 := Lib.hid hri.swap; have HCH := Lib.hid hch; clear ha hO hl hc hkp hri hch)
                all_goals
                  simp only [nrm]
                  go_wp2
                  go_roundw
                  case rel => exact ⟨k + 1, r1, B1, p1, q1, s', A', n', c', by omega, rfl, by go_num, HRI2, Lib.hid (HBX.out.drew.trans (HCH.out.below (by have := HBX.out.size; exact this) (fun i hi => by omega)))⟩
                  case measure => simp [RowKit.intOf]; omega
              · have hki3 : ¬ (k : Int) < (L3.length : Int) := by omega
                have hki3d : decide ((k : Int) < (L3.length : Int)) = false := decide_eq_false hki3
                go_wp2
                go_roundw
                case rel => exact ⟨k + 1, r1, B1, p1, q1, s2, A2, n2, c2, by omega, rfl, by go_num, HP2, HBX⟩
                case measure => simp [RowKit.intOf]; omega
          · have hki1 : ¬ (k : Int) < (M : Int) := by omega
            have hldX : (loadX ⟨X, 0, none⟩).run Try.prog wr = .ok (.agg (RC s1 (.slice A1 n1 c1))) wr := run_loadVar_row _ X 35 35 _ (0, 0) _ HP.out.one.row Try.underlying35 rfl info35
            have HG1 := Lib.hid (agrees_any ba ma s1 s1 A1 n1 c1 wr HP.out.one.arb HP.out.one.ok.srt HP.out.one.lds)
            have HG2 := Lib.hid (fun (W : World) (hW : Below wr.heap.size wr W) => agrees_any b2 m2 s2 s2 A2 n2 c2 W (HP.out.two.arb.below hW) HP.out.two.ok.srt (HP.out.two.lds.below hW))
            go_wp2_with (first
              | ((go_at_call 23; with_reducible refine HG1.out.mono ?_); rintro e w6 ⟨rfl, hb6⟩; have HB6 := Lib.hid hb6; have hldY : (loadX ⟨Y, 0, none⟩).run Try.prog w6 = .ok (.agg (RC s2 (.slice A2 n2 c2))) w6 := run_loadVar_row _ Y 35 35 _ (0, 0) _ (HP.out.two.later hb6).row Try.underlying35 rfl info35; clear hb6)
              | ((go_at_call 23; with_reducible refine (HG2.out _ HB6.out).mono ?_); rintro e w7 ⟨rfl, hb7⟩; have HB7 := Lib.hid (HB6.out.trans (hb7.mono HB6.out.size)); clear hb7)
              | ((go_at_call 12; with_reducible refine (HKN.out _).mono ?_); rintro e w9 ⟨rfl, hb9⟩))
            go_ret
            exact ⟨rfl, (HBW.out.trans (HB7.out.mono HBW.out.size)).trans (hb9.mono (Nat.le_trans HBW.out.size HB7.out.size))⟩
end Go.Proofs.Ytildofclgofjdaa
