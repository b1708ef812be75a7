/- The walk of ArbiterShares. Conditions stand in each theorem. -/
import Derived.Test.YtildofclgofjdaaSB
namespace Go.Proofs.Ytildofclgofjdaa
open Go.RowKit
set_option linter.unusedVariables false
set_option maxHeartbeats 400000
set_option maxRecDepth 100000
def mx3 (x y z : Int) : Int := if z > (if y > x then y else x) then z else (if y > x then y else x)
@[go_sem] theorem run_max3 {P : Program} (w : World) (ts : Array TypeId) (t : TypeId) (k k' k'' : IntKind) (x y z : Int) : (Builtin.max_ ts t #[.int k x, .int k' y, .int k'' z]).run P w = .ok (.int k (mx3 x y z)) w := by
  simp [Builtin.max_, Builtin.max2, mx3]
theorem mx3_big {x y z : Int} (h : 40 < x ∨ 40 < y ∨ 40 < z) : 40 < mx3 x y z := by
  unfold mx3
  split <;> split <;> omega
theorem mx3_small {x y z : Int} (h : ¬ (40 < x ∨ 40 < y ∨ 40 < z)) : ¬ 40 < mx3 x y z := by
  unfold mx3
  split <;> split <;> omega
theorem wk_range {bu hi me lo : Int} (h : valB true bu hi me lo = true) (k : Nat) : 1 ≤ wk hi me lo k := by
  unfold valB wgtB at h
  simp at h
  unfold wk
  split
  · omega
  · split <;> omega
def ShN (w : World) (bu hi me lo : Int) (x0 x1 x2 : Nat) (e : Ending) (w' : World) : Prop :=
  ∃ ba ma, e = .returned (.tuple #[.pointer (some ⟨ba, 0, none⟩), .int .i64 0]) ∧ CfgAt w' w.heap.size true bu hi me lo ∧ w'.heap[w.heap.size + 1]? = some (.cells #[.int .u8 (x0 : Nat), .int .u8 (x1 : Nat), .int .u8 (x2 : Nat)] 44 (0, 0)) ∧ Below w.heap.size w w' ∧ Arb w' ba ma (St.new true bu hi me lo) ∧ w.heap.size + 2 ≤ ba ∧ w.heap.size + 2 ≤ ma
theorem New_sh {bu hi me lo : Int} (hval : valB true bu hi me lo = true) (x0 x1 x2 : Nat) (w : World) :
    Calls Try.prog 10 #[.agg #[.bool true, .int .i64 bu, .int .i64 hi, .int .i64 me, .int .i64 lo]] ((w.alloc (.cells #[.bool true, .int .i64 bu, .int .i64 hi, .int .i64 me, .int .i64 lo] 23)).alloc (.cells #[.int .u8 (x0 : Nat), .int .u8 (x1 : Nat), .int .u8 (x2 : Nat)] 44)) (ShN w bu hi me lo x0 x1 x2) := by
  refine (New_ok true bu hi me lo _ hval).mono ?_
  rintro e wn ⟨ba, ma, rfl, hA, hga, hgm, hb⟩
  have hQ0 := heap_alloc_new (w.alloc (.cells #[.bool true, .int .i64 bu, .int .i64 hi, .int .i64 me, .int .i64 lo] 23)) (.cells #[.int .u8 (x0 : Nat), .int .u8 (x1 : Nat), .int .u8 (x2 : Nat)] 44)
  rw [World.size_alloc] at hQ0
  exact ⟨ba, ma, rfl, ((CfgAt.new w true bu hi me lo).below (below_alloc _ _)).below hb, (hb.block _ (by simp)).trans hQ0, ((below_alloc w _).alloc (by simp) _).trans (hb.mono (by simp; omega)), hA, by simp at hga; omega, by simp at hgm; omega⟩
theorem S1.next {w : World} {base Q B9 ba ma x0 x1 x2 : Nat} {bu hi me lo : Int} {k : Nat} {v : Value} {wr : World} (h : S1 w base Q B9 ba ma x0 x1 x2 bu hi me lo k (n3 (x0 % 4) (x1 % 4) (x2 % 4) k) v wr) : S1 w base Q B9 ba ma x0 x1 x2 bu hi me lo (k + 1) 0 v wr := by
  obtain ⟨a, b, c⟩ := h
  refine ⟨?_, ?_, c⟩
  · unfold sS at *
    rw [sL_next]
    exact a
  · rw [sl_next]
    exact b
theorem S1.begin {w wn : World} {ba ma x0 x1 x2 : Nat} {bu hi me lo : Int} (hA : Arb wn ba ma (St.new true bu hi me lo)) (hb : Below w.heap.size w wn) (hq : wn.heap[w.heap.size + 1]? = some (.cells #[.int .u8 (x0 : Nat), .int .u8 (x1 : Nat), .int .u8 (x2 : Nat)] 44 (0, 0))) :
    S1 w (wn.heap.size + 1) (w.heap.size + 1) wn.heap.size ba ma x0 x1 x2 bu hi me lo 0 0 (.slice none 0 0) (wn.alloc (.cells #[.int .i64 hi, .int .i64 me, .int .i64 lo] 45)) := by
  have hlt := (Array.getElem?_eq_some_iff.1 hq).1
  exact ⟨hA.below (below_alloc _ _), World.ownsRow_nil _ _ _ _, hb.alloc hb.size _, by simp, ((below_alloc wn _).block _ hlt).trans hq, heap_alloc_new wn _⟩
theorem S1.two {w : World} {base Q B9 ba ma x0 x1 x2 : Nat} {bu hi me lo : Int} {v : Value} {wr : World} (hval : valB true bu hi me lo = true) (h : S1 w base Q B9 ba ma x0 x1 x2 bu hi me lo 3 0 v wr) : S2 w base Q B9 ba ma x0 x1 x2 bu hi me lo v (fun _ => 0) wr := by
  refine ⟨⟨_, h.arb, rfl, rfl, rfl, rfl, rfl, rfl, with_ok (new_ok hval) (sL_srt _ _ _ _ _), fun k hk => ⟨Int.le_refl _, ?_, fun _ => rfl⟩, .inl fun k hk _ => ?_⟩, h.row, h.bas⟩
  · have := wk_range hval k
    show 0 ≤ wk hi me lo k
    omega
  · show wts hi me lo (k + 1) = wk hi me lo k - 0
    rw [wts_wk hi me lo k hk]
    omega
theorem S2.drewN {w : World} {base Q B9 ba ma x0 x1 x2 : Nat} {bu hi me lo : Int} {v : Value} {g : Nat → Int} {wr : World} (h : S2 w base Q B9 ba ma x0 x1 x2 bu hi me lo v g wr) (n : Nat) : S2 w base Q B9 ba ma x0 x1 x2 bu hi me lo v g (wr.drewN n) := by
  obtain ⟨⟨s, hA, hS⟩, r, b⟩ := h
  exact ⟨⟨s, hA.kept (w' := wr.drewN n) rfl rfl, hS⟩, r, ⟨b.below.os, b.below.tape, b.below.output, b.below.size, b.below.block⟩, b.size, b.qb, b.wb⟩
theorem S2.bd {w : World} {base Q B9 ba ma x0 x1 x2 : Nat} {bu hi me lo : Int} {v : Value} {g : Nat → Int} {wr : World} (h : S2 w base Q B9 ba ma x0 x1 x2 bu hi me lo v g wr) (h40 : ∀ k, wk hi me lo k ≤ 40) (k : Nat) (hk : k < 3) : 0 ≤ g k ∧ g k ≤ 40 := by
  obtain ⟨s, _, hS⟩ := h.arb
  have h1 := hS.g0 k hk
  have h2 := h40 k
  omega
theorem S2.over {w : World} {base Q B9 ba ma x0 x1 x2 : Nat} {bu hi me lo : Int} {v : Value} {g : Nat → Int} {wr : World} (h : S2 w base Q B9 ba ma x0 x1 x2 bu hi me lo v g wr) (h0 : 0 < tot (x0 % 4) (x1 % 4) (x2 % 4) hi me lo) (hn : tot (x0 % 4) (x1 % 4) (x2 % 4) hi me lo ≤ g 0 + g 1 + g 2) :
    (∀ k, k < 3 → 0 < n3 (x0 % 4) (x1 % 4) (x2 % 4) k → g k = wk hi me lo k) ∧ (∀ k, k < 3 → n3 (x0 % 4) (x1 % 4) (x2 % 4) k = 0 → g k = 0) ∧ S2 w base Q B9 ba ma x0 x1 x2 bu hi me lo v (fun _ => 0) wr := by
  obtain ⟨⟨s, hA, hS⟩, r, b⟩ := h
  obtain ⟨e1, e2, e3⟩ := hS.over h0 hn
  exact ⟨e1, e2, ⟨s, hA, e3⟩, r, b⟩
theorem S2.alloc {w : World} {base Q B9 ba ma x0 x1 x2 : Nat} {bu hi me lo : Int} {v : Value} {g : Nat → Int} {wr : World} (h : S2 w base Q B9 ba ma x0 x1 x2 bu hi me lo v g wr) (p : Plc w base Q B9 ba ma) (o : Obj) : S2 w base Q B9 ba ma x0 x1 x2 bu hi me lo v g (wr.alloc o) := by
  obtain ⟨⟨s, hA, hS⟩, r, b⟩ := h
  exact ⟨⟨s, hA.below (below_alloc _ _), hS⟩, r.alloc _, b.chg p (Chg.of_below (S := fun _ => False) (below_alloc wr o)) (fun h => h) (fun h => h) (fun _ h => h.elim)⟩
theorem totk_bd {a b c : Nat} {hi me lo : Int} (h1 : ∀ k, 1 ≤ wk hi me lo k) (h40 : ∀ k, wk hi me lo k ≤ 40) (k : Nat) : 0 ≤ totk a b c hi me lo k ∧ totk a b c hi me lo k ≤ 40 * (k : Int) := by
  induction k with
  | zero => exact ⟨Int.le_refl _, Int.le_refl _⟩
  | succ k ih =>
    have e1 := h1 k
    have e2 := h40 k
    unfold totk
    split <;> omega
set_option maxHeartbeats 8000000 in
theorem shares_walk (wt : Bool) (bu hi me lo rounds : Int) (x0 x1 x2 : Nat) (w : World) (h0 : x0 ≤ 255) (h1 : x1 ≤ 255) (h2 : x2 ≤ 255) :
    Calls Try.prog 4 #[.agg #[.bool wt, .int .i64 bu, .int .i64 hi, .int .i64 me, .int .i64 lo], .agg #[.int .u8 (x0 : Nat), .int .u8 (x1 : Nat), .int .u8 (x2 : Nat)], .int .i64 rounds] w (OkPost w) := by
  cases hval : valB true bu hi me lo
  · have N1 := Lib.hid (fun W => New_bad true bu hi me lo W hval)
    clear hval
    go_enter Try.func4, Try.ntmps4
    go_wp2_with (first
      | ((go_at_call 10; with_reducible refine (N1.out _).mono ?_); rintro e w1 ⟨rfl, hb⟩; have HB1 := Lib.hid (((below_alloc w (.cells #[.bool true, .int .i64 bu, .int .i64 hi, .int .i64 me, .int .i64 lo] 23)).alloc (by simp) (.cells #[.int .u8 (x0 : Nat), .int .u8 (x1 : Nat), .int .u8 (x2 : Nat)] 44)).trans (hb.mono (by simp; omega))); clear hb)
      | ((go_at_call 12; with_reducible refine (known_any _).mono ?_); rintro e w2 ⟨rfl, hb2⟩))
    go_ret
    exact ⟨rfl, HB1.out.trans (hb2.mono HB1.out.size)⟩
  · have N1 := Lib.hid (New_sh hval x0 x1 x2 w)
    have HV := Lib.hid hval
    have w1 := wk_range hval 0
    have w2 := wk_range hval 1
    have w3 := wk_range hval 2
    simp only [wk] at w1 w2 w3
    simp at w1 w2 w3
    clear hval
    by_cases hbad : (40 < hi ∨ 40 < me ∨ 40 < lo) ∨ rounds < 0 ∨ 5 < rounds
    · by_cases g1 : 40 < hi ∨ 40 < me ∨ 40 < lo
      · have g2b : decide (40 < mx3 hi me lo) = true := decide_eq_true (mx3_big g1)
        clear hbad g1
        go_enter Try.func4, Try.ntmps4
        go_wp2_with (first
          | ((go_at_call 10; with_reducible refine N1.out.mono ?_); rintro e wn ⟨ba, ma, rfl, hcf, hqb, hb, hA, hga, hgm⟩; have HB1 := Lib.hid hb; obtain ⟨_, _, k2, k3, k4⟩ := hcf.cells; clear hb hA hqb hcf hga hgm)
          | ((go_at_call 12; with_reducible refine (known_any _).mono ?_); rintro e w2' ⟨rfl, hb2⟩))
        go_ret
        exact ⟨rfl, HB1.out.trans (hb2.mono HB1.out.size)⟩
      have g2b : decide (40 < mx3 hi me lo) = false := decide_eq_false (mx3_small (by omega))
      by_cases g3 : rounds < 0
      · clear hbad g1
        go_enter Try.func4, Try.ntmps4
        go_wp2_with (first
          | ((go_at_call 10; with_reducible refine N1.out.mono ?_); rintro e wn ⟨ba, ma, rfl, hcf, hqb, hb, hA, hga, hgm⟩; have HB1 := Lib.hid hb; obtain ⟨_, _, k2, k3, k4⟩ := hcf.cells; clear hb hA hqb hcf hga hgm)
          | ((go_at_call 12; with_reducible refine (known_any _).mono ?_); rintro e w2' ⟨rfl, hb2⟩))
        go_ret
        exact ⟨rfl, HB1.out.trans (hb2.mono HB1.out.size)⟩
      · have g4 : 5 < rounds := by omega
        clear hbad g1
        go_enter Try.func4, Try.ntmps4
        go_wp2_with (first
          | ((go_at_call 10; with_reducible refine N1.out.mono ?_); rintro e wn ⟨ba, ma, rfl, hcf, hqb, hb, hA, hga, hgm⟩; have HB1 := Lib.hid hb; obtain ⟨_, _, k2, k3, k4⟩ := hcf.cells; clear hb hA hqb hcf hga hgm)
          | ((go_at_call 12; with_reducible refine (known_any _).mono ?_); rintro e w2' ⟨rfl, hb2⟩))
        go_ret
        exact ⟨rfl, HB1.out.trans (hb2.mono HB1.out.size)⟩
    have u1 : hi ≤ 40 := by omega
    have u2 : me ≤ 40 := by omega
    have u3 : lo ≤ 40 := by omega
    have g2b : decide (40 < mx3 hi me lo) = false := decide_eq_false (mx3_small (by omega))
    have r0 : 0 ≤ rounds := by omega
    have r5 : rounds ≤ 5 := by omega
    have hd2 : decide (rounds < 0) = false := by simp; omega
    have hd3 : decide (5 < rounds) = false := by simp; omega
    clear hbad
    go_enter Try.func4, Try.ntmps4
    go_wp2_with ((go_at_call 10; with_reducible refine N1.out.mono ?_); rintro e wn ⟨ba, ma, rfl, hcf, hqb, hb, hA, hga, hgm⟩; have HB1 := Lib.hid hb; obtain ⟨_, _, k2, k3, k4⟩ := hcf.cells; have HQB := Lib.hid hqb; have HA1 := Lib.hid hA; clear hb hA hqb hcf)
    obtain ⟨i48, hi48, hz0, hz1, hz2⟩ := info_parts info48
    have h40 : ∀ k, wk hi me lo k ≤ 40 := fun k => by unfold wk; split; omega; split <;> omega
    have h1w : ∀ k, 1 ≤ wk hi me lo k := fun k => wk_range HV.out k
    have H40 := Lib.hid h40
    have H1W := Lib.hid h1w
    clear h40 h1w
    have HS0 := Lib.hid (S1.begin HA1.out HB1.out HQB.out)
    have HPL : Hid (Plc w (wn.heap.size + 1) (w.heap.size + 1) wn.heap.size ba ma) := by
      have e1 := HA1.out.lt
      have e2 := HA1.out.map.lt
      have e3 := (Array.getElem?_eq_some_iff.1 HQB.out).1
      exact ⟨by omega, by omega, by omega, by omega, by omega, by omega, by omega, by omega, by omega, by omega, by omega, by omega, by omega⟩
    have hma : ma < wn.heap.size + 1 := HPL.out.m
    go_loopw [10, 11, 12] (fun v t k wr => ∃ kk : Nat, kk ≤ 3 ∧ k = .int .i64 kk ∧ t = .int .i64 (totk (x0 % 4) (x1 % 4) (x2 % 4) hi me lo kk) ∧ Hid (S1 w (wn.heap.size + 1) (w.heap.size + 1) wn.heap.size ba ma x0 x1 x2 bu hi me lo kk 0 v wr)) (fun _ _ k _ => 3 - (RowKit.intOf k).toNat)
    case atStart => exact ⟨0, by omega, rfl, rfl, HS0.out⟩
    case round =>
      obtain ⟨k, hk, rfl, rfl, HT⟩ := hrel
      by_cases hlt : k < 3
      · obtain ⟨y, HY⟩ : ∃ y, Hid (n3 x0 x1 x2 k = y) := ⟨_, rfl⟩
        obtain ⟨T, HTK⟩ : ∃ T, Hid (totk (x0 % 4) (x1 % 4) (x2 % 4) hi me lo k = T) := ⟨_, rfl⟩
        obtain ⟨W, HWK⟩ : ∃ W, Hid (wk hi me lo k = W) := ⟨_, rfl⟩
        have htb : 0 ≤ T ∧ T ≤ 40 * (k : Int) := by rw [← HTK.out]; exact totk_bd H1W.out H40.out k
        have HTN : Hid (totk (x0 % 4) (x1 % 4) (x2 % 4) hi me lo (k + 1) = T + (if 0 < y % 4 then W else 0)) := by rw [← HY.out, ← HTK.out, ← HWK.out, ← n3_mod]; exact rfl
        have HM : Hid (n3 (x0 % 4) (x1 % 4) (x2 % 4) k = y % 4) := by rw [← HY.out]; exact n3_mod x0 x1 x2 k
        have hy : y ≤ 255 := by rw [← HY.out]; unfold n3; split; omega; split <;> omega
        have hwk : W ≤ 40 := by rw [← HWK.out]; exact H40.out k
        have hwk1 : 1 ≤ W := by rw [← HWK.out]; exact H1W.out k
        rw [HTK.out]
        have hki : ((k : Nat) : Int) < 3 := by omega
        obtain ⟨wo, hwo⟩ : ∃ wo : World, wo = wr := ⟨_, rfl⟩
        subst hwo
        go_wp2
        go_loopw [10, 13, 14] (fun v i _ wr => ∃ ii : Nat, ii ≤ y % 4 ∧ i = .int .i64 ii ∧ Hid (S1 w (wn.heap.size + 1) (w.heap.size + 1) wn.heap.size ba ma x0 x1 x2 bu hi me lo k ii v wr)) (fun _ i _ _ => y % 4 - (RowKit.intOf i).toNat)
        case atStart => exact ⟨0, by omega, rfl, HT.out⟩
        case round =>
          obtain ⟨i, hi', rfl, HTI⟩ := hrel
          have c1 : wr.cell? ⟨w.heap.size + 1, k, none⟩ = some (.int .u8 (y : Nat)) := by rw [← HY.out]; exact HTI.out.bas.cq k hlt
          have c2 : wr.cell? ⟨wn.heap.size, k, none⟩ = some (.int .i64 W) := by rw [← HWK.out]; exact HTI.out.bas.cw k hlt
          by_cases hil : i < y % 4
          · have HAD := Lib.hid (HTI.out.add hlt (by rw [HM.out]; exact hil))
            have HLE : Hid ((sl (x0 % 4) (x1 % 4) (x2 % 4) k i).length ≤ 15) := Lib.hid (s_len ⟨x0 % 4, Nat.mod_lt _ (by decide)⟩ ⟨x1 % 4, Nat.mod_lt _ (by decide)⟩ ⟨x2 % 4, Nat.mod_lt _ (by decide)⟩ ⟨k, by omega⟩ ⟨i, by omega⟩ (by simp; omega))
            go_wp2_with (first
              | ((go_at_call 16; with_reducible refine HAD.out.mono ?_); rintro e w2 ⟨rfl, hA2, hC2⟩
                 have HA2 := Lib.hid hA2
                 have HC2 := Lib.hid hC2
                 have HO2 := Lib.hid (row_chg HTI.out.row hma hC2)
                 have hsz2 : wn.heap.size + 1 ≤ w2.heap.size := Nat.le_trans HTI.out.bas.size hC2.size
                 clear hA2 hC2)
              | (at_builtin; refine wpList_append_own _ rfl _ _ 40 rfl (wn.heap.size + 1) 48 i48 (.agg #[.int .i64 0, .int .i64 0]) 2 16 Try.underlying40 hi48 hz0 hz1 hz2 rfl (by decide) _ _ _ rfl (HO2.out.alloc _) ⟨w2.heap.size, 0, none⟩ 1 1 [.int .i64 (10 * (i : Int) + (k : Int)), .int .i64 1000] rfl rfl (cell_two_new w2 _ _ 48) (by intro u hu; simp at hu; rcases hu with rfl | rfl <;> rfl) (by have := HLE.out; unfold maxLen; omega) (by have := HLE.out; omega) (by simp; omega) ?_; intro v3 w3 ho3 hg3 _; have HO3 := Lib.hid ho3; have HG3 := Lib.hid hg3; clear ho3 hg3))
            go_roundw
            case rel => exact ⟨i + 1, by omega, by go_num, HTI.out.step HPL.out HA2.out HC2.out _ HO3.out HG3.out⟩
            case measure => simp [RowKit.intOf]; omega
          · have hin : i = y % 4 := by omega
            have HTE : Hid (S1 w (wn.heap.size + 1) (w.heap.size + 1) wn.heap.size ba ma x0 x1 x2 bu hi me lo (k + 1) 0 u10 wr) := Lib.hid (S1.next (by rw [HM.out, ← hin]; exact HTI.out))
            clear HTI
            by_cases hy0 : 0 < y % 4
            · have HTN2 := Lib.hid (HTN.out.trans (by rw [if_pos hy0]))
              go_wp2
              go_roundw
              case rel => exact ⟨k + 1, by omega, by go_num, by rw [HTN2.out], HTE.out⟩
              case measure => simp [RowKit.intOf]; omega
            · have HTN2 : Hid (totk (x0 % 4) (x1 % 4) (x2 % 4) hi me lo (k + 1) = T) := Lib.hid (HTN.out.trans (by rw [if_neg hy0]; omega))
              have hym : ((y : Nat) : Int) % 4 = 0 := by omega
              go_wp2
              go_roundw
              case rel => exact ⟨k + 1, by omega, by go_num, by rw [HTN2.out], HTE.out⟩
              case measure => simp [RowKit.intOf]; omega
      · have hk3 : k = 3 := by omega
        subst hk3
        rw [totk3, show ((3 : Nat) : Int) = 3 from rfl]
        have HT2 := Lib.hid (HT.out.two HV.out)
        have HTB : Hid (0 ≤ tot (x0 % 4) (x1 % 4) (x2 % 4) hi me lo ∧ tot (x0 % 4) (x1 % 4) (x2 % 4) hi me lo ≤ 120) := by
          have := totk_bd (a := x0 % 4) (b := x1 % 4) (c := x2 % 4) H1W.out H40.out 3
          rw [totk3] at this
          exact ⟨this.1, by have := this.2; omega⟩
        obtain ⟨T, HTK⟩ : ∃ T, Hid (tot (x0 % 4) (x1 % 4) (x2 % 4) hi me lo = T) := ⟨_, rfl⟩
        have htb : 0 ≤ T ∧ T ≤ 120 := by rw [← HTK.out]; exact HTB.out
        rw [HTK.out]
        clear HT HTB
        obtain ⟨wf, hwf⟩ : ∃ wf : World, wf = wr := ⟨_, rfl⟩
        subst hwf
        go_wp2
        go_loopw [15] (fun i wr => ∃ (t : Nat), (t : Int) ≤ rounds ∧ i = .int .i64 t ∧ Hid (S2 w (wn.heap.size + 1) (w.heap.size + 1) wn.heap.size ba ma x0 x1 x2 bu hi me lo u10 (fun _ => 0) wr)) (fun i _ => rounds.toNat - (RowKit.intOf i).toNat)
        case atStart => exact ⟨0, by omega, rfl, HT2.out⟩
        case round =>
          obtain ⟨t, ht, rfl, HT⟩ := hrel
          by_cases htt : (t : Int) < rounds
          · by_cases hT0 : 0 < T
            · obtain ⟨wo, hwo⟩ : ∃ wo : World, wo = wr := ⟨_, rfl⟩
              subst hwo
              have HG0 : Hid (Giv (wo.alloc (.cells #[.int .i64 0, .int .i64 0, .int .i64 0] 45)) wo.heap.size (fun _ => 0)) := Lib.hid (heap_alloc_new wo _)
              have HT3 := Lib.hid (HT.out.alloc HPL.out (.cells #[.int .i64 0, .int .i64 0, .int .i64 0] 45))
              have hGb : wn.heap.size + 1 ≤ wo.heap.size := HT.out.bas.size
              have HVG : Hid (u10.ownBlock ≠ some wo.heap.size) := by
                intro e
                have := (HT.out.row.lt _ e).2
                omega
              clear HT
              go_wp2
              go_loopw [17, 18, 19, 20] (fun n _ _ _ wr => ∃ (g : Nat → Int), n = .int .i64 (g 0 + g 1 + g 2) ∧ Hid (S2 w (wn.heap.size + 1) (w.heap.size + 1) wn.heap.size ba ma x0 x1 x2 bu hi me lo u10 g wr) ∧ Hid (Giv wr wo.heap.size g)) (fun n _ _ _ _ => (T - RowKit.intOf n).toNat)
              case atStart => exact ⟨fun _ => 0, rfl, HT3.out, HG0.out⟩
              case round =>
                obtain ⟨g, rfl, HTG, HG⟩ := hrel
                have b0 := HTG.out.bd H40.out 0 (by decide)
                have b1 := HTG.out.bd H40.out 1 (by decide)
                have b2 := HTG.out.bd H40.out 2 (by decide)
                obtain ⟨n, HN⟩ : ∃ n, Hid (g 0 + g 1 + g 2 = n) := ⟨_, rfl⟩
                have hn0 : 0 ≤ n ∧ n ≤ 120 := by rw [← HN.out]; omega
                rw [HN.out]
                clear b0 b1 b2
                by_cases hnt : n < T
                · have HPK := Lib.hid (HTG.out.pick HPL.out H40.out (by rw [HN.out, HTK.out]; exact hnt))
                  have hGm : wo.heap.size < wr.heap.size := HG.out.lt
                  go_wp2_with ((go_at_call 17; with_reducible refine HPK.out.mono ?_); rintro e w2 ⟨q, m, kk, rfl, hkk, q0, q1, q2, m0, m1, hS2, hC2⟩
                               have HS2 := Lib.hid hS2
                               have HG2 : Hid (Giv w2 wo.heap.size g) := Lib.hid ((hC2.block _ HG.out.lt (by have := HPL.out.a; show ¬ wo.heap.size = ba; omega)).trans HG.out)
                               have hq2 : decide (2 < q % 10) = false := by simp; omega
                               have cg : w2.cell? ⟨wo.heap.size, kk, none⟩ = some (.int .i64 (g kk)) := HG2.out.cell kk hkk
                               have cf : w2.frozen? ⟨wo.heap.size, kk, none⟩ = false := HG2.out.free _
                               have hgb := HTG.out.bd H40.out kk hkk
                               clear hS2 hC2)
                  go_roundw
                  case rel => exact ⟨upd g kk (g kk + m), by rw [sum_upd g kk hkk m, HN.out], HS2.out.set HPL.out HG2.out hGb HVG.out kk _, HG2.out.set kk hkk _⟩
                  case measure => simp [RowKit.intOf]; omega
                · obtain ⟨o1, o2, o3⟩ := HTG.out.over (by rw [HTK.out]; exact hT0) (by rw [HTK.out, HN.out]; omega)
                  have HO1 := Lib.hid o1
                  have HO2 := Lib.hid o2
                  have HO3 := Lib.hid o3
                  clear o1 o2 o3 HTG
                  obtain ⟨wp, hwp⟩ : ∃ wp : World, wp = wr := ⟨_, rfl⟩
                  subst hwp
                  go_wp2
                  go_loopw [21] (fun i wr => ∃ (j : Nat), j ≤ 3 ∧ i = .int .i64 j ∧ Hid (S2 w (wn.heap.size + 1) (w.heap.size + 1) wn.heap.size ba ma x0 x1 x2 bu hi me lo u10 (fun _ => 0) wr) ∧ Hid (Giv wr wo.heap.size g)) (fun i _ => 3 - (RowKit.intOf i).toNat)
                  case atStart => exact ⟨0, by omega, rfl, HO3.out, HG.out⟩
                  case round =>
                    obtain ⟨j, hj, rfl, HTJ, HGJ⟩ := hrel
                    by_cases hlj : j < 3
                    · obtain ⟨y, HY⟩ : ∃ y, Hid (n3 x0 x1 x2 j = y) := ⟨_, rfl⟩
                      have hy : y ≤ 255 := by rw [← HY.out]; unfold n3; split; omega; split <;> omega
                      have hm : n3 (x0 % 4) (x1 % 4) (x2 % 4) j = y % 4 := by rw [← HY.out]; exact n3_mod x0 x1 x2 j
                      have c1 : wr.cell? ⟨w.heap.size + 1, j, none⟩ = some (.int .u8 (y : Nat)) := by rw [← HY.out]; exact HTJ.out.bas.cq j hlj
                      have c2 : wr.cell? ⟨wn.heap.size, j, none⟩ = some (.int .i64 (wk hi me lo j)) := HTJ.out.bas.cw j hlj
                      have c3 := HGJ.out.cell j hlj
                      by_cases hy0 : 0 < y % 4
                      · have e1 := HO1.out j hlj (by rw [hm]; exact hy0)
                        rw [e1] at c3
                        generalize wk hi me lo j = W at c2 c3
                        have hd5 : decide (0 < ((y : Nat) : Int) % 4) = true := by simp; omega
                        have hd6 : ((((y : Nat) : Int) % 4) == 0) = false := by simp; omega
                        have hd7 : decide (((y : Nat) : Int) % 4 = 0) = false := by simp; omega
                        clear e1 hm
                        go_wp2
                        go_quiet (fail)
                        go_wp2
                        go_roundw
                        case rel => exact ⟨j + 1, by omega, by go_num, HTJ.out.drewN _, HGJ.out⟩
                        case measure => simp [RowKit.intOf]; omega
                      · have e1 := HO2.out j hlj (by rw [hm]; omega)
                        rw [e1] at c3
                        generalize wk hi me lo j = W at c2
                        have hym : ((y : Nat) : Int) % 4 = 0 := by omega
                        clear e1 hm
                        clear hy0
                        go_wp2
                        go_quiet (fail)
                        go_wp2
                        go_roundw
                        case rel => exact ⟨j + 1, by omega, by go_num, HTJ.out.drewN _, HGJ.out⟩
                        case measure => simp [RowKit.intOf]; omega
                    · go_wp2
                      go_roundw
                      case rel => exact ⟨t + 1, by omega, by go_num, HTJ.out⟩
                      case measure => simp [RowKit.intOf]; omega
            · go_wp2_with ((go_at_call 12; with_reducible refine (known_any _).mono ?_); rintro e w2 ⟨rfl, hb2⟩)
              go_ret
              exact ⟨rfl, HT.out.bas.below.trans (hb2.mono HT.out.bas.below.size)⟩
          · go_wp2_with ((go_at_call 12; with_reducible refine (known_any _).mono ?_); rintro e w2 ⟨rfl, hb2⟩)
            go_ret
            exact ⟨rfl, HT.out.bas.below.trans (hb2.mono HT.out.bas.below.size)⟩
end Go.Proofs.Ytildofclgofjdaa
