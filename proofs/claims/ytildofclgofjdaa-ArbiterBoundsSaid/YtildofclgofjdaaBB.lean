/- The walk of ArbiterBounds. Conditions stand in each theorem. -/
import Derived.Test.YtildofclgofjdaaBA
namespace Go.Proofs.Ytildofclgofjdaa
open Go.RowKit
set_option linter.unusedVariables false
set_option maxHeartbeats 400000
set_option maxRecDepth 100000
/-- Between two rounds of the first loop. -/
structure B1 (w : World) (ba ma : Nat) (wt : Bool) (bu hi me lo : Int) (l : List (Int × Int)) (k : Nat) (L : List (Int × Int)) (wr : World) : Prop where
  arb : Arb wr ba ma ((St.new wt bu hi me lo).with L)
  bq : BQ l k L
  below : Below w.heap.size w wr
  cfg : CfgAt wr w.heap.size wt bu hi me lo
/-- Between two picks. -/
structure B2 (w : World) (ba ma : Nat) (wt : Bool) (bu hi me lo : Int) (L : List (Int × Int)) (wr : World) : Prop where
  arb : ∃ s, Arb wr ba ma s ∧ Ok s ∧ s.L = L ∧ s.wt = wt ∧ s.bu = bu
  below : Below w.heap.size w wr
  cfg : CfgAt wr w.heap.size wt bu hi me lo
def BAdd (w : World) (ba ma : Nat) (wt : Bool) (bu hi me lo : Int) (l : List (Int × Int)) (k : Nat) (L : List (Int × Int)) (e : Ending) (w' : World) : Prop := e = .returned (.int .i64 0) ∧ B1 w ba ma wt bu hi me lo l k L w'
theorem B1.add {w : World} {ba ma : Nat} {wt : Bool} {bu hi me lo : Int} {l : List (Int × Int)} {k : Nat} {L : List (Int × Int)} {wr : World} (h : B1 w ba ma wt bu hi me lo l k L wr) (hm : w.heap.size < ma) (hk : k < l.length) (hn : 0 ≤ l[k].2) (he : addE L l[k].1 ((k % 4 : Nat) : Int) = 0) :
    Calls Try.prog 16 #[.pointer (some ⟨ba, 0, none⟩), .int .i64 l[k].1, .int .i64 ((k : Int) % 4)] wr (BAdd w ba ma wt bu hi me lo l (k + 1) (addL L l[k].1 ((k % 4 : Nat) : Int))) := by
  have hc := Add_any ba ma _ wr h.arb h.bq.srt l[k].1 ((k : Int) % 4)
  have e2 : (k : Int) % 4 = ((k % 4 : Nat) : Int) := by omega
  rw [e2] at hc ⊢
  rw [show addE ((St.new wt bu hi me lo).with L).L l[k].1 ((k % 4 : Nat) : Int) = 0 from he] at hc
  refine hc.mono ?_
  rintro e w' ⟨rfl, hA, hC⟩
  exact ⟨rfl, hA, h.bq.step hk he hn, h.below.trans (hC.below h.below.size (fun i hi => by omega)), h.cfg.chg hC (by show ¬ w.heap.size = ma; omega)⟩
def BBad (w wr : World) (E : Int) (e : Ending) (w' : World) : Prop := e = .returned (.int .i64 E) ∧ Below w.heap.size w w'
theorem B1.addBad {w : World} {ba ma : Nat} {wt : Bool} {bu hi me lo : Int} {l : List (Int × Int)} {k : Nat} {L : List (Int × Int)} {wr : World} (h : B1 w ba ma wt bu hi me lo l k L wr) (hm : w.heap.size < ma) (q : Int) :
    Calls Try.prog 16 #[.pointer (some ⟨ba, 0, none⟩), .int .i64 q, .int .i64 ((k : Int) % 4)] wr (BBad w wr (addE L q ((k % 4 : Nat) : Int))) := by
  have hc := Add_any ba ma _ wr h.arb h.bq.srt q ((k : Int) % 4)
  have e2 : (k : Int) % 4 = ((k % 4 : Nat) : Int) := by omega
  rw [e2] at hc ⊢
  refine hc.mono ?_
  rintro e w' ⟨rfl, hA, hC⟩
  exact ⟨rfl, h.below.trans (hC.below h.below.size (fun i hi => by omega))⟩
def BNone (w : World) (ba ma : Nat) (wt : Bool) (bu hi me lo : Int) (L : List (Int × Int)) (e : Ending) (w' : World) : Prop := e = .returned (.tuple #[.int .i64 0, .int .i64 0, .int .i64 9]) ∧ B2 w ba ma wt bu hi me lo L w'
theorem B2.pickNone {w : World} {ba ma : Nat} {wt : Bool} {bu hi me lo : Int} {L : List (Int × Int)} {wr : World} (h : B2 w ba ma wt bu hi me lo L wr) {v : Value} {l : List (Int × Int)} (hl : Lds wr v l) (hR : Rng l) (hm : l.length ≤ 30) (ha : acc L [] l = true) (hc : anyB l = false) :
    Calls Try.prog 17 #[.pointer (some ⟨ba, 0, none⟩), v] wr (BNone w ba ma wt bu hi me lo L) := by
  obtain ⟨s, hA, hO, hL, h1, h2⟩ := h.arb
  have hE : s.pkE l = 9 := by unfold St.pkE; rw [hL, if_neg (by simp [ha]), if_pos hc]
  have hp := Pick_bad ba ma s wr hA v l hl hR (by omega) (by rw [hE]; decide)
  rw [hE] at hp
  refine hp.mono ?_
  rintro e w' ⟨rfl, hb⟩
  exact ⟨rfl, ⟨s, hA.below hb, hO, hL, h1, h2⟩, h.below.trans (hb.mono h.below.size), h.cfg.below hb⟩
def BSome (w : World) (ba ma : Nat) (wt : Bool) (bu hi me lo : Int) (l L : List (Int × Int)) (urg : Bool) (e : Ending) (w' : World) : Prop :=
  ∃ q n i0, e = .returned (.tuple #[.int .i64 q, .int .i64 n, .int .i64 0]) ∧ B2 w ba ma wt bu hi me lo L w' ∧ 0 < n ∧ (bu ≠ 0 → n ≤ bu) ∧ ∃ h : i0 < l.length, l[i0].1 = q ∧ n ≤ l[i0].2 ∧ (wt = true → urg = true → i0 % 4 = 0)
theorem B2.pickSome {w : World} {ba ma : Nat} {wt : Bool} {bu hi me lo : Int} {L : List (Int × Int)} {wr : World} (h : B2 w ba ma wt bu hi me lo L wr) {v : Value} {l : List (Int × Int)} (hb : w.heap.size < ba) (hl : Lds wr v l) (hR : Rng l) (hm : l.length ≤ 30) (hq : BQ l l.length L) (hc : anyB l = true) :
    Calls Try.prog 17 #[.pointer (some ⟨ba, 0, none⟩), v] wr (BSome w ba ma wt bu hi me lo l L (urgF l l.length)) := by
  obtain ⟨s, hA, hO, hL, h1, h2⟩ := h.arb
  have ha : acc s.L [] l = true := by rw [hL]; exact hq.acc
  refine (Pick_ok ba ma s wr hA hO v l hl hR (by omega) ha hc).mono ?_
  rintro e w' ⟨rfl, hA2, hC⟩
  obtain ⟨i0, hi0, e1, e2, e3⟩ := bounds_pick hO (by rw [hL]; exact hq) hc
  have hr := pkM_range hO hc
  refine ⟨_, _, i0, rfl, ⟨⟨_, hA2, pkS_ok hO ha hc, by rw [pkS_L]; exact hL, by rw [pkS_wt]; exact h1, by rw [pkS_bu]; exact h2⟩, h.below.trans (hC.below h.below.size (fun i hi => by omega)), h.cfg.chg hC (by show ¬ w.heap.size = ba; omega)⟩, hr.1, ?_, hi0, e1, e2, ?_⟩
  · rw [← h2]; exact hr.2.2.1
  · rw [← h1]; exact e3
set_option maxHeartbeats 8000000 in
theorem bounds_walk (wt : Bool) (bu hi me lo many : Int) (v : Value) (l : List (Int × Int)) (w : World) (hv : Lds w v l) (hR : Rng l) (hlen : l.length ≤ 9223372036854775807) :
    Calls Try.prog 6 #[.agg #[.bool wt, .int .i64 bu, .int .i64 hi, .int .i64 me, .int .i64 lo], v, .int .i64 many] w (OkPost w) := by
  have HLD := Lib.hid hv
  obtain ⟨A, c, rfl, hc, hrow⟩ := hv
  have HROW := Lib.hid hrow
  have HRG := Lib.hid hR
  clear hrow hR
  cases hval : valB wt bu hi me lo
  · have N1 := Lib.hid (fun W => New_bad wt bu hi me lo W hval)
    clear hval
    go_enter Try.func6, Try.ntmps6
    go_wp2_with (first
      | ((go_at_call 10; with_reducible refine (N1.out _).mono ?_); rintro e w1 ⟨rfl, hb⟩; have HB1 := Lib.hid ((below_alloc w (.cells #[.bool wt, .int .i64 bu, .int .i64 hi, .int .i64 me, .int .i64 lo] 23)).trans (hb.mono (by simp))); clear hb)
      | ((go_at_call 12; with_reducible refine (known_any _).mono ?_); rintro e w2 ⟨rfl, hb2⟩))
    go_ret
    exact ⟨rfl, HB1.out.trans (hb2.mono HB1.out.size)⟩
  · have N1 := Lib.hid (fun W => New_ok wt bu hi me lo W hval)
    by_cases h30 : 30 < l.length ∨ many < 0 ∨ 10 < many
    · by_cases g1 : 30 < l.length
      · have g1i : (30 : Int) < (l.length : Int) := by omega
        clear h30
        go_enter Try.func6, Try.ntmps6
        go_wp2_with (first
          | ((go_at_call 10; with_reducible refine (N1.out _).mono ?_); rintro e w1 ⟨ba, ma, rfl, hA, hga, hgm, hb⟩; have HB1 := Lib.hid ((below_alloc w (.cells #[.bool wt, .int .i64 bu, .int .i64 hi, .int .i64 me, .int .i64 lo] 23)).trans (hb.mono (by simp))); clear hb hA hga hgm)
          | ((go_at_call 12; with_reducible refine (known_any _).mono ?_); rintro e w2 ⟨rfl, hb2⟩))
        go_ret
        exact ⟨rfl, HB1.out.trans (hb2.mono HB1.out.size)⟩
      have g1i : ((l.length : Nat) : Int) ≤ 30 := by omega
      by_cases g2 : many < 0
      · clear h30
        go_enter Try.func6, Try.ntmps6
        go_wp2_with (first
          | ((go_at_call 10; with_reducible refine (N1.out _).mono ?_); rintro e w1 ⟨ba, ma, rfl, hA, hga, hgm, hb⟩; have HB1 := Lib.hid ((below_alloc w (.cells #[.bool wt, .int .i64 bu, .int .i64 hi, .int .i64 me, .int .i64 lo] 23)).trans (hb.mono (by simp))); clear hb hA hga hgm)
          | ((go_at_call 12; with_reducible refine (known_any _).mono ?_); rintro e w2 ⟨rfl, hb2⟩))
        go_ret
        exact ⟨rfl, HB1.out.trans (hb2.mono HB1.out.size)⟩
      have g3 : 10 < many := by omega
      clear h30
      go_enter Try.func6, Try.ntmps6
      go_wp2_with (first
        | ((go_at_call 10; with_reducible refine (N1.out _).mono ?_); rintro e w1 ⟨ba, ma, rfl, hA, hga, hgm, hb⟩; have HB1 := Lib.hid ((below_alloc w (.cells #[.bool wt, .int .i64 bu, .int .i64 hi, .int .i64 me, .int .i64 lo] 23)).trans (hb.mono (by simp))); clear hb hA hga hgm)
        | ((go_at_call 12; with_reducible refine (known_any _).mono ?_); rintro e w2 ⟨rfl, hb2⟩))
      go_ret
      exact ⟨rfl, HB1.out.trans (hb2.mono HB1.out.size)⟩
    have hn30 : l.length ≤ 30 := by omega
    have h30i : ((l.length : Nat) : Int) ≤ 30 := by omega
    have hm0 : 0 ≤ many := by omega
    have hm10 : many ≤ 10 := by omega
    have hd1 : decide ((30 : Int) < ((l.length : Nat) : Int)) = false := by simp; omega
    have hd2 : decide (many < 0) = false := by simp; omega
    have hd3 : decide (10 < many) = false := by simp; omega
    have HVAL := Lib.hid hval
    clear hval h30 hlen
    go_enter Try.func6, Try.ntmps6
    go_wp2_with ((go_at_call 10; with_reducible refine (N1.out _).mono ?_); rintro e w1 ⟨ba, ma, rfl, hA, hga, hgm, hb⟩; have HB1 := Lib.hid ((below_alloc w (.cells #[.bool wt, .int .i64 bu, .int .i64 hi, .int .i64 me, .int .i64 lo] 23)).trans (hb.mono (by simp))); have HCF := Lib.hid ((CfgAt.new w wt bu hi me lo).below hb); have HA1 := Lib.hid hA; have hgb : w.heap.size < ba := (by rw [World.size_alloc] at hga; omega); have hgm2 : w.heap.size < ma := (by rw [World.size_alloc] at hgm; omega); clear hb hA hga hgm)
    go_loopw [9, 10, 11] (fun ab ub i wr => ∃ (k : Nat) (L : List (Int × Int)), k ≤ l.length ∧ i = .int .i64 k ∧ ab = .bool (anyB (l.take k)) ∧ ub = .bool (urgF l k) ∧ Hid (B1 w ba ma wt bu hi me lo l k L wr)) (fun _ _ i _ => l.length - (RowKit.intOf i).toNat)
    case atStart => exact ⟨0, [], Nat.zero_le _, rfl, rfl, rfl, ⟨HA1.out, BQ.start l, HB1.out, HCF.out⟩⟩
    case round =>
      obtain ⟨k, L, hk, rfl, rfl, rfl, HT⟩ := hrel
      by_cases hlt : k < l.length
      · obtain ⟨g, o, rfl, hg, hcell⟩ := HROW.out (by omega)
        have c1 : wr.cell? ⟨g, o + k * 2, none⟩ = some (.int .i64 l[k].1) := (HT.out.below.cell (by exact hg)).trans (hcell k hlt).1
        have c2 : wr.cell? ⟨g, o + k * 2 + 1, none⟩ = some (.int .i64 l[k].2) := (HT.out.below.cell (by exact hg)).trans (hcell k hlt).2
        have HAN := Lib.hid (any_take_succ l k hlt)
        have HUR : Hid (urgF l (k + 1) = (urgF l k || (k % 4 == 0 && decide (0 < l[k].2)))) := by show urgF l (k + 1) = _; rw [urgF]; simp [hlt]
        have HADD := Lib.hid (fun hn he => HT.out.add hgm2 hlt hn he)
        have HBAD := Lib.hid (HT.out.addBad hgm2 l[k].1)
        have hki : ((k : Nat) : Int) < 30 := by omega
        generalize anyB (l.take k) = ab at *
        generalize urgF l k = ub at *
        generalize l[k].1 = q at *
        generalize l[k].2 = x at *
        clear hcell
        by_cases hneg : x < 0
        · go_wp2_with ((go_at_call 12; with_reducible refine (known_any _).mono ?_); rintro e w2 ⟨rfl, hb2⟩)
          go_ret
          exact ⟨rfl, HT.out.below.trans (hb2.mono HT.out.below.size)⟩
        by_cases hE : addE L q ((k % 4 : Nat) : Int) = 0
        · have HAD := Lib.hid (HADD.out (by omega) hE)
          clear HADD HBAD hE
          by_cases hp : 0 < x
          · by_cases hm : ((k : Nat) : Int) % 4 = 0
            · have hmb : (((k : Nat) : Int) % 4 == 0) = true := by simpa using hm
              have hkm : (k % 4 == 0) = true := by simp; omega
              have HKM := Lib.hid hkm
              clear hm hkm
              cases ab <;> cases ub
              all_goals
                go_wp2_with ((go_at_call 16; with_reducible refine HAD.out.mono ?_); rintro e w2 ⟨rfl, hT2⟩; have HT2 := Lib.hid hT2; have d1 : w2.cell? ⟨g, o + k * 2 + 1, none⟩ = some (.int .i64 x) := (hT2.below.cell (by exact hg)).trans (by have := HT.out.below.cell (p := ⟨g, o + k * 2 + 1, none⟩) hg; rw [c2] at this; exact this.symm); clear hT2)
                go_roundw
                case rel => exact ⟨k + 1, _, by omega, by go_num, congrArg Value.bool (by rw [HAN.out]; simp [hp]), congrArg Value.bool (by rw [HUR.out, HKM.out]; simp [hp]), HT2.out⟩
                case measure => simp [RowKit.intOf]; omega
            · have hmb : (((k : Nat) : Int) % 4 == 0) = false := by simpa using hm
              have hkm : (k % 4 == 0) = false := by simp; omega
              have HKM := Lib.hid hkm
              clear hm hkm
              cases ab <;> cases ub
              all_goals
                go_wp2_with ((go_at_call 16; with_reducible refine HAD.out.mono ?_); rintro e w2 ⟨rfl, hT2⟩; have HT2 := Lib.hid hT2; have d1 : w2.cell? ⟨g, o + k * 2 + 1, none⟩ = some (.int .i64 x) := (hT2.below.cell (by exact hg)).trans (by have := HT.out.below.cell (p := ⟨g, o + k * 2 + 1, none⟩) hg; rw [c2] at this; exact this.symm); clear hT2)
                go_roundw
                case rel => exact ⟨k + 1, _, by omega, by go_num, congrArg Value.bool (by rw [HAN.out]; simp [hp]), congrArg Value.bool (by rw [HUR.out, HKM.out]; simp), HT2.out⟩
                case measure => simp [RowKit.intOf]; omega
          · have HPD : Hid (decide (0 < x) = false) := by have : ¬ 0 < x := hp; exact decide_eq_false this
            by_cases hm : ((k : Nat) : Int) % 4 = 0
            · have hmb : (((k : Nat) : Int) % 4 == 0) = true := by simpa using hm
              clear hm
              cases ab <;> cases ub
              all_goals
                go_wp2_with ((go_at_call 16; with_reducible refine HAD.out.mono ?_); rintro e w2 ⟨rfl, hT2⟩; have HT2 := Lib.hid hT2; have d1 : w2.cell? ⟨g, o + k * 2 + 1, none⟩ = some (.int .i64 x) := (hT2.below.cell (by exact hg)).trans (by have := HT.out.below.cell (p := ⟨g, o + k * 2 + 1, none⟩) hg; rw [c2] at this; exact this.symm); clear hT2)
                go_roundw
                case rel => exact ⟨k + 1, _, by omega, by go_num, congrArg Value.bool (by rw [HAN.out, HPD.out]; simp), congrArg Value.bool (by rw [HUR.out, HPD.out]; simp), HT2.out⟩
                case measure => simp [RowKit.intOf]; omega
            · have hmb : (((k : Nat) : Int) % 4 == 0) = false := by simpa using hm
              clear hm
              cases ab <;> cases ub
              all_goals
                go_wp2_with ((go_at_call 16; with_reducible refine HAD.out.mono ?_); rintro e w2 ⟨rfl, hT2⟩; have HT2 := Lib.hid hT2; have d1 : w2.cell? ⟨g, o + k * 2 + 1, none⟩ = some (.int .i64 x) := (hT2.below.cell (by exact hg)).trans (by have := HT.out.below.cell (p := ⟨g, o + k * 2 + 1, none⟩) hg; rw [c2] at this; exact this.symm); clear hT2)
                go_roundw
                case rel => exact ⟨k + 1, _, by omega, by go_num, congrArg Value.bool (by rw [HAN.out, HPD.out]; simp), congrArg Value.bool (by rw [HUR.out, HPD.out]; simp), HT2.out⟩
                case measure => simp [RowKit.intOf]; omega
        · clear HADD
          generalize addE L q ((k % 4 : Nat) : Int) = E at *
          have hEb : (E != 0) = true := by simpa using hE
          have hEb2 : (E == 0) = false := by simpa using hE
          go_wp2_with (first
            | ((go_at_call 16; with_reducible refine HBAD.out.mono ?_); rintro e w2 ⟨rfl, hb⟩; have HB2 := Lib.hid hb; clear hb)
            | ((go_at_call 12; with_reducible refine (known_any _).mono ?_); rintro e w3 ⟨rfl, hb2⟩))
          go_ret
          exact ⟨rfl, HB2.out.trans (hb2.mono HB2.out.size)⟩
      · have hkl : k = l.length := by omega
        subst hkl
        rw [List.take_length]
        have HBQ := Lib.hid HT.out.bq
        have HT2 : Hid (B2 w ba ma wt bu hi me lo L wr) := ⟨⟨_, HT.out.arb, with_ok (new_ok HVAL.out) HT.out.bq.srt, rfl, rfl, rfl⟩, HT.out.below, HT.out.cfg⟩
        obtain ⟨wf, hwf⟩ : ∃ wf : World, wf = wr := ⟨_, rfl⟩
        subst hwf
        clear HT
        cases hab : anyB l
        · go_wp2
          go_loopw [12] (fun i wr => ∃ (t : Nat), (t : Int) ≤ many ∧ i = .int .i64 t ∧ Hid (B2 w ba ma wt bu hi me lo L wr)) (fun i _ => many.toNat - (RowKit.intOf i).toNat)
          case atStart => exact ⟨0, by omega, rfl, HT2.out⟩
          case round =>
            obtain ⟨t, ht, rfl, HT⟩ := hrel
            by_cases htt : (t : Int) < many
            · have HPK := Lib.hid (HT.out.pickNone (HLD.out.keep HT.out.below.size (fun p hp _ => HT.out.below.cell hp)) HRG.out hn30 HBQ.out.acc hab)
              go_wp2_with ((go_at_call 17; with_reducible refine HPK.out.mono ?_); rintro e w2 ⟨rfl, hT3⟩; have HT3 := Lib.hid hT3; clear hT3)
              go_roundw
              case rel => exact ⟨t + 1, by omega, by go_num, HT3.out⟩
              case measure => simp [RowKit.intOf]; omega
            · go_wp2_with ((go_at_call 12; with_reducible refine (known_any _).mono ?_); rintro e w2 ⟨rfl, hb2⟩)
              go_ret
              exact ⟨rfl, HT.out.below.trans (hb2.mono HT.out.below.size)⟩
        · generalize hub : urgF l l.length = ub at *
          have HUB := Lib.hid hub
          clear hub
          go_wp2
          go_loopw [12] (fun i wr => ∃ (t : Nat), (t : Int) ≤ many ∧ i = .int .i64 t ∧ Hid (B2 w ba ma wt bu hi me lo L wr)) (fun i _ => many.toNat - (RowKit.intOf i).toNat)
          case atStart => exact ⟨0, by omega, rfl, HT2.out⟩
          case round =>
            obtain ⟨t, ht, rfl, HT⟩ := hrel
            by_cases htt : (t : Int) < many
            · have hpk := HT.out.pickSome hgb (HLD.out.keep HT.out.below.size (fun p hp _ => HT.out.below.cell hp)) HRG.out hn30 HBQ.out hab
              rw [HUB.out] at hpk
              have HPK := Lib.hid hpk
              clear hpk
              obtain ⟨wo, hwo⟩ : ∃ wo : World, wo = wr := ⟨_, rfl⟩
              subst hwo
              go_wp2_with ((go_at_call 17; with_reducible refine HPK.out.mono ?_); rintro e w2 ⟨q, n, i0, rfl, hT3, hn0, hnb, hi0, e1, e2, e3⟩; have HT3 := Lib.hid hT3; have HNB := Lib.hid hnb; have HE1 := Lib.hid e1; have HE2 := Lib.hid e2; have HE3 := Lib.hid e3; clear hT3 hnb e1 e2 e3)
              obtain ⟨kw, kb, _, _, _⟩ := HT3.out.cfg.cells
              have HB2' := Lib.hid HT3.out.below
              go_loop [16, 17] (fun fv i => ∃ (k : Nat) (fb : Bool), k ≤ l.length ∧ i = .int .i64 k ∧ fv = .bool fb ∧ Hid (i0 < k → fb = true)) (fun _ i => l.length - (RowKit.intOf i).toNat)
              case atStart => exact ⟨0, false, Nat.zero_le _, rfl, rfl, fun h => absurd h (by omega)⟩
              case round =>
                obtain ⟨k, fb, hk, rfl, rfl, HFB⟩ := hrel
                by_cases hlt : k < l.length
                · obtain ⟨g, o, rfl, hg, hcell⟩ := HROW.out (by omega)
                  have c1 : w2.cell? ⟨g, o + k * 2, none⟩ = some (.int .i64 l[k].1) := (HB2'.out.cell (by exact hg)).trans (hcell k hlt).1
                  have c2 : w2.cell? ⟨g, o + k * 2 + 1, none⟩ = some (.int .i64 l[k].2) := (HB2'.out.cell (by exact hg)).trans (hcell k hlt).2
                  have hki : ((k : Nat) : Int) < 30 := by omega
                  by_cases hq : l[k].1 = q
                  · have hke : k = i0 := by
                      rcases Nat.lt_trichotomy k i0 with h | h | h
                      · exact absurd (hq.trans HE1.out.symm) (HBQ.out.dis k i0 hlt hi0 h hi0)
                      · exact h
                      · exact absurd (HE1.out.trans hq.symm) (HBQ.out.dis i0 k hi0 hlt h hlt)
                    have hle : n ≤ l[k].2 := by subst hke; exact HE2.out
                    have HM4 : Hid (wt = true → ub = true → k % 4 = 0) := by subst hke; exact HE3.out
                    rw [hq] at c1
                    generalize l[k].2 = x at *
                    clear hcell hq hke
                    cases wt
                    · go_wp2
                      go_round
                      case rel => exact ⟨k + 1, true, by omega, by go_num, rfl, fun _ => rfl⟩
                      case measure => simp [RowKit.intOf]; omega
                    · cases ub
                      · go_wp2
                        go_round
                        case rel => exact ⟨k + 1, true, by omega, by go_num, rfl, fun _ => rfl⟩
                        case measure => simp [RowKit.intOf]; omega
                      · have hm4 := HM4.out rfl rfl
                        have hmb : (((k : Nat) : Int) % 4 == 0) = true := by simp; omega
                        clear hm4
                        go_wp2
                        go_round
                        case rel => exact ⟨k + 1, true, by omega, by go_num, rfl, fun _ => rfl⟩
                        case measure => simp [RowKit.intOf]; omega
                  · have hqb : (l[k].1 == q) = false := by simpa using hq
                    have HNE : Hid (i0 < k + 1 → fb = true) := fun h => HFB.out (by
                      rcases Nat.lt_or_ge i0 k with h1 | h1
                      · exact h1
                      · have : i0 = k := by omega
                        subst this
                        exact absurd HE1.out hq)
                    generalize l[k].1 = x1 at *
                    generalize l[k].2 = x at *
                    clear hcell hq
                    go_wp2
                    go_round
                    case rel => exact ⟨k + 1, fb, by omega, by go_num, rfl, HNE.out⟩
                    case measure => simp [RowKit.intOf]; omega
                · have hfb : fb = true := HFB.out (by omega)
                  subst hfb
                  by_cases hbp : 0 < bu
                  · have hnb := HNB.out (by omega)
                    go_wp2
                    go_roundw
                    case rel => exact ⟨t + 1, by omega, by go_num, HT3.out⟩
                    case measure => simp [RowKit.intOf]; omega
                  · go_wp2
                    go_roundw
                    case rel => exact ⟨t + 1, by omega, by go_num, HT3.out⟩
                    case measure => simp [RowKit.intOf]; omega
            · go_wp2_with ((go_at_call 12; with_reducible refine (known_any _).mono ?_); rintro e w2 ⟨rfl, hb2⟩)
              go_ret
              exact ⟨rfl, HT.out.below.trans (hb2.mono HT.out.below.size)⟩
end Go.Proofs.Ytildofclgofjdaa
