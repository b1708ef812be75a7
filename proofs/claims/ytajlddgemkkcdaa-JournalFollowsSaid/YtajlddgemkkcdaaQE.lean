/- The contract of slices.CompactFunc at places, equal where their indices are. Conditions stand in each theorem. -/
import Derived.Test.YtajlddgemkkcdaaQD
import Derived.Deep.LoopGhost
import Derived.Lib.SliceRun
import Derived.Lib.SlicesCompact
namespace Go.Proofs.Ytajlddgemkkcdaa
open Go.RowKit
set_option linter.unusedVariables false
set_option maxHeartbeats 8000000
set_option maxRecDepth 100000
/-- Place j is kept: it is the first one, or its index is not that of the one before. -/
def kp (f : Nat → Int) (ms : List Nat) (j : Nat) : Bool := decide (j = 0) || !(f (ms.getD j 0) == f (ms.getD (j - 1) 0))
/-- What is kept of the first places. -/
def cu (f : Nat → Int) (ms : List Nat) : Nat → List Nat
  | 0 => []
  | j + 1 => cu f ms j ++ (if kp f ms j = true then [ms.getD j 0] else [])
theorem cu_yes {f : Nat → Int} {ms : List Nat} {j : Nat} (h : kp f ms j = true) : cu f ms (j + 1) = cu f ms j ++ [ms.getD j 0] := by unfold cu; rw [if_pos h]; cases j <;> rfl
theorem cu_no {f : Nat → Int} {ms : List Nat} {j : Nat} (h : kp f ms j = false) : cu f ms (j + 1) = cu f ms j := by
  show cu f ms j ++ (if kp f ms j = true then [ms.getD j 0] else []) = cu f ms j
  rw [if_neg (by rw [h]; decide), List.append_nil]
theorem cu_le (f : Nat → Int) (ms : List Nat) : ∀ j, (cu f ms j).length ≤ j
  | 0 => Nat.le_refl _
  | j + 1 => by
    have := cu_le f ms j
    cases h : kp f ms j
    · rw [cu_no h]; omega
    · rw [cu_yes h, List.length_append]; simp; omega
theorem cu_all {f : Nat → Int} {ms : List Nat} : ∀ k, k ≤ ms.length → (∀ j, j < k → kp f ms j = true) → cu f ms k = ms.take k
  | 0, _, _ => by simp [cu]
  | k + 1, hk, h => by
    rw [cu_yes (h k (by omega)), cu_all k (by omega) (fun j hj => h j (by omega)), List.take_succ_eq_append_getElem (by omega)]
    simp [List.getD_eq_getElem?_getD, List.getElem?_eq_getElem (show k < ms.length by omega)]
theorem IC.set {W : World} {g : Nat} {xs : List Nat} (h : IC W g xs) {i x : Nat} (hi : i < xs.length) : IC (W.setCell ⟨g, i, none⟩ (.int .i64 (x : Int))) g (xs.set i x) := by
  obtain ⟨⟨cur, hc⟩, h⟩ := h
  refine ⟨⟨_, heap_setCell_same W g i cur 3 _ hc⟩, fun j hj => ?_⟩
  rw [List.length_set] at hj
  refine ⟨?_, by rw [World.frozen?_setCell]; exact (h j hj).2⟩
  by_cases e : i = j
  · subst e
    rw [World.cell?_setCell_same _ _ _ (h i hi).1]
    simp
  · rw [World.cell?_setCell_other _ ⟨g, i, none⟩ ⟨g, j, none⟩ _ (fun e' => by injection e' with _ e' _; exact e e'), List.getElem_set_ne e]
    exact (h j hj).1
theorem row_setCells (w : World) (g : Nat) : ∀ (vs : List Value) (o : Nat) (cur : Array Value), w.heap[g]? = some (.cells cur 3 (0, 0)) → ∃ cur', (w.setCells g o vs).heap[g]? = some (.cells cur' 3 (0, 0)) := by
  intro vs
  induction vs generalizing w with
  | nil => intro o cur h; exact ⟨cur, h⟩
  | cons v r ih => intro o cur h; exact ih _ _ _ (heap_setCell_same w g o cur 3 v h)
/-- The second loop's relation: k places are behind, kk are kept. -/
structure CI (f : Nat → Int) (ms : List Nat) (k kk : Nat) (dk : List Nat) : Prop where
  len : dk.length = ms.length
  lt : kk < k
  kl : (cu f ms k).length = kk
  low : dk.take kk = cu f ms k
  high : ∀ j, k - 1 ≤ j → dk[j]? = ms[j]?
theorem CI.start {f : Nat → Int} {ms : List Nat} {k : Nat} (hk : k < ms.length) (h1 : 1 ≤ k) (hall : ∀ j, j < k → kp f ms j = true) (hno : kp f ms k = false) : CI f ms (k + 1) k ms := by
  have e := cu_all k (by omega) hall
  exact ⟨rfl, Nat.lt_succ_self _, by rw [cu_no hno, e, List.length_take]; omega, by rw [cu_no hno, e], fun j _ => rfl⟩
theorem CI.skip {f : Nat → Int} {ms : List Nat} {k kk : Nat} {dk : List Nat} (h : CI f ms k kk dk) (hno : kp f ms k = false) : CI f ms (k + 1) kk dk :=
  ⟨h.len, by have := h.lt; omega, by rw [cu_no hno]; exact h.kl, by rw [cu_no hno]; exact h.low, fun j hj => h.high j (by omega)⟩
theorem CI.keep {f : Nat → Int} {ms : List Nat} {k kk : Nat} {dk : List Nat} (h : CI f ms k kk dk) (hk : k < ms.length) (hy : kp f ms k = true) : CI f ms (k + 1) (kk + 1) (dk.set kk (ms.getD k 0)) := by
  have hlt := h.lt
  have hlen := h.len
  refine ⟨by rw [List.length_set]; exact hlen, by omega, by rw [cu_yes hy, List.length_append, h.kl]; rfl, ?_, fun j hj => ?_⟩
  · rw [cu_yes hy, ← h.low, List.take_succ_eq_append_getElem (by rw [List.length_set]; omega)]
    congr 1
    · rw [List.take_set_of_le (by omega)]
    · simp
  · rw [List.getElem?_set_ne (by omega)]
    exact h.high j (by omega)
theorem getD_at {ms : List Nat} {j : Nat} (h : j < ms.length) : ms.getD j 0 = ms[j] := by simp [List.getD_eq_getElem?_getD, h]
theorem CI.at {f : Nat → Int} {ms : List Nat} {k kk : Nat} {dk : List Nat} (h : CI f ms k kk dk) {j : Nat} (hj : k - 1 ≤ j) (hl : j < ms.length) : ∃ h' : j < dk.length, dk[j] = ms.getD j 0 := by
  have hlen := h.len
  refine ⟨by omega, ?_⟩
  have := h.high j hj
  rw [List.getElem?_eq_getElem (by omega), List.getElem?_eq_getElem hl] at this
  rw [getD_at hl]
  exact Option.some.inj this
/-- What CompactFunc leaves. -/
def CoPost (w : World) (g cap : Nat) (o : List Nat) (e : Ending) (w' : World) : Prop := e = .returned (.slice (some ⟨g, 0, none⟩) o.length cap) ∧ IC w' g o ∧ Chg (· = g) w w'
theorem compact_any {w : World} {b c g cap n : Nat} {A : Option Addr} {l : List Pg} {ms : List Nat} (hby : ∀ W, Chg (· = g) w W → By W b A c l) (hm : IC w g ms) (hn : n = ms.length) (hmr : ∀ p ∈ ms, p < l.length) (hcap : n ≤ cap) (hn0 : 0 < n) (hl : n ≤ 100000) :
    Calls Try.prog 69 #[.slice (some ⟨g, 0, none⟩) n cap, .func (.func 70) #[] #[.pointer (some ⟨b + 1, 0, none⟩)]] w (CoPost w g cap (cu (ixF l) ms n)) := by
  have HBY := Lib.hid hby
  have HM := Lib.hid hm
  have HMR := Lib.hid hmr
  have HN := Lib.hid hn
  clear hby hm hmr hn
  by_cases h2 : n < 2
  · have h2z : (n : Int) < 2 := by omega
    go_enter Try.func69, Try.ntmps69
    go_wp2
    go_ret
    obtain rfl : n = 1 := by omega
    have e : cu (ixF l) ms 1 = ms := by
      have hn := HN.out
      rw [cu_all 1 (by omega) (fun j hj => by obtain rfl : j = 0 := (by omega); rfl), List.take_of_length_le (by omega)]
    refine ⟨?_, by rw [e]; exact HM.out, Chg.refl _ _⟩
    rw [e, ← HN.out]
    rfl
  · have h2z : ¬ (n : Int) < 2 := by omega
    have h3z : (2 : Int) ≤ (n : Int) := by omega
    go_enter Try.func69, Try.ntmps69
    go_wp2
    go_loopw [5] (fun i wr => ∃ (k : Nat), 1 ≤ k ∧ k ≤ n ∧ i = .int .i64 (k : Int) ∧ Hid (∀ j, j < k → kp (ixF l) ms j = true) ∧ Hid (IC wr g ms) ∧ Hid (Chg (· = g) w wr)) (fun i _ => n - (RowKit.intOf i).toNat)
    case atStart => exact ⟨1, Nat.le_refl _, by omega, rfl, Lib.hid (fun j hj => by obtain rfl : j = 0 := (by omega); rfl), HM, Lib.hid (Chg.refl _ _)⟩
    case round =>
      obtain ⟨k, hk1, hk, rfl, HA, HI, HC⟩ := hrel
      by_cases hlt : k < n
      · have hnl := HN.out
        have x1 := (HI.out.2 k (by omega)).1
        obtain ⟨k1, hk1e⟩ : ∃ k1 : Nat, k1 = k - 1 := ⟨_, rfl⟩
        have hk1l : k1 < ms.length := by omega
        have x2 := (HI.out.2 k1 hk1l).1
        have HP1 := Lib.hid (HMR.out _ (List.getElem_mem (show k < ms.length by omega)))
        have HP2 := Lib.hid (HMR.out _ (List.getElem_mem hk1l))
        have HKP : Hid (kp (ixF l) ms k = !(ixF l (ms[k]'(by omega)) == ixF l ms[k1])) := Lib.hid (by
          unfold kp
          rw [decide_eq_false (show ¬ k = 0 by omega), Bool.false_or, getD_at (show k < ms.length by omega), ← hk1e, getD_at hk1l])
        have e1 : (k : Int) - 1 = (k1 : Int) := by omega
        have hp := HP1.out
        have hq := HP2.out
        generalize ms[k]'(by omega) = p at *
        generalize ms[k1] = q at *
        have HEQ := Lib.hid (fun r : Gw wr => byeq_any (HBY.out r.W (HC.out.trans (Chg.of_below r.h.below : Chg (· = g) _ _) (fun i hi _ => hi))) p q hp hq)
        have y1 := fun r : Gw wr => r.h.cell x1
        have y2 := fun r : Gw wr => r.h.cell x2
        have hne := gw_ne wr
        have i0 : (0 : Int) ≤ (k : Int) := by omega
        have i1 : (k : Int) < (n : Int) := by omega
        have j0 : (0 : Int) ≤ (k1 : Int) := by omega
        have j1 : (k1 : Int) < (n : Int) := by omega
        have HPK := Lib.hid hk1e
        clear x1 x2 HP1 HP2 hnl hk1e hp hq hk1l
        cases hv : (ixF l p == ixF l q) with
        | false =>
          rw [hv] at HEQ HKP
          clear hv
          go_upto_region 6 with fail
          refine wp_region_gw (by kernel_rfl) (by kernel_rfl) ?_
          repeat (go_big_quiet_step ((go_at_call 70; exact gw_of _ (HEQ.out _))))
          refine wpQuiet_nil ?_
          rintro w6 ⟨⟨_, hg6⟩, rfl⟩
          have HI6 := Lib.hid (HI.out.below hg6.below)
          have HC6 := Lib.hid (HC.out.trans (Chg.of_below hg6.below : Chg (· = g) _ _) (fun i hi _ => hi))
          clear y1 y2 hne hg6
          go_wp2
          go_roundw
          case rel =>
            refine ⟨k + 1, by omega, by omega, by go_num, Lib.hid (fun j hj => ?_), HI6, HC6⟩
            by_cases e : j = k
            · rw [e, HKP.out]; rfl
            · exact HA.out j (by omega)
          case measure => simp [RowKit.intOf]; omega
        | true =>
          rw [hv] at HEQ HKP
          clear hv
          have hcapz : (n : Int) ≤ (cap : Int) := by omega
          go_upto_region 6 with fail
          refine wp_region_gw (by kernel_rfl) (by kernel_rfl) ?_
          repeat (go_big_quiet_step ((go_at_call 70; exact gw_of _ (HEQ.out _))))
          refine wpQuiet_nil ?_
          rintro w6 ⟨⟨_, hg6⟩, rfl⟩
          have HI6 := Lib.hid (HI.out.below hg6.below)
          have HC6 := Lib.hid (HC.out.trans (Chg.of_below hg6.below : Chg (· = g) _ _) (fun i hi _ => hi))
          clear y1 y2 hne hg6
          go_wp2
          obtain ⟨m, hm⟩ : ∃ m, m = n - k := ⟨_, rfl⟩
          obtain ⟨cm, hcm⟩ : ∃ cm, cm = cap - k := ⟨_, rfl⟩
          rw [← hm, ← hcm]
          have hmk : k + m = n := by omega
          have hcmm : m ≤ cm := by omega
          have HCI0 := Lib.hid (CI.start (f := ixF l) (show k < ms.length by have := HN.out; omega) hk1 HA.out (by rw [HKP.out]; rfl))
          clear hm hcm HKP HPK HA HI HC HEQ
          go_loopw [5, 7] (fun s5 s7 wr2 => ∃ (kk k2 : Nat) (dk : List Nat), s5 = .int .i64 (kk : Int) ∧ s7 = .int .i64 (k2 : Int) ∧ 1 ≤ k2 ∧ k2 ≤ m ∧ Hid (CI (ixF l) ms (k + k2) kk dk) ∧ Hid (IC wr2 g dk) ∧ Hid (Chg (· = g) w wr2)) (fun _ s7 _ => m - (RowKit.intOf s7).toNat)
          case atStart => exact ⟨k, 1, ms, rfl, rfl, Nat.le_refl _, by omega, HCI0, HI6, HC6⟩
          case round =>
            obtain ⟨kk, k2, dk, rfl, rfl, h1, hle, HI2, HX, HC2⟩ := hrel
            clear HI6 HC6 HCI0
            have hdl := HI2.out.len
            have hkl := HI2.out.lt
            have hnl := HN.out
            by_cases hlt2 : k2 < m
            · obtain ⟨a1, b1⟩ := HI2.out.at (j := k + k2) (by omega) (by omega)
              obtain ⟨k3, hk3⟩ : ∃ k3 : Nat, k3 = k2 - 1 := ⟨_, rfl⟩
              obtain ⟨a2, b2⟩ := HI2.out.at (j := k + k3) (by omega) (by omega)
              have x1 := (HX.out.2 (k + k2) a1).1
              rw [b1] at x1
              have x2 := (HX.out.2 (k + k3) a2).1
              rw [b2] at x2
              obtain ⟨x3, x4⟩ := HX.out.2 kk (by omega)
              have e3 : (k2 : Int) - 1 = (k3 : Int) := by omega
              have hp : ms.getD (k + k2) 0 < l.length := by rw [getD_at (show k + k2 < ms.length by omega)]; exact HMR.out _ (List.getElem_mem _)
              have hq : ms.getD (k + k3) 0 < l.length := by rw [getD_at (show k + k3 < ms.length by omega)]; exact HMR.out _ (List.getElem_mem _)
              have HKP : Hid (kp (ixF l) ms (k + k2) = !(ixF l (ms.getD (k + k2) 0) == ixF l (ms.getD (k + k3) 0))) := Lib.hid (by
                unfold kp
                rw [decide_eq_false (show ¬ k + k2 = 0 by omega), Bool.false_or, show k + k2 - 1 = k + k3 by omega])
              have HKE := Lib.hid (fun h => HI2.out.keep (show k + k2 < ms.length by omega) h)
              have HKS := Lib.hid (fun h => HI2.out.skip h)
              have HXS := Lib.hid (fun (W : World) (h : IC W g dk) => h.set (i := kk) (x := ms.getD (k + k2) 0) (by omega))
              generalize ms.getD (k + k2) 0 = p2 at *
              generalize ms.getD (k + k3) 0 = q2 at *
              generalize dk[kk]'(by omega) = z at *
              have HEQ := Lib.hid (fun r : Gw wr => byeq_any (HBY.out r.W (HC2.out.trans (Chg.of_below r.h.below : Chg (· = g) _ _) (fun i hi _ => hi))) p2 q2 hp hq)
              have y1 := fun r : Gw wr => r.h.cell x1
              have y2 := fun r : Gw wr => r.h.cell x2
              have hne := gw_ne wr
              have i2 : (0 : Int) ≤ (k2 : Int) := by omega
              have i3 : (k2 : Int) < (m : Int) := by omega
              have i4 : (0 : Int) ≤ (k3 : Int) := by omega
              have i5 : (k3 : Int) < (m : Int) := by omega
              have i6 : (0 : Int) ≤ (kk : Int) := by omega
              have i7 : (kk : Int) < (n : Int) := by omega
              clear b1 b2 a1 a2 hp hq hk3 hdl hkl hnl
              cases hv : (ixF l p2 == ixF l q2) with
              | true =>
                rw [hv] at HEQ HKP
                clear hv HKE HXS
                go_upto_region 11 with fail
                refine wp_region_gw (by kernel_rfl) (by kernel_rfl) ?_
                repeat (go_big_quiet_step ((go_at_call 70; exact gw_of _ (HEQ.out _))))
                refine wpQuiet_nil ?_
                rintro w7 ⟨⟨_, hg7⟩, rfl⟩
                have HX7 := Lib.hid (HX.out.below hg7.below)
                have HC7 := Lib.hid (HC2.out.trans (Chg.of_below hg7.below : Chg (· = g) _ _) (fun i hi _ => hi))
                clear y1 y2 hne hg7
                go_wp2
                go_roundw
                case rel => exact ⟨kk, k2 + 1, dk, rfl, by go_num, by omega, by omega, Lib.hid (HKS.out (by rw [HKP.out]; rfl)), HX7, HC7⟩
                case measure => simp [RowKit.intOf]; omega
              | false =>
                rw [hv] at HEQ HKP
                clear hv HKS
                go_upto_region 11 with fail
                refine wp_region_gw (by kernel_rfl) (by kernel_rfl) ?_
                repeat (go_big_quiet_step ((go_at_call 70; exact gw_of _ (HEQ.out _))))
                refine wpQuiet_nil ?_
                rintro w7 ⟨⟨_, hg7⟩, rfl⟩
                have z1 := hg7.cell x1
                have z3 := hg7.cell x3
                have z4 := (hg7.below.frozen (p := ⟨g, kk, none⟩) (World.block_lt_of_cell? wr _ x3)).trans x4
                have HX7 := Lib.hid (HXS.out _ (HX.out.below hg7.below))
                have HC7 := Lib.hid ((HC2.out.trans (Chg.of_below hg7.below : Chg (· = g) _ _) (fun i hi _ => hi)).setCell (p := ⟨g, kk, none⟩) rfl (.int .i64 (p2 : Int)))
                clear y1 y2 hne hg7 x1 x2 x3 x4
                go_wp2
                go_roundw
                case rel => exact ⟨kk + 1, k2 + 1, dk.set kk p2, by go_num, by go_num, by omega, by omega, Lib.hid (HKE.out (by rw [HKP.out]; rfl)), HX7, HC7⟩
                case measure => simp [RowKit.intOf]; omega
            · obtain rfl : k2 = m := by omega
              have hki : ¬ (k2 : Int) < (k2 : Int) := by omega
              have hcl : ∀ ty, (Builtin.clear_ #[50] ty #[.slice (some ⟨g, kk, none⟩) (n - kk) (cap - kk)]).run Try.prog wr = .ok (.tuple #[]) (wr.setCells g kk (List.replicate (n - kk) (.int .i64 0))) :=
                fun ty => Go.Lib.run_clear_slice wr 50 3 ty (.int .i64 0) Try.underlying50 Try.zeroValue3 rfl rfl g kk (n - kk) (cap - kk) (by omega) (fun j hj => by rw [(HX.out.2 (kk + j) (by omega)).1]; rfl) (fun j hj => (HX.out.2 (kk + j) (by omega)).2)
              have i6 : (0 : Int) ≤ (kk : Int) := by omega
              have i7 : (kk : Int) < (n : Int) := by omega
              have hkn : kk ≤ n := by omega
              have HFI : Hid (IC (wr.setCells g kk (List.replicate (n - kk) (.int .i64 0))) g (cu (ixF l) ms n)) := Lib.hid ⟨HX.out.1.elim fun cur hc => row_setCells wr g _ kk cur hc, fun j hj => by
                have hlow := HI2.out.low
                have hkk := HI2.out.kl
                rw [hmk] at hlow hkk
                have hjk : j < kk := by omega
                have hx := HX.out.2 j (by omega)
                have e : (cu (ixF l) ms n)[j] = dk[j]'(by omega) := by simp only [← hlow, List.getElem_take]
                rw [e]
                refine ⟨?_, by rw [World.frozen?_setCells]; exact hx.2⟩
                rw [World.cell?_setCells_out g _ _ _ _ (fun _ _ => .inl hjk)]
                exact hx.1⟩
              have HLN : Hid ((cu (ixF l) ms n).length = kk) := Lib.hid (by have := HI2.out.kl; rwa [hmk] at this)
              have HCW := Lib.hid (show Chg (· = g) wr (wr.setCells g kk (List.replicate (n - kk) (.int .i64 0))) from ⟨World.os_setCells _ _ _ _, tape_setCells _ _ _ _, World.output_setCells _ _ _ _, by rw [size_setCells]; exact Nat.le_refl _, fun q hq hne => World.heap_setCells_other wr g kk (List.replicate (n - kk) (.int .i64 0)) hq hne⟩)
              clear hnl hdl hkl HI2 HX
              go_wp2
              go_ret
              exact ⟨by rw [HLN.out]; rfl, HFI.out, HC2.out.trans HCW.out (fun i hi _ => hi)⟩
      · obtain rfl : k = n := by omega
        have hki : ¬ (k : Int) < (k : Int) := by omega
        go_wp2
        go_ret
        have hn := HN.out
        have e : cu (ixF l) ms k = ms := by rw [cu_all k (by omega) HA.out, List.take_of_length_le (by omega)]
        refine ⟨?_, by rw [e]; exact HI.out, HC.out⟩
        rw [e, ← hn]
        rfl
end Go.Proofs.Ytajlddgemkkcdaa
