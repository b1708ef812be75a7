/- The contract of the reference's Pick: loads that are accepted, some of which wait. Conditions stand in each theorem. -/
import Derived.Test.YtildofclgofjdaaZL
import Derived.Deep.DeepCutAuto
import Derived.Deep.CutBlock
import Derived.Deep.CutRange
namespace Go.Proofs.Ytildofclgofjdaa
open Go.RowKit Go.Shelf
set_option linter.unusedVariables false
set_option maxHeartbeats 40000000
set_option maxRecDepth 100000
attribute [local go_sem ↓ 100000] loadX_eq storeX_eq
def PickR (w : World) (s : St) (v : Value) (l : List (Int × Int)) (e : Ending) (w' : World) : Prop := e = .returned (.tuple #[.agg (RC (s.pkS l) v), .int .i64 (s.pkP l).1, .int .i64 (s.pkM l), .int .i64 0]) ∧ Below w.heap.size w w'
theorem rpick_some (s : St) (v vl : Value) (l : List (Int × Int)) (w : World) (hl : Lds w v s.L) (hO : Ok s) (hv : Lds w vl l) (hR : Rng l) (hm : l.length ≤ 30) (ha : acc s.L [] l = true) (hb : anyB l = true) :
    Calls Try.prog 29 #[.agg (RC s v), vl] w (PickR w s v l) := by
  have hs := hO.srt
  have HO := Lib.hid hO
  have HACC0 := Lib.hid ha
  obtain ⟨R, pc, hpf⟩ := pick_facts hO hb
  have HPF := Lib.hid hpf
  clear hpf hO
  have HL := Lib.hid hl
  have HV := Lib.hid hv
  have HS := Lib.hid hs
  have hlen := hs.len
  have hlen2 : (s.L.length : Int) ≤ 65536 := by omega
  have hm2 : (l.length : Int) ≤ 30 := by omega
  have HA := Lib.hid ((acc_iff s.L l []).1 ha)
  obtain ⟨A, c, rfl, _, hrA⟩ := hl
  have HRA := Lib.hid hrA
  clear hrA
  obtain ⟨Al, cl, rfl, _, hrl⟩ := hv
  have HRL := Lib.hid hrl
  have HAT := Lib.hid (fun (W : World) (hW : Below w.heap.size w W) (q : Int) => at_any s (.slice A s.L.length c) q W (HL.out.below hW) (by omega))
  have mk1 := make_52 s.L.length (by omega)
  have mk2 := make_97 s.L.length (by omega)
  obtain ⟨cs, hcs⟩ : ∃ cs : Array Value, cs = #[.bool false, .int .i64 0, .int .i64 0, .int .i64 0, .int .i64 0, .slice none 0 0, .int .i64 0, .int .i64 0, .int .i64 0, .int .i64 0, .int .i64 0, .int .i64 0, .int .i64 0, .int .i64 0] := ⟨_, rfl⟩
  have HP0 := Lib.hid (PI.start (w := w) (s := s) (v := .slice A s.L.length c) (cs := cs) (by rw [hcs]; rfl))
  rw [hcs] at HP0
  have HWT := Lib.hid (fun (R' : Nat → Int) (W : World) (hW : PJ w { s with cr := R' } (.slice A s.L.length c) (nsOf s.L l) W) (k : Nat) (z : Bool) (hz : decide (0 < s.cnt l k) = z) => pj_waits HL.out hs ha hW k z hz)
  have HW0 := Lib.hid (fun (W : World) (hW : PJ w s (.slice A s.L.length c) (nsOf s.L l) W) (k : Nat) (i : Int) (hi : i = (k : Int)) (z : Bool) (hz : decide (0 < s.cnt l k) = z) => (show Calls Try.prog 45 #[.agg (RC s (.slice A s.L.length c)), .slice (some ⟨w.heap.size + 2, 0, none⟩) s.L.length s.L.length, .int .i64 i] W fun e w' => e = .returned (.bool z) ∧ Below W.heap.size W w' from by rw [hi]; exact pj_waits0 HL.out hs ha hW k z hz))
  have HRM := Lib.hid (HPF.out.rangeM HO.out hb)
  have HCLS := Lib.hid (fun (W : World) (hW : PJ w { s with cr := R } (.slice A s.L.length c) (nsOf s.L l) W) (k : Nat) (hk : k < s.L.length) (y : Int) (hy : s.cls (s.L.getD k (0, 0)).1 = y) => pj_class HL.out hs hW k hk y hy)
  clear hs ha hb hrl hcs
  obtain ⟨E, hE⟩ : ∃ E, E = (((w.alloc (.cells (RC s (.slice A s.L.length c)) 35)).alloc (.cells #[.bool false, .int .i64 0, .int .i64 0, .int .i64 0, .int .i64 0, .slice none 0 0, .int .i64 0, .int .i64 0, .int .i64 0, .int .i64 0, .int .i64 0, .int .i64 0, .int .i64 0, .int .i64 0] 35)).alloc (.cells (irow (List.replicate s.L.length 0)) 3)).alloc (.cells (brow (List.replicate s.L.length false)) 4) := ⟨_, rfl⟩
  rw [← hE] at HP0
  unfold RC at hE ⊢
  go_enter Try.func29, Try.ntmps29
  go_upto_region 4 with fail
  rw [← hE]
  clear hE mk1 mk2
  go_loopw [10] (fun i wr => ∃ (k : Nat), k ≤ l.length ∧ i = .int .i64 k ∧ Hid (PI w s (.slice A s.L.length c) (l.take k) wr) ∧ Hid (∀ j (hj : j < l.length), j < k → (look s.L l[j].1).isSome = true ∧ 0 ≤ l[j].2 ∧ ([] : List Int).contains l[j].1 = false ∧ look (l.take j) l[j].1 = none)) (fun i _ => l.length - (RowKit.intOf i).toNat)
  case atStart => exact ⟨0, Nat.zero_le _, rfl, HP0, fun j hj h => absurd h (by omega)⟩
  case round =>
    obtain ⟨k, hk, rfl, HP, HACC⟩ := hrel
    by_cases hlt : k < l.length
    · obtain ⟨g, o, rfl, hg, hcell⟩ := HRL.out (by omega)
      have HD := Lib.hid (HP.out.later (Below.refl _ _).drew)
      obtain ⟨x1, x2⟩ := hcell k hlt
      have c1 := (HD.out.below.cell (p := ⟨g, o + k * 2, none⟩) hg).trans x1
      have HX2 := Lib.hid x2
      have HG := Lib.hid hg
      have hld : (loadX ⟨w.heap.size, 0, none⟩).run Try.prog wr.drew = .ok (.agg (RC s (.slice A s.L.length c))) wr.drew := run_loadVar_row _ w.heap.size 35 35 _ (0, 0) _ HD.out.row Try.underlying35 rfl info35
      have HXX := Lib.hid (HAT.out wr.drew HD.out.below l[k].1)
      have HAK := Lib.hid (HA.out k hlt)
      have HSN := Lib.hid (List.take_succ_eq_append_getElem hlt)
      have HACN : Hid ((look s.L l[k].1).isSome = true → 0 ≤ l[k].2 → look (l.take k) l[k].1 = none → ∀ j (hj : j < l.length), j < k + 1 → (look s.L l[j].1).isSome = true ∧ 0 ≤ l[j].2 ∧ ([] : List Int).contains l[j].1 = false ∧ look (l.take j) l[j].1 = none) := Lib.hid (fun h1 h2 h3 j hj hjk => by
        rcases Nat.lt_or_ge j k with h | h
        · exact HACC.out j hj h
        · have : j = k := by omega
          subst this
          exact ⟨h1, h2, rfl, h3⟩)
      clear x1 x2 hcell hg HP HP0
      obtain ⟨x, hx⟩ : ∃ x, x = l[k] := ⟨_, rfl⟩
      rw [← hx] at c1 HX2 HXX HSN HACN HAK
      clear hx
      obtain ⟨q, n⟩ := x
      dsimp only at c1
      go_upto_region 6 with fail
      refine Code.wp_mono nrm_le ?_
      go_region_with (go_at_call 39; refine HXX.out.mono ?_; rintro e w3 ⟨i, rfl, hb, hcase⟩; have HP3 := Lib.hid (HD.out.later hb); have HCS := Lib.hid hcase; clear hb hcase)
      all_goals
        simp only [nrm]
        have c2 := (HP3.out.below.cell (p := ⟨g, o + k * 2 + 1, none⟩) HG.out).trans HX2.out
        (try dsimp only at c2)
        clear c1 hld
        rcases HCS.out with ⟨rfl, hn⟩ | ⟨k', hk', rfl, he⟩
        · exfalso
          obtain ⟨kk, hkk, he⟩ := look_idx (HAK.out).1
          exact hn _ (List.getElem_mem hkk) he
        · have csn : w3.cell? ⟨w.heap.size + 3, k', none⟩ = some (.bool (look (l.take k) q).isSome) := by
            rw [cell_of_row w3 _ k' _ 4 (0, 0) HP3.out.snr, brow_at _ k' (by rw [snOf_length]; exact hk')]
            simp [snOf, he]
          have cns : ∃ y, w3.cell? ⟨w.heap.size + 2, k', none⟩ = some (.int .i64 y) := ⟨_, by rw [cell_of_row w3 _ k' _ 3 (0, 0) HP3.out.nsr, irow_at _ k' (by rw [nsOf_length]; exact hk')]⟩
          obtain ⟨y, cns⟩ := cns
          have fns := frozen_of_row w3 (w.heap.size + 2) k' _ 3 HP3.out.nsr
          have fsn := frozen_of_row w3 (w.heap.size + 3) k' _ 4 HP3.out.snr
          have hk2 : (k' : Int) ≤ 65536 := by omega
          have HLK : Hid ((look s.L q).isSome = true) := Lib.hid (by
            have : look s.L s.L[k'].1 = some s.L[k'].2 := look_of_mem HS.out (by exact List.getElem_mem hk')
            rw [← he, this]; rfl)
          have HPUT : Hid (look (l.take k) q = none → PI w s (.slice A s.L.length c) (l.take (k + 1)) ((w3.setCell ⟨w.heap.size + 2, k', none⟩ (.int .i64 n)).setCell ⟨w.heap.size + 3, k', none⟩ (.bool true))) := Lib.hid (fun h => by
            rw [HSN.out]
            exact HP3.out.put HS.out hk' he h)
          clear HCS he
          have hneg : ¬ n < 0 := by have := HAK.out.2.1; (try dsimp only at this); omega
          have hnone : look (l.take k) q = none := HAK.out.2.2.2
          rw [hnone] at csn
          have HQ := Lib.hid (HPUT.out hnone)
          have HAN := Lib.hid (HACN.out HLK.out (by show 0 ≤ n; omega) hnone)
          clear hnone
          go_wp2
          go_roundw
          case rel => exact ⟨k + 1, by omega, by go_num, HQ, HAN⟩
          case measure => simp [RowKit.intOf]; omega
    · have hkl : k = l.length := by omega
      subst hkl
      have HPJ0 : Hid (PJ w s (.slice A s.L.length c) (nsOf s.L l) wr) := Lib.hid (by have := HP.out; rw [List.take_length] at this; exact this.pj)
      clear HP HACC hk hlt HP0
      go_upto_region 12 with fail
      go_loopw [12, 13, 14] (fun an cc i wx => ∃ (k : Nat) (a b : Bool), 1 ≤ k ∧ k ≤ 4 ∧ an = .bool a ∧ cc = .bool b ∧ i = .int .i64 k ∧ Hid (aW (s.cnt l) k = a ∧ cW (s.cnt l) s.cr k = b) ∧ Hid (PJ w s (.slice A s.L.length c) (nsOf s.L l) wx)) (fun _ _ i _ => 4 - (RowKit.intOf i).toNat)
      case atStart => exact ⟨1, false, false, by omega, by omega, rfl, rfl, rfl, Lib.hid ⟨aW_one _, cW_one _ _⟩, HPJ0⟩
      case round =>
        obtain ⟨k, a, b, hk1, hk4, rfl, rfl, rfl, HAC, HPJ⟩ := hrel
        have hld := HPJ.out.load
        have hki1 : (1 : Int) ≤ (k : Int) := by omega
        by_cases hlt : k < 4
        · have hki : (k : Int) < 4 := by omega
          by_cases hw : 0 < s.cnt l k
          · have HC := Lib.hid (HW0.out wr HPJ.out k (k : Int) rfl true (decide_eq_true hw))
            have HAY := Lib.hid (aW_yes hk1 hw)
            cases b with
            | true =>
              have HCO := Lib.hid (cW_old HAC.out.2)
              clear hw
              go_wp2_with ((go_at_call 45; with_reducible refine HC.out.mono ?_); rintro e w4 ⟨rfl, hb4⟩; have HP4 := Lib.hid (HPJ.out.later hb4); clear hb4)
              go_roundw
              case rel => exact ⟨k + 1, true, true, by omega, by omega, rfl, rfl, by go_num, Lib.hid ⟨HAY.out, HCO.out⟩, HP4⟩
              case measure => simp [RowKit.intOf]; omega
            | false =>
              have HCN := Lib.hid (cW_new hk1 hw HAC.out.2)
              clear hw
              by_cases hcr : 0 < s.cr k
              · have HCN2 : Hid (cW (s.cnt l) s.cr (k + 1) = true) := Lib.hid (HCN.out.trans (decide_eq_true hcr))
                generalize hck : s.cr k = ck at *
                have HCK := Lib.hid hck
                clear hck
                go_wp2_with ((go_at_call 45; with_reducible refine HC.out.mono ?_); rintro e w4 ⟨rfl, hb4⟩; have HP4 := Lib.hid (HPJ.out.later hb4); have c9 := HP4.out.cCr k hlt; rw [HCK.out] at c9; clear hb4)
                go_roundw
                case rel => exact ⟨k + 1, true, true, by omega, by omega, rfl, rfl, by go_num, Lib.hid ⟨HAY.out, HCN2.out⟩, HP4⟩
                case measure => simp [RowKit.intOf]; omega
              · have HCN2 : Hid (cW (s.cnt l) s.cr (k + 1) = false) := Lib.hid (HCN.out.trans (decide_eq_false hcr))
                generalize hck : s.cr k = ck at *
                have HCK := Lib.hid hck
                clear hck
                go_wp2_with ((go_at_call 45; with_reducible refine HC.out.mono ?_); rintro e w4 ⟨rfl, hb4⟩; have HP4 := Lib.hid (HPJ.out.later hb4); have c9 := HP4.out.cCr k hlt; rw [HCK.out] at c9; clear hb4)
                go_roundw
                case rel => exact ⟨k + 1, true, false, by omega, by omega, rfl, (by simp; omega), by go_num, Lib.hid ⟨HAY.out, HCN2.out⟩, HP4⟩
                case measure => simp [RowKit.intOf]; omega
          · have HC := Lib.hid (HW0.out wr HPJ.out k (k : Int) rfl false (decide_eq_false hw))
            have HAY := Lib.hid ((aW_no hw).trans HAC.out.1)
            have HCO := Lib.hid ((cW_no (cr := s.cr) hw).trans HAC.out.2)
            clear hw
            go_wp2_with ((go_at_call 45; with_reducible refine HC.out.mono ?_); rintro e w4 ⟨rfl, hb4⟩; have HP4 := Lib.hid (HPJ.out.later hb4); clear hb4)
            go_roundw
            case rel => exact ⟨k + 1, a, b, by omega, by omega, rfl, rfl, by go_num, Lib.hid ⟨HAY.out, HCO.out⟩, HP4⟩
            case measure => simp [RowKit.intOf]; omega
        · obtain rfl : k = 4 := by omega
          clear hlt hk1 hk4 hki1
          obtain ⟨z, hz⟩ : ∃ z : Bool, decide (0 < s.cnt l 0) = z := ⟨_, rfl⟩
          have HZ := Lib.hid hz
          have HC := Lib.hid (HW0.out _ HPJ.out 0 0 rfl z hz)
          clear hz
          go_upto_if 87 with ((go_at_call 45; with_reducible refine HC.out.mono ?_); rintro e w5 ⟨rfl, hb5⟩; have HP5 := Lib.hid (HPJ.out.later hb5); have hld5 := HP5.out.load; clear hb5)
          go_cut [15] (fun t wx => t = .int .i64 (pc : Int) ∧ Hid (PJ w { s with cr := R } (.slice A s.L.length c) (nsOf s.L l) wx))
          case first =>
            cases z with
            | true =>
              have h0 : 0 < s.cnt l 0 := of_decide_eq_true HZ.out
              obtain ⟨hR0, hp0⟩ := HPF.out.z h0
              have HP6 : Hid (PJ w { s with cr := R } (.slice A s.L.length c) (nsOf s.L l) w5) := Lib.hid (by rw [hR0]; exact HP5.out)
              have HPC : Hid (Value.int .i64 0 = .int .i64 (pc : Int)) := Lib.hid (by rw [hp0]; rfl)
              clear h0 hR0 hp0
              go_wp2
              go_meet
              case rel => exact ⟨HPC.out, HP6⟩
            | false =>
              have h0 : ¬ 0 < s.cnt l 0 := of_decide_eq_false HZ.out
              obtain ⟨hpz, hpc, hR1, hR2⟩ := HPF.out.nz h0
              have hp4 := HPF.out.lt
              have HPZ := Lib.hid (show 1 ≤ pc by omega)
              have HPC := Lib.hid hpc
              have HA : a = true := HAC.out.1.symm.trans (aW_four (by omega) hp4 HPF.out.pos)
              have HB : b = (credF (s.cnt l) s.cr != 0) := HAC.out.2.symm.trans (cW_four _ _)
              have HWR := Lib.hid (fun (W : World) (hW : PJ w { s with cr := R } (.slice A s.L.length c) (nsOf s.L l) W) (k : Nat) (z : Bool) (hz : decide (0 < s.cnt l k) = z) => HWT.out R W hW k z hz)
              subst HA
              have hHA : Hid True := trivial
              cases hcf : (credF (s.cnt l) s.cr != 0) with
              | true =>
                have hR0 := hR1 (by simpa using hcf)
                have HP6 : Hid (PJ w { s with cr := R } (.slice A s.L.length c) (nsOf s.L l) w5) := Lib.hid (by rw [hR0]; exact HP5.out)
                rw [hcf] at HB
                subst HB
                clear h0 hpz hpc hR1 hR2 hcf hR0
                go_upto_region 24 with fail
                simp only [Bool.not_false]
                go_loopw [15] (fun i wx => ∃ (k : Nat), 1 ≤ k ∧ k ≤ pc ∧ i = .int .i64 k ∧ Hid (∀ j, 1 ≤ j → j < k → ¬ (0 < s.cnt l j ∧ 0 < R j)) ∧ Hid (PJ w { s with cr := R } (.slice A s.L.length c) (nsOf s.L l) wx)) (fun i _ => pc - (RowKit.intOf i).toNat)
                case atStart => exact ⟨1, by omega, HPZ.out, rfl, Lib.hid (fun j h1 h2 => by omega), HP6⟩
                case round =>
                  obtain ⟨k, hk1, hkp, rfl, HN, HPJ⟩ := hrel
                  have hld := HPJ.out.load
                  have hk4 : k < 4 := by omega
                  have hki : (k : Int) < 4 := by omega
                  have HRG := Lib.hid (HPF.out.rng (by omega) k hk1 (by omega))
                  by_cases hw : 0 < s.cnt l k
                  · have HC := Lib.hid (HWR.out wr HPJ.out k true (decide_eq_true hw))
                    by_cases hcr : R k = 0
                    · have HNX : Hid (∀ j, 1 ≤ j → j < k + 1 → ¬ (0 < s.cnt l j ∧ 0 < R j)) := Lib.hid (fun j h1 h2 => by
                        rcases Nat.lt_or_ge j k with h | h
                        · exact HN.out j h1 h
                        · obtain rfl : j = k := by omega
                          omega)
                      have HLT : Hid (k + 1 ≤ pc) := Lib.hid (by
                        rcases Nat.lt_or_ge k pc with h | h
                        · exact h
                        · obtain rfl : k = pc := by omega
                          have := (HPF.out.cr (by omega)).1
                          omega)
                      have HCK := Lib.hid hcr
                      clear hw hcr
                      go_wp2_with ((go_at_call 45; with_reducible refine HC.out.mono ?_); rintro e w4 ⟨rfl, hb4⟩; have HP4 := Lib.hid (HPJ.out.later hb4); have c9 : w4.cell? ⟨w.heap.size, 10 + k, none⟩ = some (.int .i64 0) := (HP4.out.cCr k hk4).trans (by show some (Value.int .i64 (R k)) = _; rw [HCK.out]); clear hb4)
                      go_roundw
                      case rel => exact ⟨k + 1, by omega, HLT.out, by go_num, HNX, HP4⟩
                      case measure => have := HLT.out; simp [RowKit.intOf]; omega
                    · have hkpc : k = pc := by
                        rw [HPC.out]
                        exact (credF_first hk1 hk4 ⟨hw, by have := HRG.out; omega⟩ HN.out).symm
                      have HKP : Hid (Value.int .i64 (k : Int) = .int .i64 (pc : Int)) := Lib.hid (by rw [hkpc])
                      have hc1 : (R k == 0) = false := by simpa using hcr
                      have hc2 : ¬ R k = 0 := hcr
                      generalize hck : R k = ck at *
                      have HCK := Lib.hid hck
                      clear hck hkpc hw
                      go_wp2_with ((go_at_call 45; with_reducible refine HC.out.mono ?_); rintro e w4 ⟨rfl, hb4⟩; have HP4 := Lib.hid (HPJ.out.later hb4); have c9 : w4.cell? ⟨w.heap.size, 10 + k, none⟩ = some (.int .i64 ck) := (HP4.out.cCr k hk4).trans (by show some (Value.int .i64 (R k)) = _; rw [HCK.out]); clear hb4)
                      go_meet
                      case rel => exact ⟨HKP.out, HP4⟩
                  · have HC := Lib.hid (HWR.out wr HPJ.out k false (decide_eq_false hw))
                    have HNX : Hid (∀ j, 1 ≤ j → j < k + 1 → ¬ (0 < s.cnt l j ∧ 0 < R j)) := Lib.hid (fun j h1 h2 => by
                      rcases Nat.lt_or_ge j k with h | h
                      · exact HN.out j h1 h
                      · obtain rfl : j = k := by omega
                        omega)
                    have HLT : Hid (k + 1 ≤ pc) := Lib.hid (by
                      rcases Nat.lt_or_ge k pc with h | h
                      · exact h
                      · obtain rfl : k = pc := by omega
                        exact absurd HPF.out.pos hw)
                    clear hw
                    go_wp2_with ((go_at_call 45; with_reducible refine HC.out.mono ?_); rintro e w4 ⟨rfl, hb4⟩; have HP4 := Lib.hid (HPJ.out.later hb4); clear hb4)
                    go_roundw
                    case rel => exact ⟨k + 1, by omega, HLT.out, by go_num, HNX, HP4⟩
                    case measure => have := HLT.out; simp [RowKit.intOf]; omega
              | false =>
                have hR0 := hR2 (by simpa using hcf)
                have hc2 := HP5.out.cHi
                have hc3 := HP5.out.cMe
                have hc4 := HP5.out.cLo
                have hf := HP5.out.free
                have y0 : w5.cell? ⟨w.heap.size, 10, none⟩ = _ := HP5.out.cCr 0 (by decide)
                have y1 : w5.cell? ⟨w.heap.size, 11, none⟩ = _ := HP5.out.cCr 1 (by decide)
                have y2 : w5.cell? ⟨w.heap.size, 12, none⟩ = _ := HP5.out.cCr 2 (by decide)
                have y3 : w5.cell? ⟨w.heap.size, 13, none⟩ = _ := HP5.out.cCr 3 (by decide)
                have HP6 : Hid (PJ w { s with cr := R } (.slice A s.L.length c) (nsOf s.L l) ((((w5.setCell ⟨w.heap.size, 10, none⟩ (.int .i64 0)).setCell ⟨w.heap.size, 11, none⟩ (.int .i64 s.hi)).setCell ⟨w.heap.size, 12, none⟩ (.int .i64 s.me)).setCell ⟨w.heap.size, 13, none⟩ (.int .i64 s.lo))) := Lib.hid (by rw [hR0]; exact HP5.out.fresh)
                rw [hcf] at HB
                subst HB
                clear h0 hpz hpc hR1 hR2 hcf hR0
                go_upto_region 24 with fail
                simp only [Bool.not_false]
                go_loopw [15] (fun i wx => ∃ (k : Nat), 1 ≤ k ∧ k ≤ pc ∧ i = .int .i64 k ∧ Hid (∀ j, 1 ≤ j → j < k → ¬ (0 < s.cnt l j ∧ 0 < R j)) ∧ Hid (PJ w { s with cr := R } (.slice A s.L.length c) (nsOf s.L l) wx)) (fun i _ => pc - (RowKit.intOf i).toNat)
                case atStart => exact ⟨1, by omega, HPZ.out, rfl, Lib.hid (fun j h1 h2 => by omega), HP6⟩
                case round =>
                  obtain ⟨k, hk1, hkp, rfl, HN, HPJ⟩ := hrel
                  have hld := HPJ.out.load
                  have hk4 : k < 4 := by omega
                  have hki : (k : Int) < 4 := by omega
                  have HRG := Lib.hid (HPF.out.rng (by omega) k hk1 (by omega))
                  by_cases hw : 0 < s.cnt l k
                  · have HC := Lib.hid (HWR.out wr HPJ.out k true (decide_eq_true hw))
                    by_cases hcr : R k = 0
                    · have HNX : Hid (∀ j, 1 ≤ j → j < k + 1 → ¬ (0 < s.cnt l j ∧ 0 < R j)) := Lib.hid (fun j h1 h2 => by
                        rcases Nat.lt_or_ge j k with h | h
                        · exact HN.out j h1 h
                        · obtain rfl : j = k := by omega
                          omega)
                      have HLT : Hid (k + 1 ≤ pc) := Lib.hid (by
                        rcases Nat.lt_or_ge k pc with h | h
                        · exact h
                        · obtain rfl : k = pc := by omega
                          have := (HPF.out.cr (by omega)).1
                          omega)
                      have HCK := Lib.hid hcr
                      clear hw hcr
                      go_wp2_with ((go_at_call 45; with_reducible refine HC.out.mono ?_); rintro e w4 ⟨rfl, hb4⟩; have HP4 := Lib.hid (HPJ.out.later hb4); have c9 : w4.cell? ⟨w.heap.size, 10 + k, none⟩ = some (.int .i64 0) := (HP4.out.cCr k hk4).trans (by show some (Value.int .i64 (R k)) = _; rw [HCK.out]); clear hb4)
                      go_roundw
                      case rel => exact ⟨k + 1, by omega, HLT.out, by go_num, HNX, HP4⟩
                      case measure => have := HLT.out; simp [RowKit.intOf]; omega
                    · have hkpc : k = pc := by
                        rw [HPC.out]
                        exact (credF_first hk1 hk4 ⟨hw, by have := HRG.out; omega⟩ HN.out).symm
                      have HKP : Hid (Value.int .i64 (k : Int) = .int .i64 (pc : Int)) := Lib.hid (by rw [hkpc])
                      have hc1 : (R k == 0) = false := by simpa using hcr
                      have hc2 : ¬ R k = 0 := hcr
                      generalize hck : R k = ck at *
                      have HCK := Lib.hid hck
                      clear hck hkpc hw
                      go_wp2_with ((go_at_call 45; with_reducible refine HC.out.mono ?_); rintro e w4 ⟨rfl, hb4⟩; have HP4 := Lib.hid (HPJ.out.later hb4); have c9 : w4.cell? ⟨w.heap.size, 10 + k, none⟩ = some (.int .i64 ck) := (HP4.out.cCr k hk4).trans (by show some (Value.int .i64 (R k)) = _; rw [HCK.out]); clear hb4)
                      go_meet
                      case rel => exact ⟨HKP.out, HP4⟩
                  · have HC := Lib.hid (HWR.out wr HPJ.out k false (decide_eq_false hw))
                    have HNX : Hid (∀ j, 1 ≤ j → j < k + 1 → ¬ (0 < s.cnt l j ∧ 0 < R j)) := Lib.hid (fun j h1 h2 => by
                      rcases Nat.lt_or_ge j k with h | h
                      · exact HN.out j h1 h
                      · obtain rfl : j = k := by omega
                        omega)
                    have HLT : Hid (k + 1 ≤ pc) := Lib.hid (by
                      rcases Nat.lt_or_ge k pc with h | h
                      · exact h
                      · obtain rfl : k = pc := by omega
                        exact absurd HPF.out.pos hw)
                    clear hw
                    go_wp2_with ((go_at_call 45; with_reducible refine HC.out.mono ?_); rintro e w4 ⟨rfl, hb4⟩; have HP4 := Lib.hid (HPJ.out.later hb4); clear hb4)
                    go_roundw
                    case rel => exact ⟨k + 1, by omega, HLT.out, by go_num, HNX, HP4⟩
                    case measure => have := HLT.out; simp [RowKit.intOf]; omega
          case rest =>
            obtain ⟨rfl, HPJ5⟩ := hcut
            go_upto_region 28 with fail
            go_loopw [16, 17] (fun b i wx => ∃ (k : Nat) (x : Int), k ≤ s.L.length ∧ b = .int .i64 x ∧ i = .int .i64 k ∧ Hid (BestI s (nsOf s.L l) (pc : Int) (s.last pc) k x) ∧ Hid (PJ w { s with cr := R } (.slice A s.L.length c) (nsOf s.L l) wx)) (fun _ i _ => s.L.length - (RowKit.intOf i).toNat)
            case atStart => exact ⟨0, -1, Nat.zero_le _, rfl, rfl, Lib.hid BestI.zero, HPJ5⟩
            case round =>
              obtain ⟨k, x, hk, rfl, rfl, HBI, HPJ⟩ := hrel
              have hld := HPJ.out.load
              have cL := HPJ.out.cL
              have hp4 := HPF.out.lt
              have hpi : (pc : Int) < 4 := by omega
              by_cases hlt : k < s.L.length
              · have cn := HPJ.out.at (k := k) (by rw [nsOf_length]; exact hlt)
                have HNK : Hid ((nsOf s.L l).getD k 0 = (nsOf s.L l).getD k 0) := rfl
                obtain ⟨nk, hnk⟩ : ∃ nk, (nsOf s.L l).getD k 0 = nk := ⟨_, rfl⟩
                have HNKD := Lib.hid hnk
                rw [hnk] at cn
                clear hnk HNK
                by_cases hz : nk = 0
                · have HB2 := Lib.hid (HBI.out.skip (fun h => h.1 (HNKD.out.trans hz)))
                  rw [hz] at cn
                  clear hz
                  go_wp2
                  go_roundw
                  case rel => exact ⟨k + 1, x, by omega, rfl, by go_num, HB2, HPJ⟩
                  case measure => simp [RowKit.intOf]; omega
                · have hz2 : (nk == 0) = false := by simpa using hz
                  obtain ⟨y, hy⟩ : ∃ y, s.cls (s.L.getD k (0, 0)).1 = y := ⟨_, rfl⟩
                  have HC := Lib.hid (HCLS.out _ HPJ.out k hlt y hy)
                  have HY := Lib.hid hy
                  have HNZ := Lib.hid hz
                  clear hy
                  by_cases hyc : y = (pc : Int)
                  · have HCD : Hid (Cand s (nsOf s.L l) (pc : Int) k) := Lib.hid ⟨by rw [HNKD.out]; exact HNZ.out, HY.out.trans hyc⟩
                    subst hyc
                    have HC2 := HC.out
                    have hl0 : 0 < s.L.length := by omega
                    obtain ⟨g, o, hA, hg, hcell⟩ := HRA.out hl0
                    subst hA
                    have HG := Lib.hid hg
                    have HCE := Lib.hid hcell
                    have HLS := Lib.hid ((HO.out).last pc)
                    clear hcell hg hl0
                    rcases HBI.out.cases with hx | ⟨kb, hkb, hx⟩
                    · have HB2 := Lib.hid ((by have := HBI.out; rw [hx] at this; exact this : BestI s (nsOf s.L l) (pc : Int) (s.last pc) k (-1)).first hlt HCD.out)
                      subst hx
                      go_wp2_with ((go_at_call 46; with_reducible refine HC.out.mono ?_); rintro e w4 ⟨rfl, hb4⟩; have HP4 := Lib.hid (HPJ.out.later hb4); clear hb4)
                      go_big_quiet (fail)
                      go_wp2
                      go_roundw
                      case rel => exact ⟨k + 1, _, by omega, rfl, by go_num, HB2, Lib.hid (HP4.out.later ⟨rfl, rfl, rfl, Nat.le_refl _, fun _ _ => rfl⟩)⟩
                      case measure => simp [RowKit.intOf]; omega
                    · have HBK : Hid (BestI s (nsOf s.L l) (pc : Int) (s.last pc) k (kb : Int)) := Lib.hid (by have := HBI.out; rwa [hx] at this)
                      subst hx
                      have e1 : s.L.getD kb (0, 0) = s.L[kb] := by simp [List.getD, hkb]
                      have e2 : s.L.getD k (0, 0) = s.L[k] := by simp [List.getD, hlt]
                      have HE1 := Lib.hid e1
                      have HE2 := Lib.hid e2
                      clear e1 e2
                      have HQB := Lib.hid (HCE.out kb hkb).1
                      have HQK := Lib.hid (HCE.out k hlt).1
                      have HBET := Lib.hid (fun h1 h2 => HBK.out.better HO.out.srt HLS.out hlt HCD.out h1 h2)
                      have HWOR := Lib.hid (fun h => HBK.out.worse HO.out.srt HLS.out hlt h)
                      rw [HE1.out, HE2.out] at HBET HWOR
                      obtain ⟨qb, hqb⟩ : ∃ qb, s.L[kb].1 = qb := ⟨_, rfl⟩
                      obtain ⟨qk, hqk⟩ : ∃ qk, s.L[k].1 = qk := ⟨_, rfl⟩
                      rw [hqb] at HQB HBET HWOR
                      rw [hqk] at HQK HBET HWOR
                      obtain ⟨la, hla⟩ : ∃ la, s.last pc = la := ⟨_, rfl⟩
                      have HLA := Lib.hid hla
                      have hkb0 : (0 : Int) ≤ (kb : Int) := by omega
                      have hkb1 : (kb : Int) < (s.L.length : Int) := by omega
                      have g0 : decide ((kb : Int) < 0) = false := decide_eq_false (by omega)
                      have hki1 : (k : Int) < (s.L.length : Int) := by omega
                      clear hqb hqk hla HCE HY HBI
                      by_cases p1 : qb ≤ la
                      · by_cases p2 : la < qk
                        · have HB2 := Lib.hid (HBET.out (by rw [HLA.out]; exact p1) (by rw [HLA.out]; exact p2))
                          have g1 : decide (qb ≤ la) = true := decide_eq_true p1
                          have g2 : decide (la < qk) = true := decide_eq_true p2
                          go_wp2_with ((go_at_call 46; with_reducible refine HC.out.mono ?_); rintro e w4 ⟨rfl, hb4⟩; have HP4 := Lib.hid (HPJ.out.later hb4); have z5 := HP4.out.cL; have z6 : w4.cell? ⟨w.heap.size, 6 + pc, none⟩ = some (.int .i64 la) := (HP4.out.cLast pc hp4).trans (by show some (Value.int .i64 (s.last pc)) = _; rw [HLA.out]); have z7 := (HP4.out.below.cell (p := ⟨g, o + kb * 2, none⟩) HG.out).trans HQB.out; have z8 := (HP4.out.below.cell (p := ⟨g, o + k * 2, none⟩) HG.out).trans HQK.out; clear hb4)
                          go_big_quiet (fail)
                          go_wp2
                          go_roundw
                          case rel => exact ⟨k + 1, _, by omega, rfl, by go_num, HB2, Lib.hid (HP4.out.later ⟨rfl, rfl, rfl, Nat.le_refl _, fun _ _ => rfl⟩)⟩
                          case measure => simp [RowKit.intOf]; omega
                        · have HB2 := Lib.hid (HWOR.out (fun h => p2 (by rw [← HLA.out]; exact h.2)))
                          have g1 : decide (qb ≤ la) = true := decide_eq_true p1
                          have g2 : decide (la < qk) = false := decide_eq_false p2
                          go_wp2_with ((go_at_call 46; with_reducible refine HC.out.mono ?_); rintro e w4 ⟨rfl, hb4⟩; have HP4 := Lib.hid (HPJ.out.later hb4); have z5 := HP4.out.cL; have z6 : w4.cell? ⟨w.heap.size, 6 + pc, none⟩ = some (.int .i64 la) := (HP4.out.cLast pc hp4).trans (by show some (Value.int .i64 (s.last pc)) = _; rw [HLA.out]); have z7 := (HP4.out.below.cell (p := ⟨g, o + kb * 2, none⟩) HG.out).trans HQB.out; have z8 := (HP4.out.below.cell (p := ⟨g, o + k * 2, none⟩) HG.out).trans HQK.out; clear hb4)
                          go_big_quiet (fail)
                          go_wp2
                          go_roundw
                          case rel => exact ⟨k + 1, _, by omega, rfl, by go_num, HB2, Lib.hid (HP4.out.later ⟨rfl, rfl, rfl, Nat.le_refl _, fun _ _ => rfl⟩)⟩
                          case measure => simp [RowKit.intOf]; omega
                      · have HB2 := Lib.hid (HWOR.out (fun h => p1 (by rw [← HLA.out]; exact h.1)))
                        have g1 : decide (qb ≤ la) = false := decide_eq_false p1
                        go_wp2_with ((go_at_call 46; with_reducible refine HC.out.mono ?_); rintro e w4 ⟨rfl, hb4⟩; have HP4 := Lib.hid (HPJ.out.later hb4); have z5 := HP4.out.cL; have z6 : w4.cell? ⟨w.heap.size, 6 + pc, none⟩ = some (.int .i64 la) := (HP4.out.cLast pc hp4).trans (by show some (Value.int .i64 (s.last pc)) = _; rw [HLA.out]); have z7 := (HP4.out.below.cell (p := ⟨g, o + kb * 2, none⟩) HG.out).trans HQB.out; have z8 := (HP4.out.below.cell (p := ⟨g, o + k * 2, none⟩) HG.out).trans HQK.out; clear hb4)
                        go_big_quiet (fail)
                        go_wp2
                        go_roundw
                        case rel => exact ⟨k + 1, _, by omega, rfl, by go_num, HB2, Lib.hid (HP4.out.later ⟨rfl, rfl, rfl, Nat.le_refl _, fun _ _ => rfl⟩)⟩
                        case measure => simp [RowKit.intOf]; omega
                  · have HB2 := Lib.hid (HBI.out.skip (fun h => hyc (HY.out.symm.trans h.2)))
                    have hyc2 : (y != (pc : Int)) = true := by simpa using hyc
                    go_wp2_with ((go_at_call 46; with_reducible refine HC.out.mono ?_); rintro e w4 ⟨rfl, hb4⟩; have HP4 := Lib.hid (HPJ.out.later hb4); clear hb4)
                    go_roundw
                    case rel => exact ⟨k + 1, x, by omega, rfl, by go_num, HB2, HP4⟩
                    case measure => simp [RowKit.intOf]; omega
              · obtain rfl : k = s.L.length := by omega
                obtain ⟨kb, hkb, hx, hlow⟩ := HBI.out.last HO.out.srt HACC0.out HPF.out.pos
                subst hx
                have HPP := Lib.hid (HPF.out.low.trans hlow)
                have HMM := Lib.hid HPF.out.pkM
                have HSS := Lib.hid HPF.out.pkS
                have hnn := HRM.out.2.1
                have HMC := Lib.hid HRM.out.2.2
                have hm0 := HRM.out.1
                rw [HPP.out] at HMM HSS hnn
                obtain ⟨nn, hne⟩ : ∃ nn, (nsOf s.L l).getD kb 0 = nn := ⟨_, rfl⟩
                obtain ⟨qn, hqe⟩ : ∃ qn, s.L[kb].1 = qn := ⟨_, rfl⟩
                have cn := HPJ.out.at (k := kb) (by rw [nsOf_length]; exact hkb)
                rw [hne] at cn HMM HSS hnn HPP
                rw [hqe] at HSS HPP
                have hl0 : 0 < s.L.length := by omega
                obtain ⟨g, o, hA, hg, hcell⟩ := HRA.out hl0
                subst hA
                have HG := Lib.hid hg
                have HQB := Lib.hid (hcell kb hkb).1
                rw [hqe] at HQB
                have hkb0 : (0 : Int) ≤ (kb : Int) := by omega
                have hkb1 : (kb : Int) < (s.L.length : Int) := by omega
                obtain ⟨M, hM⟩ : ∃ M, s.pkM l = M := ⟨_, rfl⟩
                rw [hM] at HMM HMC hm0
                have HMD := Lib.hid hM
                have c1 := HPJ.out.cBu
                have hbu := HO.out.bu
                clear hM hne hqe hcell hg hl0 hlow HBI HRM
                dsimp only at hnn c1
                obtain ⟨bu, hbue⟩ : ∃ bu, s.bu = bu := ⟨_, rfl⟩
                have HBU := Lib.hid hbue
                rw [hbue] at c1 hbu
                clear hbue
                obtain ⟨hbu0, hbu1⟩ := hbu
                have HFIN : Hid (∀ W' (S' : St), S' = s.pkS l → PJ w S' (.slice (some ⟨g, o, none⟩) s.L.length c) (nsOf s.L l) W' → True) := Lib.hid (fun _ _ _ _ => trivial)
                have cW0 := HPJ.out
                by_cases hb0 : bu = 0
                · have hbm : bst s.bu nn = nn := by unfold bst; rw [if_pos (HBU.out.trans hb0)]
                  rw [hb0] at c1
                  by_cases hp0 : pc = 0
                  · have HMV : Hid (nn = M) := Lib.hid (by rw [HMM.out]; unfold St.tk; rw [if_pos hp0]; exact hbm.symm)
                    have HSV : Hid (s.pkS l = { s with cr := R, last := upd s.last pc qn }) := Lib.hid (by rw [HSS.out]; unfold St.tkS; rw [if_pos hp0])
                    subst hp0
                    have f6 := HPJ.out.free 6
                    have c6 : wr.cell? ⟨w.heap.size, 6, none⟩ = some (.int .i64 (s.last 0)) := HPJ.out.cLast 0 (by decide)
                    have z7 := (HPJ.out.below.cell (p := ⟨g, o + kb * 2, none⟩) HG.out).trans HQB.out
                    have HP7 : Hid (PJ w { s with cr := R, last := upd s.last 0 qn } (.slice (some ⟨g, o, none⟩) s.L.length c) (nsOf s.L l) (wr.setCell ⟨w.heap.size, 6, none⟩ (.int .i64 qn))) := Lib.hid (HPJ.out.setLast 0 (by decide) qn)
                    obtain ⟨Wf, hWf⟩ : ∃ Wf, Wf = wr.setCell ⟨w.heap.size, 6, none⟩ (.int .i64 qn) := ⟨_, rfl⟩
                    rw [← hWf] at HP7
                    clear hbm hb0 HMC
                    go_upto_region 40 with fail
                    rw [← hWf]
                    clear hWf c6 f6 z7 cn c1 cL hld
                    have HP8 : Hid (PJ w (s.pkS l) (.slice (some ⟨g, o, none⟩) s.L.length c) (nsOf s.L l) Wf.drew) := Lib.hid (by rw [HSV.out]; exact HP7.out.later ⟨rfl, rfl, rfl, Nat.le_refl _, fun _ _ => rfl⟩)
                    have hld := HP8.out.load
                    have cL := HP8.out.cL
                    have z7 := (HP8.out.below.cell (p := ⟨g, o + kb * 2, none⟩) HG.out).trans HQB.out
                    obtain ⟨cs, hcs, hres⟩ := HP8.out.res
                    have hst : (storeX ⟨w.heap.size + 1, 0, none⟩ (.agg (RC (s.pkS l) (.slice (some ⟨g, o, none⟩) s.L.length c)))).run Try.prog Wf.drew = .ok () (Wf.drew.setRow (w.heap.size + 1) (RC (s.pkS l) (.slice (some ⟨g, o, none⟩) s.L.length c))) := run_storeVar_row Wf.drew (w.heap.size + 1) 35 35 cs _ hres info35 (by rw [hcs]; rfl) (RC_one _ _ _ _)
                    have HRES := Lib.hid (setRow_heap Wf.drew (w.heap.size + 1) cs (RC (s.pkS l) (.slice (some ⟨g, o, none⟩) s.L.length c)) 35 (0, 0) hres)
                    have HBF := Lib.hid (HP8.out.below)
                    have hgl9 := HG.out
                    have z8 : (Wf.drew.setRow (w.heap.size + 1) (RC (s.pkS l) (.slice (some ⟨g, o, none⟩) s.L.length c))).cell? ⟨g, o + kb * 2, none⟩ = some (.int .i64 qn) := (World.cell?_of_block (a := ⟨g, o + kb * 2, none⟩) (w := Wf.drew) (setRow_other Wf.drew (w.heap.size + 1) g (RC (s.pkS l) (.slice (some ⟨g, o, none⟩) s.L.length c)) (by omega))).trans z7
                    have cL8 : (Wf.drew.setRow (w.heap.size + 1) (RC (s.pkS l) (.slice (some ⟨g, o, none⟩) s.L.length c))).cell? ⟨w.heap.size, 5, none⟩ = some (.slice (some ⟨g, o, none⟩) s.L.length c) := (World.cell?_of_block (a := ⟨w.heap.size, 5, none⟩) (w := Wf.drew) (setRow_other Wf.drew (w.heap.size + 1) w.heap.size (RC (s.pkS l) (.slice (some ⟨g, o, none⟩) s.L.length c)) (by omega))).trans cL
                    clear hcs hres HP7
                    refine Code.wp_mono nrm_le ?_
                    go_region
                    all_goals
                      simp only [nrm]
                      go_wp2
                      (try simp only [Exit.inBlock, Exit.then])
                      refine bodyPost_ret (v := .tuple #[.agg (RC (s.pkS l) (.slice (some ⟨g, o, none⟩) s.L.length c)), .int .i64 qn, .int .i64 (nn), .int .i64 0]) ?_ rfl ⟨by rw [HPP.out, HMD.out, HMV.out], HBF.out.trans ⟨rfl, rfl, rfl, by simp, fun j hj => setRow_other _ _ j _ (by omega)⟩⟩
                      exact results_row3 (a := 4) (b := 5) (b' := 6) (b'' := 7) (ty := 35) rfl _ _ (w.heap.size + 1) 35 (RC (s.pkS l) (.slice (some ⟨g, o, none⟩) s.L.length c)) (0, 0) _ rfl HRES.out Try.underlying35 rfl info35
                  · have hcr := HMC.out hp0
                    have HMV : Hid (min nn (R pc) = M) := Lib.hid (by have := HMM.out; unfold St.tk at this; rw [if_neg hp0, hbm] at this; rw [this]; (try (show _ = min _ (R pc); omega)))
                    have HSV : Hid (s.pkS l = { s with cr := upd R pc (R pc - M), last := upd s.last pc qn }) := Lib.hid (by rw [HSS.out]; unfold St.tkS; rw [if_neg hp0, ← HMM.out])
                    have hpi0 : 0 < (pc : Int) := by omega
                    have f6 := HPJ.out.free (6 + pc)
                    have f10 := HPJ.out.free (10 + pc)
                    have c6 := HPJ.out.cLast pc hp4
                    have c10 : wr.cell? ⟨w.heap.size, 10 + pc, none⟩ = some (.int .i64 (R pc)) := HPJ.out.cCr pc hp4
                    have z7 := (HPJ.out.below.cell (p := ⟨g, o + kb * 2, none⟩) HG.out).trans HQB.out
                    have hgl := HG.out
                    have hgn1 : ¬ g = w.heap.size := by omega
                    have hgn2 : ¬ w.heap.size = g := by omega
                    have hn5 : ¬ 5 = 10 + pc := by omega
                    have hn5' : ¬ 10 + pc = 5 := by omega
                    obtain ⟨ck, hck⟩ : ∃ ck, R pc = ck := ⟨_, rfl⟩
                    have HP6 := Lib.hid (HPJ.out.setCr pc hp4 (R pc - M))
                    have HP7 := Lib.hid (HP6.out.setLast pc hp4 qn)
                    rw [hck] at c10 hcr HP7 HMV HSV
                    obtain ⟨hcr1, hcr2⟩ := hcr
                    have hw : IntKind.i64.wrap (ck - M) = ck - M := IntWalk.i64_in _ (by omega)
                    obtain ⟨Wf, hWf⟩ : ∃ Wf, Wf = (wr.setCell ⟨w.heap.size, 10 + pc, none⟩ (.int .i64 (ck - M))).setCell ⟨w.heap.size, 6 + pc, none⟩ (.int .i64 qn) := ⟨_, rfl⟩
                    rw [← hWf] at HP7
                    clear hbm hb0 HMC HP6 hck
                    go_upto_region 38 with fail
                    rw [HMV.out]
                    go_upto_region 40 with fail
                    rw [← hWf]
                    clear hWf c6 f6 z7 cn c1 cL hld
                    have HP8 : Hid (PJ w (s.pkS l) (.slice (some ⟨g, o, none⟩) s.L.length c) (nsOf s.L l) Wf.drew) := Lib.hid (by rw [HSV.out]; exact HP7.out.later ⟨rfl, rfl, rfl, Nat.le_refl _, fun _ _ => rfl⟩)
                    have hld := HP8.out.load
                    have cL := HP8.out.cL
                    have z7 := (HP8.out.below.cell (p := ⟨g, o + kb * 2, none⟩) HG.out).trans HQB.out
                    obtain ⟨cs, hcs, hres⟩ := HP8.out.res
                    have hst : (storeX ⟨w.heap.size + 1, 0, none⟩ (.agg (RC (s.pkS l) (.slice (some ⟨g, o, none⟩) s.L.length c)))).run Try.prog Wf.drew = .ok () (Wf.drew.setRow (w.heap.size + 1) (RC (s.pkS l) (.slice (some ⟨g, o, none⟩) s.L.length c))) := run_storeVar_row Wf.drew (w.heap.size + 1) 35 35 cs _ hres info35 (by rw [hcs]; rfl) (RC_one _ _ _ _)
                    have HRES := Lib.hid (setRow_heap Wf.drew (w.heap.size + 1) cs (RC (s.pkS l) (.slice (some ⟨g, o, none⟩) s.L.length c)) 35 (0, 0) hres)
                    have HBF := Lib.hid (HP8.out.below)
                    have hgl9 := HG.out
                    have z8 : (Wf.drew.setRow (w.heap.size + 1) (RC (s.pkS l) (.slice (some ⟨g, o, none⟩) s.L.length c))).cell? ⟨g, o + kb * 2, none⟩ = some (.int .i64 qn) := (World.cell?_of_block (a := ⟨g, o + kb * 2, none⟩) (w := Wf.drew) (setRow_other Wf.drew (w.heap.size + 1) g (RC (s.pkS l) (.slice (some ⟨g, o, none⟩) s.L.length c)) (by omega))).trans z7
                    have cL8 : (Wf.drew.setRow (w.heap.size + 1) (RC (s.pkS l) (.slice (some ⟨g, o, none⟩) s.L.length c))).cell? ⟨w.heap.size, 5, none⟩ = some (.slice (some ⟨g, o, none⟩) s.L.length c) := (World.cell?_of_block (a := ⟨w.heap.size, 5, none⟩) (w := Wf.drew) (setRow_other Wf.drew (w.heap.size + 1) w.heap.size (RC (s.pkS l) (.slice (some ⟨g, o, none⟩) s.L.length c)) (by omega))).trans cL
                    clear hcs hres HP7
                    refine Code.wp_mono nrm_le ?_
                    go_region
                    all_goals
                      simp only [nrm]
                      go_wp2
                      (try simp only [Exit.inBlock, Exit.then])
                      refine bodyPost_ret (v := .tuple #[.agg (RC (s.pkS l) (.slice (some ⟨g, o, none⟩) s.L.length c)), .int .i64 qn, .int .i64 (M), .int .i64 0]) ?_ rfl ⟨by rw [HPP.out, HMD.out], HBF.out.trans ⟨rfl, rfl, rfl, by simp, fun j hj => setRow_other _ _ j _ (by omega)⟩⟩
                      exact results_row3 (a := 4) (b := 5) (b' := 6) (b'' := 7) (ty := 35) rfl _ _ (w.heap.size + 1) 35 (RC (s.pkS l) (.slice (some ⟨g, o, none⟩) s.L.length c)) (0, 0) _ rfl HRES.out Try.underlying35 rfl info35
                · have hbm : bst s.bu nn = min nn bu := by unfold bst; rw [if_neg (fun h => hb0 (HBU.out.symm.trans h)), HBU.out]
                  have hb2 : 0 < bu := by omega
                  by_cases hp0 : pc = 0
                  · have HMV : Hid (min nn bu = M) := Lib.hid (by rw [HMM.out]; unfold St.tk; rw [if_pos hp0]; exact hbm.symm)
                    have HSV : Hid (s.pkS l = { s with cr := R, last := upd s.last pc qn }) := Lib.hid (by rw [HSS.out]; unfold St.tkS; rw [if_pos hp0])
                    subst hp0
                    have f6 := HPJ.out.free 6
                    have c6 : wr.cell? ⟨w.heap.size, 6, none⟩ = some (.int .i64 (s.last 0)) := HPJ.out.cLast 0 (by decide)
                    have z7 := (HPJ.out.below.cell (p := ⟨g, o + kb * 2, none⟩) HG.out).trans HQB.out
                    have HP7 : Hid (PJ w { s with cr := R, last := upd s.last 0 qn } (.slice (some ⟨g, o, none⟩) s.L.length c) (nsOf s.L l) (wr.setCell ⟨w.heap.size, 6, none⟩ (.int .i64 qn))) := Lib.hid (HPJ.out.setLast 0 (by decide) qn)
                    obtain ⟨Wf, hWf⟩ : ∃ Wf, Wf = wr.setCell ⟨w.heap.size, 6, none⟩ (.int .i64 qn) := ⟨_, rfl⟩
                    rw [← hWf] at HP7
                    clear hbm hb0 HMC
                    go_upto_region 40 with fail
                    rw [← hWf]
                    clear hWf c6 f6 z7 cn c1 cL hld
                    have HP8 : Hid (PJ w (s.pkS l) (.slice (some ⟨g, o, none⟩) s.L.length c) (nsOf s.L l) Wf.drew) := Lib.hid (by rw [HSV.out]; exact HP7.out.later ⟨rfl, rfl, rfl, Nat.le_refl _, fun _ _ => rfl⟩)
                    have hld := HP8.out.load
                    have cL := HP8.out.cL
                    have z7 := (HP8.out.below.cell (p := ⟨g, o + kb * 2, none⟩) HG.out).trans HQB.out
                    obtain ⟨cs, hcs, hres⟩ := HP8.out.res
                    have hst : (storeX ⟨w.heap.size + 1, 0, none⟩ (.agg (RC (s.pkS l) (.slice (some ⟨g, o, none⟩) s.L.length c)))).run Try.prog Wf.drew = .ok () (Wf.drew.setRow (w.heap.size + 1) (RC (s.pkS l) (.slice (some ⟨g, o, none⟩) s.L.length c))) := run_storeVar_row Wf.drew (w.heap.size + 1) 35 35 cs _ hres info35 (by rw [hcs]; rfl) (RC_one _ _ _ _)
                    have HRES := Lib.hid (setRow_heap Wf.drew (w.heap.size + 1) cs (RC (s.pkS l) (.slice (some ⟨g, o, none⟩) s.L.length c)) 35 (0, 0) hres)
                    have HBF := Lib.hid (HP8.out.below)
                    have hgl9 := HG.out
                    have z8 : (Wf.drew.setRow (w.heap.size + 1) (RC (s.pkS l) (.slice (some ⟨g, o, none⟩) s.L.length c))).cell? ⟨g, o + kb * 2, none⟩ = some (.int .i64 qn) := (World.cell?_of_block (a := ⟨g, o + kb * 2, none⟩) (w := Wf.drew) (setRow_other Wf.drew (w.heap.size + 1) g (RC (s.pkS l) (.slice (some ⟨g, o, none⟩) s.L.length c)) (by omega))).trans z7
                    have cL8 : (Wf.drew.setRow (w.heap.size + 1) (RC (s.pkS l) (.slice (some ⟨g, o, none⟩) s.L.length c))).cell? ⟨w.heap.size, 5, none⟩ = some (.slice (some ⟨g, o, none⟩) s.L.length c) := (World.cell?_of_block (a := ⟨w.heap.size, 5, none⟩) (w := Wf.drew) (setRow_other Wf.drew (w.heap.size + 1) w.heap.size (RC (s.pkS l) (.slice (some ⟨g, o, none⟩) s.L.length c)) (by omega))).trans cL
                    clear hcs hres HP7
                    refine Code.wp_mono nrm_le ?_
                    go_region
                    all_goals
                      simp only [nrm]
                      go_wp2
                      (try simp only [Exit.inBlock, Exit.then])
                      refine bodyPost_ret (v := .tuple #[.agg (RC (s.pkS l) (.slice (some ⟨g, o, none⟩) s.L.length c)), .int .i64 qn, .int .i64 (min nn bu), .int .i64 0]) ?_ rfl ⟨by rw [HPP.out, HMD.out, HMV.out], HBF.out.trans ⟨rfl, rfl, rfl, by simp, fun j hj => setRow_other _ _ j _ (by omega)⟩⟩
                      exact results_row3 (a := 4) (b := 5) (b' := 6) (b'' := 7) (ty := 35) rfl _ _ (w.heap.size + 1) 35 (RC (s.pkS l) (.slice (some ⟨g, o, none⟩) s.L.length c)) (0, 0) _ rfl HRES.out Try.underlying35 rfl info35
                  · have hcr := HMC.out hp0
                    have HMV : Hid (min nn (min bu (R pc)) = M) := Lib.hid (by have := HMM.out; unfold St.tk at this; rw [if_neg hp0, hbm] at this; rw [this]; (try (show _ = min _ (R pc); omega)))
                    have HSV : Hid (s.pkS l = { s with cr := upd R pc (R pc - M), last := upd s.last pc qn }) := Lib.hid (by rw [HSS.out]; unfold St.tkS; rw [if_neg hp0, ← HMM.out])
                    have hpi0 : 0 < (pc : Int) := by omega
                    have f6 := HPJ.out.free (6 + pc)
                    have f10 := HPJ.out.free (10 + pc)
                    have c6 := HPJ.out.cLast pc hp4
                    have c10 : wr.cell? ⟨w.heap.size, 10 + pc, none⟩ = some (.int .i64 (R pc)) := HPJ.out.cCr pc hp4
                    have z7 := (HPJ.out.below.cell (p := ⟨g, o + kb * 2, none⟩) HG.out).trans HQB.out
                    have hgl := HG.out
                    have hgn1 : ¬ g = w.heap.size := by omega
                    have hgn2 : ¬ w.heap.size = g := by omega
                    have hn5 : ¬ 5 = 10 + pc := by omega
                    have hn5' : ¬ 10 + pc = 5 := by omega
                    obtain ⟨ck, hck⟩ : ∃ ck, R pc = ck := ⟨_, rfl⟩
                    have HP6 := Lib.hid (HPJ.out.setCr pc hp4 (R pc - M))
                    have HP7 := Lib.hid (HP6.out.setLast pc hp4 qn)
                    rw [hck] at c10 hcr HP7 HMV HSV
                    obtain ⟨hcr1, hcr2⟩ := hcr
                    have hw : IntKind.i64.wrap (ck - M) = ck - M := IntWalk.i64_in _ (by omega)
                    obtain ⟨Wf, hWf⟩ : ∃ Wf, Wf = (wr.setCell ⟨w.heap.size, 10 + pc, none⟩ (.int .i64 (ck - M))).setCell ⟨w.heap.size, 6 + pc, none⟩ (.int .i64 qn) := ⟨_, rfl⟩
                    rw [← hWf] at HP7
                    clear hbm hb0 HMC HP6 hck
                    go_upto_region 38 with fail
                    rw [HMV.out]
                    go_upto_region 40 with fail
                    rw [← hWf]
                    clear hWf c6 f6 z7 cn c1 cL hld
                    have HP8 : Hid (PJ w (s.pkS l) (.slice (some ⟨g, o, none⟩) s.L.length c) (nsOf s.L l) Wf.drew) := Lib.hid (by rw [HSV.out]; exact HP7.out.later ⟨rfl, rfl, rfl, Nat.le_refl _, fun _ _ => rfl⟩)
                    have hld := HP8.out.load
                    have cL := HP8.out.cL
                    have z7 := (HP8.out.below.cell (p := ⟨g, o + kb * 2, none⟩) HG.out).trans HQB.out
                    obtain ⟨cs, hcs, hres⟩ := HP8.out.res
                    have hst : (storeX ⟨w.heap.size + 1, 0, none⟩ (.agg (RC (s.pkS l) (.slice (some ⟨g, o, none⟩) s.L.length c)))).run Try.prog Wf.drew = .ok () (Wf.drew.setRow (w.heap.size + 1) (RC (s.pkS l) (.slice (some ⟨g, o, none⟩) s.L.length c))) := run_storeVar_row Wf.drew (w.heap.size + 1) 35 35 cs _ hres info35 (by rw [hcs]; rfl) (RC_one _ _ _ _)
                    have HRES := Lib.hid (setRow_heap Wf.drew (w.heap.size + 1) cs (RC (s.pkS l) (.slice (some ⟨g, o, none⟩) s.L.length c)) 35 (0, 0) hres)
                    have HBF := Lib.hid (HP8.out.below)
                    have hgl9 := HG.out
                    have z8 : (Wf.drew.setRow (w.heap.size + 1) (RC (s.pkS l) (.slice (some ⟨g, o, none⟩) s.L.length c))).cell? ⟨g, o + kb * 2, none⟩ = some (.int .i64 qn) := (World.cell?_of_block (a := ⟨g, o + kb * 2, none⟩) (w := Wf.drew) (setRow_other Wf.drew (w.heap.size + 1) g (RC (s.pkS l) (.slice (some ⟨g, o, none⟩) s.L.length c)) (by omega))).trans z7
                    have cL8 : (Wf.drew.setRow (w.heap.size + 1) (RC (s.pkS l) (.slice (some ⟨g, o, none⟩) s.L.length c))).cell? ⟨w.heap.size, 5, none⟩ = some (.slice (some ⟨g, o, none⟩) s.L.length c) := (World.cell?_of_block (a := ⟨w.heap.size, 5, none⟩) (w := Wf.drew) (setRow_other Wf.drew (w.heap.size + 1) w.heap.size (RC (s.pkS l) (.slice (some ⟨g, o, none⟩) s.L.length c)) (by omega))).trans cL
                    clear hcs hres HP7
                    refine Code.wp_mono nrm_le ?_
                    go_region
                    all_goals
                      simp only [nrm]
                      go_wp2
                      (try simp only [Exit.inBlock, Exit.then])
                      refine bodyPost_ret (v := .tuple #[.agg (RC (s.pkS l) (.slice (some ⟨g, o, none⟩) s.L.length c)), .int .i64 qn, .int .i64 (M), .int .i64 0]) ?_ rfl ⟨by rw [HPP.out, HMD.out], HBF.out.trans ⟨rfl, rfl, rfl, by simp, fun j hj => setRow_other _ _ j _ (by omega)⟩⟩
                      exact results_row3 (a := 4) (b := 5) (b' := 6) (b'' := 7) (ty := 35) rfl _ _ (w.heap.size + 1) 35 (RC (s.pkS l) (.slice (some ⟨g, o, none⟩) s.L.length c)) (0, 0) _ rfl HRES.out Try.underlying35 rfl info35
end Go.Proofs.Ytildofclgofjdaa
