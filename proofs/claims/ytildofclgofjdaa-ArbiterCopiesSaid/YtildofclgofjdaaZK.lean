/- The contract of the reference's Pick: loads that are accepted, none of which waits. Conditions stand in each theorem. -/
import Derived.Test.YtildofclgofjdaaZJ
namespace Go.Proofs.Ytildofclgofjdaa
open Go.RowKit Go.Shelf
set_option linter.unusedVariables false
set_option maxHeartbeats 4000000
set_option maxRecDepth 100000
attribute [local go_sem ↓ 100000] loadX_eq storeX_eq
theorem PI.ints {w W : World} {s : St} {v : Value} {l : List (Int × Int)} (h : PI w s v l W) : Ints W (.slice (some ⟨w.heap.size + 2, 0, none⟩) s.L.length s.L.length) (nsOf s.L l) := by
  refine ⟨some ⟨w.heap.size + 2, 0, none⟩, s.L.length, by rw [nsOf_length], by rw [nsOf_length]; exact Nat.le_refl _, fun _ => ⟨_, 0, rfl, (Array.getElem?_eq_some_iff.1 h.nsr).1, fun j hj => ?_⟩⟩
  rw [Nat.zero_add, cell_of_row W _ j _ 3 (0, 0) h.nsr, irow_at _ j hj]
theorem PI.load {w W : World} {s : St} {A : Option Addr} {n c : Nat} {l : List (Int × Int)} (h : PI w s (.slice A n c) l W) : (loadX ⟨w.heap.size, 0, none⟩).run Try.prog W = .ok (.agg (RC s (.slice A n c))) W :=
  run_loadVar_row _ w.heap.size 35 35 _ (0, 0) _ h.row Try.underlying35 rfl info35
theorem waB_none {s : St} {l : List (Int × Int)} (h : anyB l = false) (c : Int) : waB s (nsOf s.L l) c = false := by
  refine waB_no fun k hk h1 _ => ?_
  rw [nsOf_at hk] at h1
  cases e : look l s.L[k].1 with
  | none => rw [e] at h1; simp at h1
  | some n =>
    rw [e] at h1
    have hm := look_mem e
    have : anyB l = true := by unfold anyB; exact List.any_eq_true.2 ⟨_, hm, decide_eq_true h1⟩
    rw [h] at this
    cases this
def PErr9 (w : World) (s : St) (v : Value) (e : Ending) (w' : World) : Prop := e = .returned (.tuple #[.agg (RC s v), .int .i64 0, .int .i64 0, .int .i64 9]) ∧ Below w.heap.size w w'
theorem rpick_none (s : St) (v vl : Value) (l : List (Int × Int)) (w : World) (hl : Lds w v s.L) (hs : Srt s.L) (hv : Lds w vl l) (hR : Rng l) (hm : l.length ≤ 30) (ha : acc s.L [] l = true) (hb : anyB l = false) :
    Calls Try.prog 29 #[.agg (RC s v), vl] w (PErr9 w s v) := by
  have HL := Lib.hid hl
  have HV := Lib.hid hv
  have HS := Lib.hid hs
  have hlen := hs.len
  have hlen2 : (s.L.length : Int) ≤ 65536 := by omega
  have hm2 : (l.length : Int) ≤ 30 := by omega
  have HA := Lib.hid ((acc_iff s.L l []).1 ha)
  have HWA := Lib.hid (fun c : Int => waB_none (s := s) hb c)
  obtain ⟨A, c, rfl, _, _⟩ := hl
  obtain ⟨Al, cl, rfl, _, hrl⟩ := hv
  have HRL := Lib.hid hrl
  have HAT := Lib.hid (fun (W : World) (hW : Below w.heap.size w W) (q : Int) => at_any s (.slice A s.L.length c) q W (HL.out.below hW) (by omega))
  have mk1 := make_52 s.L.length (by omega)
  have mk2 := make_97 s.L.length (by omega)
  obtain ⟨cs, hcs⟩ : ∃ cs : Array Value, cs = #[.bool false, .int .i64 0, .int .i64 0, .int .i64 0, .int .i64 0, .slice none 0 0, .int .i64 0, .int .i64 0, .int .i64 0, .int .i64 0, .int .i64 0, .int .i64 0, .int .i64 0, .int .i64 0] := ⟨_, rfl⟩
  have HP0 := Lib.hid (PI.start (w := w) (s := s) (v := .slice A s.L.length c) (cs := cs) (by rw [hcs]; rfl))
  rw [hcs] at HP0
  have HWT := Lib.hid (fun (W : World) (hW : PI w s (.slice A s.L.length c) l W) (k : Int) => (show Calls Try.prog 45 #[.agg (RC s (.slice A s.L.length c)), .slice (some ⟨w.heap.size + 2, 0, none⟩) s.L.length s.L.length, .int .i64 k] W fun e w' => e = .returned (.bool false) ∧ Below W.heap.size W w' from (waits_ref s _ _ (nsOf s.L l) k W (HL.out.below hW.below) hs hW.ints (nsOf_length _ _)).mono fun e w' h => by rwa [HWA.out k] at h))
  clear hs ha hb hrl hcs
  obtain ⟨E, hE⟩ : ∃ E, E = (((w.alloc (.cells (RC s (.slice A s.L.length c)) 35)).alloc (.cells #[.bool false, .int .i64 0, .int .i64 0, .int .i64 0, .int .i64 0, .slice none 0 0, .int .i64 0, .int .i64 0, .int .i64 0, .int .i64 0, .int .i64 0, .int .i64 0, .int .i64 0, .int .i64 0] 35)).alloc (.cells (irow (List.replicate s.L.length 0)) 3)).alloc (.cells (brow (List.replicate s.L.length false)) 4) := ⟨_, rfl⟩
  rw [← hE] at HP0
  unfold RC at hE ⊢
  go_enter Try.func29, Try.ntmps29
  go_upto_region 4 with fail
  rw [← hE]
  clear hE mk1 mk2
  go_loopw [10] (fun i wr => ∃ (k : Nat), k ≤ l.length ∧ i = .int .i64 k ∧ Hid (PI w s (.slice A s.L.length c) (l.take k) wr) ∧ Hid (∀ j (hj : j < l.length), j < k → (look s.L l[j].1).isSome = true ∧ 0 ≤ l[j].2 ∧ ([] : List Int).contains l[j].1 = false ∧ look (l.take j) l[j].1 = none)) (fun i _ => l.length - (RowKit.intOf i).toNat)
  case atStart => exact ⟨0, Nat.zero_le _, rfl, HP0, fun j hj h => absurd h (by omega)⟩
  case round =>
    obtain ⟨k, hk, rfl, HP, HACC⟩ := hrel
    by_cases hlt : k < l.length
    · obtain ⟨g, o, rfl, hg, hcell⟩ := HRL.out (by omega)
      have HD := Lib.hid (HP.out.later (Below.refl _ _).drew)
      obtain ⟨x1, x2⟩ := hcell k hlt
      have c1 := (HD.out.below.cell (p := ⟨g, o + k * 2, none⟩) hg).trans x1
      have HX2 := Lib.hid x2
      have HG := Lib.hid hg
      have hld : (loadX ⟨w.heap.size, 0, none⟩).run Try.prog wr.drew = .ok (.agg (RC s (.slice A s.L.length c))) wr.drew := run_loadVar_row _ w.heap.size 35 35 _ (0, 0) _ HD.out.row Try.underlying35 rfl info35
      have HXX := Lib.hid (HAT.out wr.drew HD.out.below l[k].1)
      have HAK := Lib.hid (HA.out k hlt)
      have HSN := Lib.hid (List.take_succ_eq_append_getElem hlt)
      have HACN : Hid ((look s.L l[k].1).isSome = true → 0 ≤ l[k].2 → look (l.take k) l[k].1 = none → ∀ j (hj : j < l.length), j < k + 1 → (look s.L l[j].1).isSome = true ∧ 0 ≤ l[j].2 ∧ ([] : List Int).contains l[j].1 = false ∧ look (l.take j) l[j].1 = none) := Lib.hid (fun h1 h2 h3 j hj hjk => by
        rcases Nat.lt_or_ge j k with h | h
        · exact HACC.out j hj h
        · have : j = k := by omega
          subst this
          exact ⟨h1, h2, rfl, h3⟩)
      clear x1 x2 hcell hg HP HP0
      obtain ⟨x, hx⟩ : ∃ x, x = l[k] := ⟨_, rfl⟩
      rw [← hx] at c1 HX2 HXX HSN HACN HAK
      clear hx
      obtain ⟨q, n⟩ := x
      dsimp only at c1
      go_upto_region 6 with fail
      refine Code.wp_mono nrm_le ?_
      go_region_with (go_at_call 39; refine HXX.out.mono ?_; rintro e w3 ⟨i, rfl, hb, hcase⟩; have HP3 := Lib.hid (HD.out.later hb); have HCS := Lib.hid hcase; clear hb hcase)
      all_goals
        simp only [nrm]
        have c2 := (HP3.out.below.cell (p := ⟨g, o + k * 2 + 1, none⟩) HG.out).trans HX2.out
        (try dsimp only at c2)
        clear c1 hld
        rcases HCS.out with ⟨rfl, hn⟩ | ⟨k', hk', rfl, he⟩
        · exfalso
          obtain ⟨kk, hkk, he⟩ := look_idx (HAK.out).1
          exact hn _ (List.getElem_mem hkk) he
        · have csn : w3.cell? ⟨w.heap.size + 3, k', none⟩ = some (.bool (look (l.take k) q).isSome) := by
            rw [cell_of_row w3 _ k' _ 4 (0, 0) HP3.out.snr, brow_at _ k' (by rw [snOf_length]; exact hk')]
            simp [snOf, he]
          have cns : ∃ y, w3.cell? ⟨w.heap.size + 2, k', none⟩ = some (.int .i64 y) := ⟨_, by rw [cell_of_row w3 _ k' _ 3 (0, 0) HP3.out.nsr, irow_at _ k' (by rw [nsOf_length]; exact hk')]⟩
          obtain ⟨y, cns⟩ := cns
          have fns := frozen_of_row w3 (w.heap.size + 2) k' _ 3 HP3.out.nsr
          have fsn := frozen_of_row w3 (w.heap.size + 3) k' _ 4 HP3.out.snr
          have hk2 : (k' : Int) ≤ 65536 := by omega
          have HLK : Hid ((look s.L q).isSome = true) := Lib.hid (by
            have : look s.L s.L[k'].1 = some s.L[k'].2 := look_of_mem HS.out (by exact List.getElem_mem hk')
            rw [← he, this]; rfl)
          have HPUT : Hid (look (l.take k) q = none → PI w s (.slice A s.L.length c) (l.take (k + 1)) ((w3.setCell ⟨w.heap.size + 2, k', none⟩ (.int .i64 n)).setCell ⟨w.heap.size + 3, k', none⟩ (.bool true))) := Lib.hid (fun h => by
            rw [HSN.out]
            exact HP3.out.put HS.out hk' he h)
          clear HCS he
          have hneg : ¬ n < 0 := by have := HAK.out.2.1; (try dsimp only at this); omega
          have hnone : look (l.take k) q = none := HAK.out.2.2.2
          rw [hnone] at csn
          have HQ := Lib.hid (HPUT.out hnone)
          have HAN := Lib.hid (HACN.out HLK.out (by show 0 ≤ n; omega) hnone)
          clear hnone
          go_wp2
          go_roundw
          case rel => exact ⟨k + 1, by omega, by go_num, HQ, HAN⟩
          case measure => simp [RowKit.intOf]; omega
    · have hkl : k = l.length := by omega
      subst hkl
      have HPL : Hid (PI w s (.slice A s.L.length c) l wr) := by have := HP.out; rw [List.take_length] at this; exact this
      clear HP HACC hk hlt HP0
      have hld := HPL.out.load
      go_wp2
      refine wp_loop_rounds 4 ?_
      rw [rounds_succ]
      go_wp2_with (go_at_call 45; refine (HWT.out _ HPL.out _).mono ?_; rintro e w4 ⟨rfl, hb4⟩; have HP4 := Lib.hid (HPL.out.later hb4); have hld4 := HP4.out.load; clear hb4)
      rw [rounds_succ]
      go_wp2_with (go_at_call 45; refine (HWT.out _ HP4.out _).mono ?_; rintro e w5 ⟨rfl, hb5⟩; have HP5 := Lib.hid (HP4.out.later hb5); have hld5 := HP5.out.load; clear hb5)
      rw [rounds_succ]
      go_wp2_with (go_at_call 45; refine (HWT.out _ HP5.out _).mono ?_; rintro e w6 ⟨rfl, hb6⟩; have HP6 := Lib.hid (HP5.out.later hb6); have hld6 := HP6.out.load; clear hb6)
      rw [rounds_succ]
      go_wp2_with (go_at_call 45; refine (HWT.out _ HP6.out _).mono ?_; rintro e w7 ⟨rfl, hb7⟩; have HP7 := Lib.hid (HP6.out.later hb7); have hld7 := HP7.out.load; obtain ⟨cs, hcs, hres⟩ := HP7.out.res; have hst : (storeX ⟨w.heap.size + 1, 0, none⟩ (.agg (RC s (.slice A s.L.length c)))).run Try.prog w7 = .ok () (w7.setRow (w.heap.size + 1) (RC s (.slice A s.L.length c))) := run_storeVar_row w7 (w.heap.size + 1) 35 35 cs _ hres info35 (by rw [hcs]; rfl) (RC_one _ _ _ _); have HRES := Lib.hid (setRow_heap w7 (w.heap.size + 1) cs (RC s (.slice A s.L.length c)) 35 (0, 0) hres); clear hb7 hcs hres)
      (try simp only [Exit.inBlock, Exit.then])
      refine bodyPost_ret (v := .tuple #[.agg (RC s (.slice A s.L.length c)), .int .i64 0, .int .i64 0, .int .i64 9]) ?_ rfl ⟨rfl, HP7.out.below.trans ⟨rfl, rfl, rfl, by simp, fun j hj => setRow_other _ _ j _ (by omega)⟩⟩
      exact results_row3 (a := 4) (b := 5) (b' := 6) (b'' := 7) (ty := 35) rfl _ _ (w.heap.size + 1) 35 (RC s (.slice A s.L.length c)) (0, 0) _ rfl HRES.out Try.underlying35 rfl info35
end Go.Proofs.Ytildofclgofjdaa
