/- The contract of the reference's Pick: loads that are not accepted. Conditions stand in each theorem. -/
import Derived.Test.YtildofclgofjdaaZI
namespace Go.Proofs.Ytildofclgofjdaa
open Go.RowKit Go.Shelf
set_option linter.unusedVariables false
set_option maxHeartbeats 4000000
set_option maxRecDepth 100000
attribute [local go_sem ↓ 100000] loadX_eq storeX_eq
theorem brow_at (bs : List Bool) (k : Nat) (h : k < bs.length) : (brow bs)[k]? = some (.bool bs[k]) := by simp [brow, h]
theorem irow_at (ns : List Int) (k : Nat) (h : k < ns.length) : (irow ns)[k]? = some (.int .i64 ns[k]) := by simp [irow, h]
def PErr (w : World) (s : St) (v : Value) (e : Ending) (w' : World) : Prop := e = .returned (.tuple #[.agg (RC s v), .int .i64 0, .int .i64 0, .int .i64 2]) ∧ Below w.heap.size w w'
theorem rpick_bad (s : St) (v vl : Value) (l : List (Int × Int)) (w : World) (hl : Lds w v s.L) (hs : Srt s.L) (hv : Lds w vl l) (hR : Rng l) (hm : l.length ≤ 30) (ha : acc s.L [] l = false) :
    Calls Try.prog 29 #[.agg (RC s v), vl] w (PErr w s v) := by
  have HL := Lib.hid hl
  have HV := Lib.hid hv
  have HS := Lib.hid hs
  have hlen := hs.len
  have hlen2 : (s.L.length : Int) ≤ 65536 := by omega
  have hm2 : (l.length : Int) ≤ 30 := by omega
  have HA := Lib.hid ha
  obtain ⟨A, c, rfl, _, _⟩ := hl
  obtain ⟨Al, cl, rfl, _, hrl⟩ := hv
  have HRL := Lib.hid hrl
  have HAT := Lib.hid (fun (W : World) (hW : Below w.heap.size w W) (q : Int) => at_any s (.slice A s.L.length c) q W (HL.out.below hW) (by omega))
  have mk1 := make_52 s.L.length (by omega)
  have mk2 := make_97 s.L.length (by omega)
  obtain ⟨cs, hcs⟩ : ∃ cs : Array Value, cs = #[.bool false, .int .i64 0, .int .i64 0, .int .i64 0, .int .i64 0, .slice none 0 0, .int .i64 0, .int .i64 0, .int .i64 0, .int .i64 0, .int .i64 0, .int .i64 0, .int .i64 0, .int .i64 0] := ⟨_, rfl⟩
  have HP0 := Lib.hid (PI.start (w := w) (s := s) (v := .slice A s.L.length c) (cs := cs) (by rw [hcs]; rfl))
  rw [hcs] at HP0
  clear hs ha hrl hcs
  obtain ⟨E, hE⟩ : ∃ E, E = (((w.alloc (.cells (RC s (.slice A s.L.length c)) 35)).alloc (.cells #[.bool false, .int .i64 0, .int .i64 0, .int .i64 0, .int .i64 0, .slice none 0 0, .int .i64 0, .int .i64 0, .int .i64 0, .int .i64 0, .int .i64 0, .int .i64 0, .int .i64 0, .int .i64 0] 35)).alloc (.cells (irow (List.replicate s.L.length 0)) 3)).alloc (.cells (brow (List.replicate s.L.length false)) 4) := ⟨_, rfl⟩
  rw [← hE] at HP0
  unfold RC at hE ⊢
  go_enter Try.func29, Try.ntmps29
  go_upto_region 4 with fail
  rw [← hE]
  clear hE mk1 mk2
  go_loopw [10] (fun i wr => ∃ (k : Nat), k ≤ l.length ∧ i = .int .i64 k ∧ Hid (PI w s (.slice A s.L.length c) (l.take k) wr) ∧ Hid (∀ j (hj : j < l.length), j < k → (look s.L l[j].1).isSome = true ∧ 0 ≤ l[j].2 ∧ ([] : List Int).contains l[j].1 = false ∧ look (l.take j) l[j].1 = none)) (fun i _ => l.length - (RowKit.intOf i).toNat)
  case atStart => exact ⟨0, Nat.zero_le _, rfl, HP0, fun j hj h => absurd h (by omega)⟩
  case round =>
    obtain ⟨k, hk, rfl, HP, HACC⟩ := hrel
    by_cases hlt : k < l.length
    · obtain ⟨g, o, rfl, hg, hcell⟩ := HRL.out (by omega)
      have HD := Lib.hid (HP.out.later (Below.refl _ _).drew)
      obtain ⟨x1, x2⟩ := hcell k hlt
      have c1 := (HD.out.below.cell (p := ⟨g, o + k * 2, none⟩) hg).trans x1
      have HX2 := Lib.hid x2
      have HG := Lib.hid hg
      have hld : (loadX ⟨w.heap.size, 0, none⟩).run Try.prog wr.drew = .ok (.agg (RC s (.slice A s.L.length c))) wr.drew := run_loadVar_row _ w.heap.size 35 35 _ (0, 0) _ HD.out.row Try.underlying35 rfl info35
      have HXX := Lib.hid (HAT.out wr.drew HD.out.below l[k].1)
      have HSN := Lib.hid (List.take_succ_eq_append_getElem hlt)
      have HACN : Hid ((look s.L l[k].1).isSome = true → 0 ≤ l[k].2 → look (l.take k) l[k].1 = none → ∀ j (hj : j < l.length), j < k + 1 → (look s.L l[j].1).isSome = true ∧ 0 ≤ l[j].2 ∧ ([] : List Int).contains l[j].1 = false ∧ look (l.take j) l[j].1 = none) := Lib.hid (fun h1 h2 h3 j hj hjk => by
        rcases Nat.lt_or_ge j k with h | h
        · exact HACC.out j hj h
        · have : j = k := by omega
          subst this
          exact ⟨h1, h2, rfl, h3⟩)
      clear x1 x2 hcell hg HP HP0
      obtain ⟨x, hx⟩ : ∃ x, x = l[k] := ⟨_, rfl⟩
      rw [← hx] at c1 HX2 HXX HSN HACN
      clear hx
      obtain ⟨q, n⟩ := x
      dsimp only at c1
      go_upto_region 6 with fail
      refine Code.wp_mono nrm_le ?_
      go_region_with (go_at_call 39; refine HXX.out.mono ?_; rintro e w3 ⟨i, rfl, hb, hcase⟩; have HP3 := Lib.hid (HD.out.later hb); have HCS := Lib.hid hcase; clear hb hcase)
      all_goals
        simp only [nrm]
        obtain ⟨cs, hcs, hres⟩ := HP3.out.res
        have hl3 : (loadX ⟨w.heap.size, 0, none⟩).run Try.prog w3 = .ok (.agg (RC s (.slice A s.L.length c))) w3 := run_loadVar_row _ w.heap.size 35 35 _ (0, 0) _ HP3.out.row Try.underlying35 rfl info35
        have hst : (storeX ⟨w.heap.size + 1, 0, none⟩ (.agg (RC s (.slice A s.L.length c)))).run Try.prog w3 = .ok () (w3.setRow (w.heap.size + 1) (RC s (.slice A s.L.length c))) := run_storeVar_row w3 (w.heap.size + 1) 35 35 cs _ hres info35 (by rw [hcs]; rfl) (RC_one _ _ _ _)
        have HFIN : Hid (PErr w s (.slice A s.L.length c) (.returned (.tuple #[.agg (RC s (.slice A s.L.length c)), .int .i64 0, .int .i64 0, .int .i64 2])) (w3.setRow (w.heap.size + 1) (RC s (.slice A s.L.length c)))) := Lib.hid ⟨rfl, HP3.out.below.trans ⟨rfl, rfl, rfl, by simp, fun j hj => setRow_other _ _ j _ (by omega)⟩⟩
        have HRES := Lib.hid (setRow_heap w3 (w.heap.size + 1) cs (RC s (.slice A s.L.length c)) 35 (0, 0) hres)
        have c2 := (HP3.out.below.cell (p := ⟨g, o + k * 2 + 1, none⟩) HG.out).trans HX2.out
        (try dsimp only at c2)
        clear hres hcs c1 hld
        rcases HCS.out with ⟨rfl, hn⟩ | ⟨k', hk', rfl, he⟩
        · clear HCS hn
          go_wp2
          (try simp only [Exit.inBlock, Exit.then])
          refine bodyPost_ret (v := .tuple #[.agg (RC s (.slice A s.L.length c)), .int .i64 0, .int .i64 0, .int .i64 2]) ?_ rfl HFIN.out
          exact results_row3 (a := 4) (b := 5) (b' := 6) (b'' := 7) (ty := 35) rfl _ _ (w.heap.size + 1) 35 (RC s (.slice A s.L.length c)) (0, 0) _ rfl HRES.out Try.underlying35 rfl info35
        · have csn : w3.cell? ⟨w.heap.size + 3, k', none⟩ = some (.bool (look (l.take k) q).isSome) := by
            rw [cell_of_row w3 _ k' _ 4 (0, 0) HP3.out.snr, brow_at _ k' (by rw [snOf_length]; exact hk')]
            simp [snOf, he]
          have cns : ∃ y, w3.cell? ⟨w.heap.size + 2, k', none⟩ = some (.int .i64 y) := ⟨_, by rw [cell_of_row w3 _ k' _ 3 (0, 0) HP3.out.nsr, irow_at _ k' (by rw [nsOf_length]; exact hk')]⟩
          obtain ⟨y, cns⟩ := cns
          have fns := frozen_of_row w3 (w.heap.size + 2) k' _ 3 HP3.out.nsr
          have fsn := frozen_of_row w3 (w.heap.size + 3) k' _ 4 HP3.out.snr
          have hk2 : (k' : Int) ≤ 65536 := by omega
          have HLK : Hid ((look s.L q).isSome = true) := Lib.hid (by
            have : look s.L s.L[k'].1 = some s.L[k'].2 := look_of_mem HS.out (by exact List.getElem_mem hk')
            rw [← he, this]; rfl)
          have HPUT : Hid (look (l.take k) q = none → PI w s (.slice A s.L.length c) (l.take (k + 1)) ((w3.setCell ⟨w.heap.size + 2, k', none⟩ (.int .i64 n)).setCell ⟨w.heap.size + 3, k', none⟩ (.bool true))) := Lib.hid (fun h => by
            rw [HSN.out]
            exact HP3.out.put HS.out hk' he h)
          clear HCS he
          by_cases hneg : n < 0
          · clear csn cns fns fsn
            go_wp2
            (try simp only [Exit.inBlock, Exit.then])
            refine bodyPost_ret (v := .tuple #[.agg (RC s (.slice A s.L.length c)), .int .i64 0, .int .i64 0, .int .i64 2]) ?_ rfl HFIN.out
            exact results_row3 (a := 4) (b := 5) (b' := 6) (b'' := 7) (ty := 35) rfl _ _ (w.heap.size + 1) 35 (RC s (.slice A s.L.length c)) (0, 0) _ rfl HRES.out Try.underlying35 rfl info35
          · cases hlk : (look (l.take k) q).isSome
            · have hnone : look (l.take k) q = none := by cases e : look (l.take k) q; rfl; rw [e] at hlk; cases hlk
              rw [hlk] at csn
              have HQ := Lib.hid (HPUT.out hnone)
              have HAN := Lib.hid (HACN.out HLK.out (by show 0 ≤ n; omega) hnone)
              clear hlk hnone
              go_wp2
              go_roundw
              case rel => exact ⟨k + 1, by omega, by go_num, HQ, HAN⟩
              case measure => simp [RowKit.intOf]; omega
            · rw [hlk] at csn
              clear hlk cns fns fsn
              go_wp2
              (try simp only [Exit.inBlock, Exit.then])
              refine bodyPost_ret (v := .tuple #[.agg (RC s (.slice A s.L.length c)), .int .i64 0, .int .i64 0, .int .i64 2]) ?_ rfl HFIN.out
              exact results_row3 (a := 4) (b := 5) (b' := 6) (b'' := 7) (ty := 35) rfl _ _ (w.heap.size + 1) 35 (RC s (.slice A s.L.length c)) (0, 0) _ rfl HRES.out Try.underlying35 rfl info35
    · exfalso
      have : k = l.length := by omega
      have h1 := (acc_iff s.L l []).2 fun i hi => HACC.out i hi (by omega)
      rw [HA.out] at h1
      cases h1
end Go.Proofs.Ytildofclgofjdaa
