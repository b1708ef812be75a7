/- A device and its reference after some calls: started. Conditions stand in each theorem. -/
import Derived.Test.YtddejcoagcaidaaDS
import Derived.Test.YtddejcoagcaidaaFK
import Derived.RegionTactic
namespace Go.Proofs.Ytddejcoagcaidaa
open Go.RowKit
set_option linter.unusedVariables false
set_option maxHeartbeats 16000000
set_option maxRecDepth 100000
attribute [local go_sem ↓ 100000] loadX_eq storeX_eq
theorem results_t3 {P : Program} {fn : Func} {a b c : Tmp} {ty : TypeId} (h : fn.results = #[.tmp a, .cell b ty, .tmp c]) (tmps : Array Value) (w : World) (g : Nat) (t : TypeId) (cs : Array Value) (fr : Nat × Nat) (d : TypeDesc) (ha : tmps.getD b undef = .pointer (some ⟨g, 0, none⟩)) (hg : w.heap[g]? = some (.cells cs t fr))
    (hu : P.underlying ty = some d) (hd : (match d with | .struct _ | .array _ _ => true | _ => false) = true) (hi : (P.info? ty).map (·.size) = some cs.size) : (results fn tmps).run P w = .ok (.tuple #[tmps.getD a undef, .agg cs, tmps.getD c undef]) w := by
  have e := run_loadVar_row (P := P) w g t ty cs fr d hg hu hd hi
  have ha2 : tmps[b]?.getD undef = .pointer (some ⟨g, 0, none⟩) := by simpa using ha
  simp [results, h, ha2, asAddr, e]
theorem nb_act (s : Dev) (X : KA) : (actS s X).nb = s.nb := by
  unfold actS
  split
  · exact (nb_pr s _ _ _ _).1
  · split
    · exact (nb_er s _).1
    · split
      · rfl
      · split
        · exact (nb_cu s _ _).1
        · rfl
/-- A new device under a bound. -/
def Dev.low (s : Dev) (l : Nat) : Dev := { s with lo := l }
theorem Dv.relo {w : World} {base b g m l : Nat} {V : Nat → Value} {s : Dev} (h : Dv w base b g m V s) (hp : ∀ i, (s.bk i).pg = []) (hl : l ≤ base) : Dv w base b g m V (s.low l) :=
  ⟨h.blk, h.hb, h.hg, h.hm, h.grid, fun i hi => by
    obtain ⟨xs, h1, h2⟩ := h.row i hi
    refine ⟨xs, h1, ?_⟩
    have e := h1.1
    rw [hp i] at e
    have e2 : xs = [] := List.eq_nil_of_length_eq_zero (by simpa using e)
    subst e2
    show Rws l w [] (s.bk i).pg
    rw [hp i]
    trivial, h.apart, h.flt, hl⟩
theorem Rd.relo {w : World} {fs : List Int} {s : Dev} {vf vp ve : Value} {pb : Int} {l : Nat} (h : Rd w fs s vf vp ve pb) (hp : ∀ i, (s.bk i).pg = []) : Rd w fs (s.low l) vf vp ve pb := by
  refine ⟨h.flt, h.mem, ?_, h.ers, h.cut, h.pb0⟩
  obtain ⟨g, c, cur, e, hc, h1, h2⟩ := h.grid
  refine ⟨g, c, cur, e, hc, h1, fun i hi => ?_⟩
  obtain ⟨pv, h3, g2, c2, cur2, e2, hc2, k1, k2⟩ := h2 i hi
  refine ⟨pv, h3, g2, c2, cur2, e2, hc2, k1, fun j hj => ?_⟩
  obtain ⟨h4, bv, h5, _, h7⟩ := k2 j hj
  have e1 : (pgF s i j).st = 1 := by unfold pgF; rw [hp i]; rfl
  refine ⟨h4, bv, h5, fun ht => ?_, h7⟩
  have e3 : (pgF (s.low l) i j).st = 1 := e1
  rw [e3] at ht
  rcases ht with ht | ht <;> exact absurd ht (by decide)
theorem gd_low {s : Dev} (h : Gd s) (l : Nat) : Gd (s.low l) := ⟨h.nb, h.np, h.sz, h.en, h.er, h.pg, h.pb, h.n, h.ln⟩
theorem lo_exS (s : Dev) (i : Nat) (a b c : Bk) : (s.exS i a b c).lo = s.lo := by
  unfold Dev.exS
  split
  · rfl
  · split <;> rfl
theorem lo_act (s : Dev) (X : KA) : (actS s X).lo = s.lo := by
  unfold actS
  split
  · unfold Dev.prS
    split
    · exact lo_exS s _ _ _ _
    · rfl
  · split
    · unfold Dev.erS
      split
      · exact lo_exS (s.e1 X.bl.toNat) _ _ _ _
      · rfl
    · split
      · rfl
      · split
        · unfold Dev.cuS
          split <;> rfl
        · rfl
/-- What started leaves. -/
def StP (w : World) (nb : Nat) (xs : List Int) (k : Nat) (e : Ending) (w' : World) : Prop := ∃ b g m V s vf vp ve pb, e = .returned (.tuple #[.pointer (some ⟨b, 0, none⟩), .agg (rdv s vf vp ve pb), .bool true]) ∧ Dv w' w.heap.size b g m V s ∧ Gd s ∧ Rd w' xs s vf vp ve pb ∧ s.n ≤ (k : Int) ∧ (s.nb = nb ∧ s.lo = w.heap.size ∧ Len s) ∧ Below w.heap.size w w'
/-- A device and its reference after k calls, with as many blocks. -/
def PN (w : World) (b g m D nb : Nat) (xs : List Int) (k : Nat) (W : World) : Prop := ∃ V s vf vp ve pb, Dv W w.heap.size b g m V s ∧ Gd s ∧ Rd W xs s vf vp ve pb ∧ s.n ≤ (k : Int) ∧ (s.nb = nb ∧ s.lo = w.heap.size ∧ Len s) ∧ W.heap[D]? = some (.cells (rdv s vf vp ve pb) 35 (0, 0))
theorem ps_rel2 {w wx : World} {bb gg mm D : Nat} {xs : List Int} {S1 : Dev} {R0 : Array Value} {a b : Value} (h : ∃ (Y : Nat) (R3 : Array Value) (vf1 vp1 ve1 : Value) (pb1 : Int), a = .pointer (some ⟨Y, 0, none⟩) ∧ b = .bool true ∧ Hid (wx.heap[Y]? = some (.cells R3 35 (0, 0))) ∧ Hid (R3 = rdv S1 vf1 vp1 ve1 pb1 ∧ Rd wx xs S1 vf1 vp1 ve1 pb1) ∧ Hid (∃ V', Dv wx w.heap.size bb gg mm V' S1) ∧ Hid (wx.heap[D]? = some (.cells R0 35 (0, 0))) ∧ Hid (Below w.heap.size w wx) ∧ Hid (Y ≠ D ∧ w.heap.size ≤ Y)) (h2 : wx.heap[w.heap.size + 1]? = some (.cells #[.int .i64 0, .int .i64 0, .int .i64 0, .int .i64 0, .slice none 0 0, .slice none 0 0, .slice none 0 0, .int .i64 0, .int .i64 0, .int .i64 0, .bool false] 35 (0, 0))) :
    ∃ (Y : Nat) (R3 : Array Value) (vf1 vp1 ve1 : Value) (pb1 : Int), a = .pointer (some ⟨Y, 0, none⟩) ∧ b = .bool true ∧ Hid (wx.heap[Y]? = some (.cells R3 35 (0, 0))) ∧ Hid (R3 = rdv S1 vf1 vp1 ve1 pb1 ∧ Rd wx xs S1 vf1 vp1 ve1 pb1) ∧ Hid (∃ V', Dv wx w.heap.size bb gg mm V' S1) ∧ Hid (wx.heap[D]? = some (.cells R0 35 (0, 0))) ∧ Hid (Below w.heap.size w wx) ∧ Hid (Y ≠ D ∧ w.heap.size ≤ Y) ∧ Hid (wx.heap[w.heap.size + 1]? = some (.cells #[.int .i64 0, .int .i64 0, .int .i64 0, .int .i64 0, .slice none 0 0, .slice none 0 0, .slice none 0 0, .int .i64 0, .int .i64 0, .int .i64 0, .bool false] 35 (0, 0))) := by
  obtain ⟨Y, R3, vf1, vp1, ve1, pb1, p1, p2, p3, p4, p5, p6, p7, p8⟩ := h
  exact ⟨Y, R3, vf1, vp1, ve1, pb1, p1, p2, p3, p4, p5, p6, p7, p8, Lib.hid h2⟩
theorem started_ok (nb np sz : Nat) (en : Int) (vf vl : Value) (xs : List Int) (L : List KA) (w : World) (hx : Ints w vf xs) (hR : ∀ x ∈ xs, I64 x) (hL : Acts w vl L) (hok : ∀ e ∈ L, KA.ok w e)
    (hl : xs.length ≤ 20) (hfew : L.length ≤ 40 ∧ ∀ e ∈ L, e.x.length ≤ 100 ∧ e.y.length ≤ 100) (hv : valB nb np sz en = true) (hpos : posB xs = true) : Calls Try.prog 17 #[.agg #[.int .i64 (nb : Int), .int .i64 (np : Int), .int .i64 (sz : Int), .int .i64 en], vf, vl] w (StP w nb xs L.length) := by
  have HFW := Lib.hid hfew
  obtain ⟨a, b, c, e1, e2, e3, hv1, hv2, hv3, hv4, hv5, hv6, hv7, hv8⟩ := valB_nat hv
  have HG : Hid (∀ F, Gd (Dev.new nb np sz en F)) := Lib.hid fun F => gd_new (by omega)
  have HN := Lib.hid (fun W (hW : Below w.heap.size w W) => New_ok nb np sz en vf xs W hv (hx.below' hW) hR (by omega))
  have HM := Lib.hid (fun W (hW : Below w.heap.size w W) => rNew_ok nb np sz en vf xs W hv (hx.below' hW) (by omega))
  have HP := Lib.hid hpos
  have HOK := Lib.hid hok
  have HL := Lib.hid hL
  obtain ⟨Af, cf, ef, _⟩ := hx
  obtain ⟨Al, cl, el, _⟩ := hL
  subst ef
  subst el
  have hx20 : (xs.length : Int) ≤ 20 := by omega
  have hll : (0 : Int) ≤ (L.length : Int) := by omega
  have hl40 : (L.length : Int) ≤ 40 := by have := HFW.out.1; omega
  have HX20 := Lib.hid hl
  clear hok hl hR hv hpos hfew e1 e2 e3 hv1 hv2 hv3 hv4 hv5 hv6 hv7 hv8
  obtain ⟨W0, hW0⟩ : ∃ W0, W0 = (w.alloc (.cells #[.int .i64 (nb : Int), .int .i64 (np : Int), .int .i64 (sz : Int), .int .i64 en] 23)).alloc (.cells #[.int .i64 0, .int .i64 0, .int .i64 0, .int .i64 0, .slice none 0 0, .slice none 0 0, .slice none 0 0, .int .i64 0, .int .i64 0, .int .i64 0, .bool false] 35) := ⟨_, rfl⟩
  have hb0 : Below w.heap.size w W0 := by rw [hW0]; exact (balloc w _).alloc (by simp) _
  have hbx : W0.heap[w.heap.size]? = some (.cells #[.int .i64 (nb : Int), .int .i64 (np : Int), .int .i64 (sz : Int), .int .i64 en] 23 (0, 0)) := by rw [hW0]; exact heap_alloc2_old w _ _
  have hrx : W0.heap[w.heap.size + 1]? = some (.cells #[.int .i64 0, .int .i64 0, .int .i64 0, .int .i64 0, .slice none 0 0, .slice none 0 0, .slice none 0 0, .int .i64 0, .int .i64 0, .int .i64 0, .bool false] 35 (0, 0)) := by rw [hW0]; exact heap_alloc2_new w _ _
  have hs0 : W0.heap.size = w.heap.size + 1 + 1 := by rw [hW0]; simp
  have k0 := cell_of_row W0 w.heap.size 0 _ 23 (0, 0) hbx
  have k1 := cell_of_row W0 w.heap.size 1 _ 23 (0, 0) hbx
  have k2 := cell_of_row W0 w.heap.size 2 _ 23 (0, 0) hbx
  have k3 := cell_of_row W0 w.heap.size 3 _ 23 (0, 0) hbx
  simp only [List.getElem?_toArray, List.getElem?_cons_zero, List.getElem?_cons_succ] at k0 k1 k2 k3
  have HRX0 := Lib.hid hrx
  have HB0 := Lib.hid hb0
  have HW := Lib.hid hW0
  have HS0 := Lib.hid hs0
  have hwl : w.heap.size < W0.heap.size := by omega
  clear hb0 hbx hrx hW0 hs0
  go_enter Try.func17, Try.ntmps17
  go_upto_region 1 with fail
  rw [← HW.out]
  go_wp2_with (first
    | ((go_at_call 11; with_reducible refine (HN.out _ HB0.out).mono ?_); rintro e w2 hpost; rw [NewPost, HP.out] at hpost; obtain ⟨bb, gg, mm, rfl, hd, hb2⟩ := (hpost.resolve_left (fun h => by cases h.1)).2; have HD := Lib.hid ((hd.rebase2 HB0.out.size (Nat.zero_le _)).relo (l := w.heap.size) (fun _ => rfl) (Nat.le_refl _)); have HRX2 := Lib.hid ((hb2.block _ (Array.getElem?_eq_some_iff.1 HRX0.out).1).trans HRX0.out); have HB2 := Lib.hid (HB0.out.trans (hb2.mono HB0.out.size)); have q0 := (hb2.cell (p := ⟨w.heap.size, 0, none⟩) hwl).trans k0; have q1 := (hb2.cell (p := ⟨w.heap.size, 1, none⟩) hwl).trans k1; have q2 := (hb2.cell (p := ⟨w.heap.size, 2, none⟩) hwl).trans k2; have q3 := (hb2.cell (p := ⟨w.heap.size, 3, none⟩) hwl).trans k3; clear hpost hd hb2)
    | ((go_at_call 12; with_reducible refine (HM.out _ HB2.out).mono ?_); rintro e w3 hpost; rw [RNPost, HP.out] at hpost; obtain ⟨vf1, vp1, ve1, rfl, hr3, hb3⟩ := (hpost.resolve_left (fun h => by cases h.1)).2; have HD3 := Lib.hid (HD.out.below hb3); have HRX3 := Lib.hid ((hb3.block _ (Array.getElem?_eq_some_iff.1 HRX2.out).1).trans HRX2.out); have HB3 := Lib.hid (HB2.out.trans (hb3.mono HB2.out.size)); obtain ⟨R3, hR3⟩ : ∃ R3, R3 = rdv (Dev.new nb np sz en xs.reverse) vf1 vp1 ve1 0 := ⟨_, rfl⟩; rw [← hR3]; have HR3 := Lib.hid (hR3 ▸ R35.rd hr3); have HRD3 := Lib.hid (And.intro hr3 hR3); have V3 := HR3.out.store (heap_alloc_new w3 (.cells #[.int .i64 0, .int .i64 0, .int .i64 0, .int .i64 0, .slice none 0 0, .slice none 0 0, .slice none 0 0, .int .i64 0, .int .i64 0, .int .i64 0, .bool false] 35)) rfl; clear hpost hb3 hr3 hR3)
    | ((go_at_call 13; with_reducible refine (num_any _ _).mono ?_); rintro e w' ⟨rfl, rfl⟩))
  obtain ⟨D, hD⟩ : ∃ D, D = w3.heap.size := ⟨_, rfl⟩
  obtain ⟨W4, hW4⟩ : ∃ W4, W4 = (w3.alloc (.cells #[.int .i64 0, .int .i64 0, .int .i64 0, .int .i64 0, .slice none 0 0, .slice none 0 0, .slice none 0 0, .int .i64 0, .int .i64 0, .int .i64 0, .bool false] 35)).setRow w3.heap.size R3 := ⟨_, rfl⟩
  have hb4 : Below w.heap.size w W4 := by rw [hW4]; exact setRow_below (HB3.out.alloc HB3.out.size _) HB3.out.size
  have hb34 : Below w3.heap.size w3 W4 := by rw [hW4]; exact setRow_below (balloc w3 _) (Nat.le_refl _)
  have HB4 := Lib.hid hb4
  have hrl := (Array.getElem?_eq_some_iff.1 HRX3.out).1
  have HRX4 := Lib.hid ((hb34.block _ hrl).trans HRX3.out)
  have HDl : Hid (w.heap.size + 1 < D) := Lib.hid (by rw [hD]; exact hrl)
  have HPS : Hid (PN w bb gg mm D nb xs 0 W4) := Lib.hid ⟨_, _, _, _, _, _, HD3.out.below hb34, gd_low (HG.out xs.reverse) w.heap.size, (HRD3.out.1.below hb34).relo (fun _ => rfl), Int.le_refl _, ⟨rfl, rfl, fun i hi p hp => by cases hp⟩, (show W4.heap[D]? = some (.cells (rdv (Dev.new nb np sz en xs.reverse) vf1 vp1 ve1 0) 35 (0, 0)) from by rw [hD, hW4, ← HRD3.out.2]; exact setRow_at (heap_alloc_new w3 _))⟩
  rw [← hW4, ← hD]
  clear hW4 hb4 hb34 V3 q0 q1 q2 q3 k0 k1 k2 k3 hD HD HD3 HR3 HRD3 HB0 HB2 HB3 hwl HRX0 HRX2 HRX3 hrl
  go_loopw [13] (fun v wr => ∃ k : Nat, k ≤ L.length ∧ v = .int .i64 k ∧ Hid (PN w bb gg mm D nb xs k wr) ∧ Hid (Below w.heap.size w wr) ∧ Hid (wr.heap[w.heap.size + 1]? = some (.cells #[.int .i64 0, .int .i64 0, .int .i64 0, .int .i64 0, .slice none 0 0, .slice none 0 0, .slice none 0 0, .int .i64 0, .int .i64 0, .int .i64 0, .bool false] 35 (0, 0)))) (fun v _ => L.length - (RowKit.intOf v).toNat)
  case atStart => exact ⟨0, Nat.zero_le _, rfl, HPS, HB4, HRX4⟩
  case round =>
    obtain ⟨k, hk, rfl, HPk, HBk, HRk⟩ := hrel
    clear HPS HB4 HRX4
    by_cases hlt : k < L.length
    · have kk : (k : Int) < (L.length : Int) := by omega
      have k00 : (0 : Int) ≤ (k : Int) := by omega
      obtain ⟨_, _, ee, hr⟩ := HL.out
      simp only [Value.slice.injEq] at ee
      obtain ⟨rfl, _, rfl⟩ := ee
      obtain ⟨ga, oa, rfl, hga, hcell⟩ := hr (by omega)
      obtain ⟨c0, c1, c2, c3, c4⟩ := hcell k hlt
      obtain ⟨V, s, vf, vp, ve, pb, hdv, hgd, hrd, hsn, hsb, hbx⟩ := HPk.out
      obtain ⟨X, hX⟩ : ∃ X, X = L[k] := ⟨_, rfl⟩
      have hXk := HOK.out _ (List.getElem_mem hlt)
      have hX1 := HFW.out.2 _ (List.getElem_mem hlt)
      rw [← hX] at c0 c1 c2 c3 c4 hXk hX1
      have HAC := Lib.hid (fun W (hW : Below wr.heap.size wr W) => act_more (hdv.below hW) (HBk.out.trans (hW.mono HBk.out.size)) (act_any (hdv.below hW) hgd (hrd.below hW) (by have := HFW.out.1; omega) (by have := HX20.out; omega) X ⟨hXk.1.below (HBk.out.trans (hW.mono HBk.out.size)), hXk.2.below (HBk.out.trans (hW.mono HBk.out.size))⟩ (by omega) (by omega) (hXk.1.off (fun q hq => by rw [hq]; exact hdv.hb)) (hXk.2.off (fun q hq => by rw [hq]; exact hdv.hb))))
      have HDV := Lib.hid hdv
      have HGD := Lib.hid (gd_act hgd X)
      have HNB : Hid ((actS s X).nb = nb ∧ (actS s X).lo = w.heap.size ∧ Len (actS s X)) := Lib.hid ⟨(nb_act s X).trans hsb.1, (lo_act s X).trans hsb.2.1, len_act hsb.2.2 X (by omega) (by omega)⟩
      have HSN : Hid ((actS s X).n ≤ ((k + 1 : Nat) : Int)) := Lib.hid (by have := n_act s X; omega)
      obtain ⟨R0, hR0⟩ : ∃ R0, R0 = rdv s vf vp ve pb := ⟨_, rfl⟩
      have HR0 := Lib.hid (hR0 ▸ R35.rd hrd)
      rw [← hR0] at HAC hbx
      unfold KA.enc at HAC
      have HLEN : Hid (R0.size = 11) := Lib.hid HR0.out.len
      have HBX := Lib.hid hbx
      obtain ⟨S1, hS1⟩ : ∃ S1, S1 = actS s X := ⟨_, rfl⟩
      rw [← hS1] at HAC HGD HSN HNB
      obtain ⟨wh, bl, pg, vd, vs, x, y⟩ := X
      simp only at c0 c1 c2 c3 c4 HAC
      clear hr hcell hdv hgd hrd hsn hsb hbx hX hXk hX1 hR0 hS1 HPk
      have C0 := Lib.hid (And.intro c0 (And.intro c1 (And.intro c2 (And.intro c3 c4))))
      clear c0 c1 c2 c3 c4
      go_upto_region 8 with fail
      go_cut [14, 15] from 42 to 51 (fun a b wx => ∃ (Y : Nat) (R3 : Array Value) (vf1 vp1 ve1 : Value) (pb1 : Int), a = .pointer (some ⟨Y, 0, none⟩) ∧ b = .bool true ∧ Hid (wx.heap[Y]? = some (.cells R3 35 (0, 0))) ∧ Hid (R3 = rdv S1 vf1 vp1 ve1 pb1 ∧ Rd wx xs S1 vf1 vp1 ve1 pb1) ∧ Hid (∃ V', Dv wx w.heap.size bb gg mm V' S1) ∧ Hid (wx.heap[D]? = some (.cells R0 35 (0, 0))) ∧ Hid (Below w.heap.size w wx) ∧ Hid (Y ≠ D ∧ w.heap.size ≤ Y) ∧ Hid (wx.heap[w.heap.size + 1]? = some (.cells #[.int .i64 0, .int .i64 0, .int .i64 0, .int .i64 0, .slice none 0 0, .slice none 0 0, .slice none 0 0, .int .i64 0, .int .i64 0, .int .i64 0, .bool false] 35 (0, 0))))
      case first =>
        have SC : Hid (∀ W, W.heap[D]? = some (.cells R0 35 (0, 0)) → Below w.heap.size w W → (loadX ⟨D, 0, none⟩).run Try.prog W = .ok (.agg R0) W ∧ W.cell? ⟨ga, oa + k * 5, none⟩ = some (.int .i64 wh) ∧ W.cell? ⟨ga, oa + k * 5 + 1, none⟩ = some (.int .i64 bl) ∧ W.cell? ⟨ga, oa + k * 5 + 2, none⟩ = some (.int .i64 pg) ∧ W.cell? ⟨ga, oa + k * 5 + 3, none⟩ = some vd ∧ W.cell? ⟨ga, oa + k * 5 + 4, none⟩ = some vs) := Lib.hid (fun W hD hB => by
          obtain ⟨c0, c1, c2, c3, c4⟩ := C0.out
          have hBd : ∀ j, W.cell? ⟨ga, j, none⟩ = w.cell? ⟨ga, j, none⟩ := fun j => hB.cell (p := ⟨ga, j, none⟩) hga
          exact ⟨HR0.out.load hD, (hBd _).trans c0, (hBd _).trans c1, (hBd _).trans c2, (hBd _).trans c3, (hBd _).trans c4⟩)
        have HBd : Hid (Below w.heap.size w wr.drew) := Lib.hid HBk.out.drew
        have HDd : Hid (wr.drew.heap[D]? = some (.cells R0 35 (0, 0))) := Lib.hid HBX.out
        have hDl := (Array.getElem?_eq_some_iff.1 HBX.out).1
        have HDl2 := Lib.hid hDl
        clear hDl
        go_region_held3 (fun W => (loadX ⟨D, 0, none⟩).run Try.prog W = .ok (.agg R0) W ∧ W.cell? ⟨ga, oa + k * 5, none⟩ = some (.int .i64 wh) ∧ W.cell? ⟨ga, oa + k * 5 + 1, none⟩ = some (.int .i64 bl) ∧ W.cell? ⟨ga, oa + k * 5 + 2, none⟩ = some (.int .i64 pg) ∧ W.cell? ⟨ga, oa + k * 5 + 3, none⟩ = some vd ∧ W.cell? ⟨ga, oa + k * 5 + 4, none⟩ = some vs)
          (first
          | assumption
          | exact SC.out _ HDd.out HBd.out
          | exact SC.out _ ((heap_alloc_old _ _ HDl2.out).trans HDd.out) (HBd.out.alloc HBd.out.size _)
          | exact SC.out _ ((heap_alloc_old _ _ HDl2.out).trans HDd.out) (HBk.out.alloc HBk.out.size _).drew
          | exact SC.out _ HD5.out HB5.out
          | exact SC.out _ ((heap_alloc_old _ _ (Array.getElem?_eq_some_iff.1 HD5.out).1).trans HD5.out) (HB5.out.alloc HB5.out.size _)
          | exact SC.out _ ((setRow_other _ _ _ _ (by have := HDl2.out; have := HZ5.out; omega)).trans HD5.out) (setRow_below HB5.out (by have := HBk.out.size; have := HZ5.out; omega))
          | exact SC.out _ ((setRow_other _ _ _ _ (by have := HDl2.out; have := HZ5.out; omega)).trans ((heap_alloc_old _ _ (Array.getElem?_eq_some_iff.1 HD5.out).1).trans HD5.out)) (setRow_below (HB5.out.alloc HB5.out.size _) (by have := HBk.out.size; have := HZ5.out; omega)))
          (first
          | ((go_at_call 14; with_reducible refine (HAC.out _ (by first | exact (Below.refl _ _).drew | exact (balloc _ _).drew | exact ((Below.refl _ _).drew).alloc (Nat.le_refl _) _)).mono ?_); rintro e W5 ⟨vf1, vp1, ve1, pb1, V1, rfl, hr5, hv5, hb5, h35, hz5⟩; obtain ⟨R5, hR5⟩ : ∃ R5, R5 = rdv S1 vf1 vp1 ve1 pb1 := ⟨_, rfl⟩; rw [← hR5]; have HR5 := Lib.hid (hR5 ▸ R35.rd hr5); have HRD5 := Lib.hid (And.intro hR5 hr5); have HV5 := Lib.hid hv5; have HB5 := Lib.hid hb5; have HD5 : Hid (W5.heap[D]? = some (.cells R0 35 (0, 0))) := Lib.hid (h35 D R0 (by first | exact HDd.out | exact (heap_alloc_old _ _ HDl2.out).trans HBX.out)); have HRB5 : Hid (W5.heap[w.heap.size + 1]? = some (.cells #[.int .i64 0, .int .i64 0, .int .i64 0, .int .i64 0, .slice none 0 0, .slice none 0 0, .slice none 0 0, .int .i64 0, .int .i64 0, .int .i64 0, .bool false] 35 (0, 0))) := Lib.hid (h35 (w.heap.size + 1) #[.int .i64 0, .int .i64 0, .int .i64 0, .int .i64 0, .slice none 0 0, .slice none 0 0, .slice none 0 0, .int .i64 0, .int .i64 0, .int .i64 0, .bool false] (by first | exact HRk.out | exact (heap_alloc_old _ _ (Array.getElem?_eq_some_iff.1 HRk.out).1).trans HRk.out)); have HZ5 : Hid (wr.heap.size ≤ W5.heap.size) := Lib.hid (Nat.le_trans (by first | exact Nat.le_refl _ | (simp <;> omega)) hz5); have VB := HR5.out.store (heap_alloc_new W5 (.cells #[.int .i64 0, .int .i64 0, .int .i64 0, .int .i64 0, .slice none 0 0, .slice none 0 0, .slice none 0 0, .int .i64 0, .int .i64 0, .int .i64 0, .bool false] 35)) rfl; (first | (have hq5 := h35 wr.heap.size #[.int .i64 0, .int .i64 0, .int .i64 0, .int .i64 0, .slice none 0 0, .slice none 0 0, .slice none 0 0, .int .i64 0, .int .i64 0, .int .i64 0, .bool false] (heap_alloc_new wr _); have VA := HR5.out.store hq5 rfl; have HQ5 := Lib.hid hq5; clear hq5) | skip); clear hr5 hv5 hb5 h35 hz5 hR5))
        all_goals
          go_wp2
          go_meet
          case rel => first
            | exact ps_rel2 (ps_rel HQ5.out HBk.out.size (by have := HDl2.out; omega) HRD5.out.1 HRD5.out.2 HV5.out HD5.out HB5.out _ _ rfl rfl _ rfl) ((setRow_other _ _ _ _ (by have := (Array.getElem?_eq_some_iff.1 HRk.out).1; omega)).trans HRB5.out)
            | exact ps_rel2 (ps_rel (heap_alloc_new W5 _) HB5.out.size (by have := HDl2.out; have := HZ5.out; omega) HRD5.out.1 (HRD5.out.2.kt (KT.below (balloc W5 _))) (HV5.out.below (balloc W5 _)) ((heap_alloc_old W5 _ (Array.getElem?_eq_some_iff.1 HD5.out).1).trans HD5.out) (HB5.out.alloc HB5.out.size _) _ _ rfl rfl _ rfl) ((setRow_other _ _ _ _ (by have := (Array.getElem?_eq_some_iff.1 HRk.out).1; have := HZ5.out; omega)).trans ((heap_alloc_old W5 _ (by have := (Array.getElem?_eq_some_iff.1 HRk.out).1; have := HZ5.out; omega)).trans HRB5.out))
      case rest =>
        obtain ⟨Y, R3, vf1, vp1, ve1, pb1, rfl, rfl, HY, HRD, HV, HDc, HBc, HYD, HRc⟩ := hcut
        obtain ⟨W8, hW8⟩ : ∃ W8, W8 = wc := ⟨_, rfl⟩
        subst hW8
        clear HBX HAC HDV HBk HR0 C0
        obtain ⟨hR3, hrd⟩ := HRD.out
        obtain ⟨V1, hv⟩ := HV.out
        have HR3 := Lib.hid (hR3 ▸ R35.rd hrd)
        have l1 := HR3.out.load HY.out
        have V2 := HR3.out.store HDc.out HLEN.out
        have l2 := HR3.out.load (W := W8.setRow D R3) (setRow_at HDc.out)
        have hv9 := hv.setRow35 (cs := R3) HDc.out
        have hr9 := hrd.kt (setRow_kt (cs := R3) HDc.out)
        have HB9 : Hid (Below w.heap.size w (W8.setRow D R3)) := Lib.hid (setRow_below HBc.out (by have := HDl.out; omega))
        have HPN : Hid (PN w bb gg mm D nb xs (k + 1) (W8.setRow D R3)) := Lib.hid ⟨V1, S1, vf1, vp1, ve1, pb1, hv9, HGD.out, hr9, HSN.out, HNB.out, by rw [← hR3]; exact setRow_at HDc.out⟩
        have HR9 : Hid ((W8.setRow D R3).heap[w.heap.size + 1]? = some (.cells #[.int .i64 0, .int .i64 0, .int .i64 0, .int .i64 0, .slice none 0 0, .slice none 0 0, .slice none 0 0, .int .i64 0, .int .i64 0, .int .i64 0, .bool false] 35 (0, 0))) := Lib.hid ((setRow_other W8 D _ _ (by have := HDl.out; omega)).trans HRc.out)
        clear hR3 hrd hv hv9 hr9
        go_wp2
        go_roundw
        case rel => exact ⟨k + 1, by omega, by go_num, HPN, HB9, HR9⟩
        case measure => simp [RowKit.intOf]; omega
    · have hkl : k = L.length := by omega
      obtain ⟨V, s, vf, vp, ve, pb, hdv, hgd, hrd, hsn, hsb, hbx⟩ := HPk.out
      obtain ⟨R0, hR0⟩ : ∃ R0, R0 = rdv s vf vp ve pb := ⟨_, rfl⟩
      have HR0 := Lib.hid (hR0 ▸ R35.rd hrd)
      rw [← hR0] at hbx
      have l0 := HR0.out.load (W := wr.drew) hbx
      have V0 := HR0.out.store (W := wr.drew) HRk.out rfl
      have hbd : Below wr.heap.size wr wr.drew := (Below.refl _ _).drew
      have HFIN : Hid (StP w nb xs L.length (.returned (.tuple #[.pointer (some ⟨bb, 0, none⟩), .agg R0, .bool true])) (wr.drew.setRow (w.heap.size + 1) R0)) := Lib.hid ⟨bb, gg, mm, V, s, vf, vp, ve, pb, by rw [hR0], (hdv.below hbd).setRow35 (W := wr.drew) HRk.out, hgd, (hrd.below hbd).kt (setRow_kt (W := wr.drew) HRk.out), by rw [← hkl]; exact hsn, hsb, setRow_below (HBk.out.trans (hbd.mono HBk.out.size)) (by omega)⟩
      have kk : ¬ (k : Int) < (L.length : Int) := by omega
      clear hdv hgd hrd hsn hsb hbx hR0 hbd hkl hlt
      go_upto_region 12 with fail
      go_region
      go_wp2
      (try simp only [Exit.inBlock, Exit.then])
      refine bodyPost_ret (v := .tuple #[.pointer (some ⟨bb, 0, none⟩), .agg R0, .bool true]) ?_ rfl HFIN.out
      exact results_t3 (a := 6) (b := 7) (c := 8) (ty := 35) rfl _ _ (w.heap.size + 1) 35 R0 (0, 0) _ rfl (setRow_at HRk.out) Try.underlying35 rfl HR0.out.size
/-- What lies below a device's bound may change. -/
theorem BytT.chg_lo {lb : Nat} {S : Nat → Prop} {w w' : World} {v : Value} {l : List UInt8} (h : BytT lb w v l) (hc : Chg S w w') (hS : ∀ k, S k → k < lb) : BytT lb w' v l := by
  have ho : Off S v l := fun h0 b hb hs => by
    obtain ⟨hlb, _⟩ := h.2 h0 b hb
    have := hS b hs
    omega
  refine ⟨h.1.chg hc ho, fun h0 b hb => ?_⟩
  obtain ⟨hlb, cs, fr, e⟩ := h.2 h0 b hb
  exact ⟨hlb, cs, fr, (hc.block b (h.1.lt h0 hb) (ho h0 b hb)).trans e⟩
theorem Rws.chg_lo {lb : Nat} {S : Nat → Prop} {w w' : World} (hc : Chg S w w') (hS : ∀ k, S k → k < lb) : ∀ (xs : List Value) (ps : List Pg), Rws lb w xs ps → Rws lb w' xs ps
  | [], [], _ => trivial
  | a :: b :: c :: r, p :: ps, h => ⟨h.1.chg_lo hc hS, h.2.1.chg_lo hc hS, h.2.2.1, Rws.chg_lo hc hS r ps h.2.2.2⟩
  | [], _ :: _, h => h.elim
  | [_], _, h => by cases ‹List Pg› <;> exact h.elim
  | [_, _], _, h => by cases ‹List Pg› <;> exact h.elim
  | _ :: _ :: _ :: _, [], h => h.elim
theorem Dv.chg_lo {S : Nat → Prop} {w w' : World} {base b g m : Nat} {V : Nat → Value} {s : Dev} (h : Dv w base b g m V s) (hc : Chg S w w') (hS : ∀ k, S k → k < s.lo) : Dv w' base b g m V s := by
  have hx : ∀ k, Foot s b g m V k → w'.heap[k]? = w.heap[k]? := fun k hk => hc.block k (h.foot_lt hk) (fun hs => by have := hS k hs; have := h.foot_ge hk; have := h.lw; omega)
  refine ⟨(hx b (.inl rfl)).trans h.blk, h.hb, h.hg, h.hm, ?_, fun i hi => ?_, h.apart, h.flt.kept (hx m (.inr (.inr (.inl rfl)))), h.lw⟩
  · obtain ⟨G, hG, r⟩ := h.grid
    exact ⟨G, (hx g (.inr (.inl rfl))).trans hG, r⟩
  · obtain ⟨xs, ho, hr⟩ := h.row i hi
    exact ⟨xs, own_chg ho hc (fun k hk hs => by have := hS k hs; have := (ho.lt k hk).1; have := h.lw; omega), Rws.chg_lo hc hS _ _ hr⟩
/-- The reference stays where only bytes below its bound change. -/
theorem Rd.chg_lo {S : Nat → Prop} {w w' : World} {fs : List Int} {s : Dev} {vf vp ve : Value} {pb : Int} (h : Rd w fs s vf vp ve pb) (hc : Chg S w w') (hS : ∀ k, S k → k < s.lo) (hT : ∀ k, S k → ∃ cs fr, w.heap[k]? = some (.cells cs 5 fr)) : Rd w' fs s vf vp ve pb := by
  have hk : ∀ (k : Nat) (cs : Array Value) (ty : TypeId), w.heap[k]? = some (.cells cs ty (0, 0)) → ty ≠ 5 → w'.heap[k]? = some (.cells cs ty (0, 0)) := fun k cs ty e hne =>
    (hc.block k (Array.getElem?_eq_some_iff.1 e).1 (fun hs => by
      obtain ⟨cs', fr, e'⟩ := hT k hs
      rw [e] at e'
      injection e' with e'
      injection e' with _ e1 _
      exact hne e1)).trans e
  have hI : ∀ {v : Value} {l : List Int}, IntL w v l → IntL w' v l := fun ⟨A, c, e, hc', hr⟩ => ⟨A, c, e, hc', fun hn => by
    obtain ⟨g, cur, e, h1, h2⟩ := hr hn
    exact ⟨g, cur, e, hk _ _ _ h1 (by decide), h2⟩⟩
  refine ⟨hI h.flt, h.mem, ?_, hI h.ers, h.cut, h.pb0⟩
  obtain ⟨g, c, cur, e, hc2, h1, h2⟩ := h.grid
  refine ⟨g, c, cur, e, hc2, hk _ _ _ h1 (by decide), fun i hi => ?_⟩
  obtain ⟨pv, h3, g2, c2, cur2, e2, hc3, k1, k2⟩ := h2 i hi
  refine ⟨pv, h3, g2, c2, cur2, e2, hc3, hk _ _ _ k1 (by decide), fun j hj => ?_⟩
  obtain ⟨h4, bv, h5, h6, h7⟩ := k2 j hj
  exact ⟨h4, bv, h5, fun ht => (h6 ht).chg_lo hc hS, h7⟩
end Go.Proofs.Ytddejcoagcaidaa
