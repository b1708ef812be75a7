/- The reference's Program, where it programs. Conditions stand in each theorem. -/
import Derived.Test.YtddejcoagcaidaaDK
import Derived.Test.YtddejcoagcaidaaDL
namespace Go.Proofs.Ytddejcoagcaidaa
open Go.RowKit
set_option linter.unusedVariables false
set_option maxHeartbeats 16000000
set_option maxRecDepth 100000
/-- The page that Program leaves. -/
def Dev.prP (s : Dev) (x y : List UInt8) : Pg := if s.n = s.po then wr x y s.pb.toNat else if s.F.contains s.n = true then ⟨4, [], []⟩ else wr x y (x.length + y.length)
theorem pr_cases {s : Dev} {i j : Nat} {x y : List UInt8} (hi : i < s.nb) (hj : (j : Int) = s.nx (i : Int)) (hk : s.okB (i : Int) (j : Int) x y = true) (ho : s.off = false) :
    s.prE (i : Int) (j : Int) x y = s.exE 54 ∧ s.prS (i : Int) (j : Int) x y = s.nxt (if s.n = s.po then true else false) i ⟨(s.bk i).er, (s.bk i).pg ++ [s.prP x y]⟩ := by
  constructor
  · unfold Dev.prE
    rw [if_neg (by rw [hk]; decide), if_neg (by rw [ho]; decide), if_neg (by rw [hj]; simp)]
  · unfold Dev.prS
    rw [if_pos ⟨hk, ho, hj⟩]
    unfold Dev.exS Dev.prP Dev.nxt Dev.pT Dev.pF Dev.pS Dev.cut Dev.go
    simp only [Int.toNat_natCast]
    by_cases h3 : s.n = s.po
    · simp only [if_pos h3]
    · simp only [if_neg h3]
      by_cases h4 : s.F.contains s.n = true
      · simp only [if_pos h4]
        rw [ho]
      · simp only [if_neg h4]
        rw [ho]
theorem wr_all (x y : List UInt8) (n : Nat) : (wr x y n).d ++ (wr x y n).s = ffAll (x ++ y) n := List.take_append_drop _ _
attribute [local go_sem ↓ 100000] builtin_appX2
theorem byt_set {lb : Nat} {W : World} {g j : Nat} {t : TypeId} {cs : Array Value} {fr : Nat × Nat} (hg : W.heap[g]? = some (.cells cs t fr)) (ht : t ≠ 5) {v : Value} {l : List UInt8} (h : BytT lb W v l) (u : Value) : BytT lb (W.setCell ⟨g, j, none⟩ u) v l :=
  h.chg ((Chg.refl (· = g) W).setCell rfl u) (fun b _ e cs' fr' e2 => by subst e; exact ht (ty_ne hg e2))
theorem ffl_all {l : List UInt8} {n : Nat} (h : n ≤ l.length) : ffl l n l.length = ffAll l n := by
  rcases Nat.lt_or_ge n l.length with h1 | h1
  · exact ffl_end h1
  · obtain rfl : n = l.length := by omega
    rw [ffl_start, ffAll, if_neg (by omega)]
theorem rProgram_go {w : World} {fs : List Int} {s : Dev} {vf vp ve : Value} {pb : Int} (h : Rd w fs s vf vp ve pb) (hg : Gd s) (hn : s.n ≤ 1000000000) (hl : fs.length ≤ 1000) (i j : Nat) (hi : i < s.nb) (hj : (j : Int) = s.nx (i : Int)) (hjp : j < s.np) (ho : s.off = false)
    {vd vs : Value} {x y : List UInt8} (hd : Byt w vd x) (hs : Byt w vs y) (hx : x.length = s.sz) (hy : y.length = 64) (hlb : s.lo ≤ w.heap.size) :
    Calls Try.prog 35 #[.agg (rdv s vf vp ve pb), .int .i64 (i : Int), .int .i64 (j : Int), vd, vs] w (RvPost w fs (s.prS (i : Int) (j : Int) x y) (s.prE (i : Int) (j : Int) x y)) := by
  have H := Lib.hid h
  have HLO := Lib.hid hlb
  have HGD := Lib.hid hg
  have hnp := hg.np
  have hnb := hg.nb
  have hsz := hg.sz
  have hnn := hg.n
  have hpg : (s.bk i).pg.length = j := by have := nx_nat hi; omega
  have hok : s.okB (i : Int) (j : Int) x y = true := by
    unfold Dev.okB
    rw [hasP_iff, hasB_of hi, decide_eq_true (show 0 ≤ (j : Int) ∧ (j : Int) < (s.np : Int) by omega), decide_eq_true hx, decide_eq_true hy]
    rfl
  have HFF := Lib.hid (fun W (hb : Below w.heap.size w W) => rfails_any (h.below hb) hl)
  have HNX := Lib.hid (fun W (hb : Below w.heap.size w W) => rNext_any (h.below hb) hg (i : Int))
  obtain ⟨⟨A1, n1, c1, rfl⟩, -, ⟨A3, n3, c3, rfl⟩⟩ := h.forms
  obtain ⟨g, c, cur, rfl, hc, hh, hrow⟩ := id h.grid
  have HE := Lib.hid (fun W => rExists_any s (.slice A1 n1 c1) (.slice A3 n3 c3) (some ⟨g, 0, none⟩) c pb (i : Int) W)
  rw [hasB_of hi] at HE
  rw [← hj] at HNX
  obtain ⟨k1, k2⟩ := pr_cases hi hj hok ho
  obtain ⟨se, hse⟩ : ∃ se, se = s.prS (i : Int) (j : Int) x y := ⟨_, rfl⟩
  obtain ⟨ke, hke⟩ : ∃ ke, ke = s.prE (i : Int) (j : Int) x y := ⟨_, rfl⟩
  rw [← hse, ← hke]
  rw [k2] at hse
  rw [k1] at hke
  obtain ⟨P, hP⟩ : ∃ P, P = s.prP x y := ⟨_, rfl⟩
  rw [← hP] at hse
  simp only [rdv] at HE HFF HNX ⊢
  rw [ho] at HE HFF HNX ⊢
  have e1 : (s.np : Int) ≤ 512 := by omega
  have e2 : (s.nb : Int) ≤ 4096 := by omega
  have e3 : (s.sz : Int) ≤ 8192 := by omega
  have e6 : (i : Int) < (s.nb : Int) := by omega
  have e7 : (j : Int) < (s.np : Int) := by omega
  have e8 : ¬ (j : Int) < 0 := by omega
  have e9 : ¬ (s.np : Int) ≤ (j : Int) := by omega
  have d8 : decide ((j : Int) < 0) = false := decide_eq_false e8
  have d9 : decide ((s.np : Int) ≤ (j : Int)) = false := decide_eq_false e9
  have HD := Lib.hid hd
  have HS := Lib.hid hs
  obtain ⟨Ad, cd, rfl, -⟩ := id hd
  obtain ⟨As, cs, rfl, -⟩ := id hs
  have hxy : Hid ((x ++ y).length = x.length + y.length) := Lib.hid List.length_append
  obtain ⟨xl, hxl⟩ : ∃ xl, xl = x.length := ⟨_, rfl⟩
  obtain ⟨yl, hyl⟩ : ∃ yl, yl = y.length := ⟨_, rfl⟩
  rw [← hxl] at HD hx hxy ⊢
  rw [← hyl] at HS hy hxy ⊢
  have e4 : (xl : Int) ≤ 100000 := by omega
  have e5 : (yl : Int) ≤ 100000 := by omega
  have xb : ((xl : Int) == (s.sz : Int)) = true := by simp; omega
  have xc : (xl : Int) = (s.sz : Int) := by omega
  have xd : decide ((xl : Int) = (s.sz : Int)) = true := decide_eq_true xc
  have yb : ((yl : Int) == 64) = true := by simp; omega
  have yc : (yl : Int) = 64 := by omega
  have yd : decide ((yl : Int) = 64) = true := decide_eq_true yc
  have HSE := Lib.hid (And.intro hse hke)
  have HPP := Lib.hid hP
  have HXL := Lib.hid (And.intro hxl hyl)
  have HXS := Lib.hid (And.intro hx hy)
  clear hse hke hP hxl hyl
  obtain ⟨W0, hW0⟩ : ∃ W0, W0 = (w.alloc (.cells #[.int .i64 (s.nb : Int), .int .i64 (s.np : Int), .int .i64 (s.sz : Int), .int .i64 s.en, .slice A1 n1 c1, .slice (some ⟨g, 0, none⟩) s.nb c, .slice A3 n3 c3, .int .i64 s.n, .int .i64 s.po, .int .i64 pb, .bool false] 35)).alloc (.cells #[.int .i64 0, .int .i64 0, .int .i64 0, .int .i64 0, .slice none 0 0, .slice none 0 0, .slice none 0 0, .int .i64 0, .int .i64 0, .int .i64 0, .bool false] 35) := ⟨_, rfl⟩
  have hb0 : Below w.heap.size w W0 := by rw [hW0]; exact (balloc w _).alloc (by simp) _
  have hbx : W0.heap[w.heap.size]? = some (.cells #[.int .i64 (s.nb : Int), .int .i64 (s.np : Int), .int .i64 (s.sz : Int), .int .i64 s.en, .slice A1 n1 c1, .slice (some ⟨g, 0, none⟩) s.nb c, .slice A3 n3 c3, .int .i64 s.n, .int .i64 s.po, .int .i64 pb, .bool false] 35 (0, 0)) := by rw [hW0]; exact heap_alloc2_old w _ _
  have hrx : W0.heap[w.heap.size + 1]? = some (.cells #[.int .i64 0, .int .i64 0, .int .i64 0, .int .i64 0, .slice none 0 0, .slice none 0 0, .slice none 0 0, .int .i64 0, .int .i64 0, .int .i64 0, .bool false] 35 (0, 0)) := by rw [hW0]; exact heap_alloc2_new w _ _
  have HX := Lib.hid (fun W' (hb : Below W0.heap.size W0 W') => box11 hbx hb)
  have HBX := Lib.hid hbx
  have HRX := Lib.hid hrx
  have HB0 := Lib.hid hb0
  have HW := Lib.hid hW0
  have HROW := Lib.hid (And.intro hh hrow)
  have HIJ := Lib.hid (And.intro hi (And.intro hjp hpg))
  have HNB := Lib.hid (And.intro hnb (And.intro hnp hsz))
  clear h hnp hnb hg hbx hrx hW0 hh hrow hb0 hc k1 k2 ho hl hi hj hjp hd hs hx hy hpg hok hsz
  go_enter Try.func35, Try.ntmps35
  go_upto_region 1 with fail
  rw [← HW.out]
  obtain ⟨u0, u1, u2, u3, u4, u5, u6, u7, u8, u9, u10⟩ := HX.out W0 (Below.refl _ _)
  go_upto_region 7 with (first
    | ((go_at_call 40; with_reducible refine (HE.out _).mono ?_); rintro e w2 ⟨rfl, hb⟩; obtain ⟨x0, x1, x2, x3, x4, x5, x6, x7, x8, x9, x10⟩ := HX.out _ hb; have HBA := Lib.hid hb; clear hb)
    | ((go_at_call 41; with_reducible refine (HNX.out _ (HB0.out.trans (HBA.out.mono HB0.out.size))).mono ?_); rintro e w3 ⟨rfl, hb⟩; have HBB := Lib.hid (HBA.out.trans (hb.mono HBA.out.size)); clear hb))
  clear x0 x1 x2 x3 x4 x5 x6 x7 x8 x9 x10 u0 u1 u2 u3 u4 u5 u6 u7 u8 u9 u10
  have hown0 : (w3.alloc (.cells #[] 5)).ownsRow w3.heap.size 5 1 (.slice (some ⟨w3.heap.size, 0, none⟩) 0 0) 0 (bv []) := ⟨by simp [bv], .inr ⟨w3.heap.size, 0, #[], rfl, Nat.le_refl _, heap_alloc_new w3 _, Nat.le_refl _, Nat.zero_le _, by simp, by simp [bv]⟩⟩
  have hb3 : Below w.heap.size w (w3.alloc (.cells #[] 5)) := (HB0.out.trans (HBB.out.mono HB0.out.size)).alloc (Nat.le_trans HB0.out.size HBB.out.size) _
  have hs3 : w.heap.size + 1 + 1 ≤ w3.heap.size := by
    have h := HBB.out.size
    rw [HW.out] at h
    simpa using h
  obtain ⟨v4, W4, hr4, ho4, hg4, -⟩ := run_append_own_src (w3.alloc (.cells #[] 5)) w3.heap.size 0 _ (.slice Ad xl cd) [] x 41 hown0 (HD.out.below hb3) (by have := HXL.out; omega) (by simp)
  obtain ⟨B4, d4, rfl⟩ := own_form ho4
  rw [Nat.zero_add, ← HXL.out.1] at ho4 hr4
  rw [List.nil_append] at ho4
  have hb4 : Below w.heap.size w W4 := hb3.trans ((Chg.of_grown hg4).below (Nat.le_trans HB0.out.size (Nat.le_trans HBB.out.size (by simp))) (fun k hk => by simp [Value.ownBlock] at hk; omega))
  have hz4 : w3.heap.size ≤ W4.heap.size := Nat.le_trans (by simp) hg4.size
  obtain ⟨v5, W5, hr5, ho5, hg5, -⟩ := run_append_own_src W4 w3.heap.size xl _ (.slice As yl cs) x y 41 ho4 (HS.out.below hb4) (by have := HXL.out; omega) hz4
  obtain ⟨B5, d5, rfl⟩ := own_form ho5
  rw [← HXL.out.2] at ho5 hr5
  have hb5 : Below w3.heap.size (w3.alloc (.cells #[] 5)) W5 := by
    refine (Chg.below (S := fun k => w3.heap.size ≤ k) ((Chg.of_grown hg4).mono (fun k hk => by simp [Value.ownBlock] at hk; omega) |>.also ((Chg.of_grown hg5).mono (fun k hk => ?_))) (by simp) (fun k hk => hk))
    obtain ⟨p4, e4', -, hp4⟩ := own_some ho4 (by have := HXS.out; have := HNB.out; omega)
    rw [e4'] at hk
    simp [Value.ownBlock] at hk
    omega
  obtain ⟨p5, rfl, hd5, hp5⟩ := own_some ho5 (by have := HXS.out; omega)
  have hr4 := appX2_run hr4
  have hr5 := appX2_run hr5
  have HB5 := Lib.hid (show Below w3.heap.size w3 W5 from (balloc w3 _).trans hb5)
  have HO5 := Lib.hid ho5
  have HP5 := Lib.hid (And.intro hp5 hd5)
  have HS3 := Lib.hid hs3
  clear hown0 hb3 hs3 ho4 hg4 hb4 hz4 ho5 hg5 hb5 hp5 hd5
  go_upto_region 8 with fail
  clear hr4 hr5
  have hbx5 : W5.heap[w.heap.size]? = some (.cells #[.int .i64 (s.nb : Int), .int .i64 (s.np : Int), .int .i64 (s.sz : Int), .int .i64 s.en, .slice A1 n1 c1, .slice (some ⟨g, 0, none⟩) s.nb c, .slice A3 n3 c3, .int .i64 s.n, .int .i64 s.po, .int .i64 pb, .bool false] 35 (0, 0)) := (HB5.out.block _ (by have := HS3.out; omega)).trans ((HBB.out.block _ (Array.getElem?_eq_some_iff.1 HBX.out).1).trans HBX.out)
  have hrx5 : W5.heap[w.heap.size + 1]? = some (.cells #[.int .i64 0, .int .i64 0, .int .i64 0, .int .i64 0, .slice none 0 0, .slice none 0 0, .slice none 0 0, .int .i64 0, .int .i64 0, .int .i64 0, .bool false] 35 (0, 0)) := (HB5.out.block _ (by have := HS3.out; omega)).trans ((HBB.out.block _ (Array.getElem?_eq_some_iff.1 HRX.out).1).trans HRX.out)
  have HBX5 := Lib.hid hbx5
  have HRX5 := Lib.hid hrx5
  clear hbx5 hrx5
  go_upto_region 9 with fail
  obtain ⟨px, hpx⟩ : ∃ px, px = W5.heap.size := ⟨_, rfl⟩
  obtain ⟨W6, hW6⟩ : ∃ W6, W6 = W5.alloc (.cells #[.int .i64 2, .slice (some ⟨p5, 0, none⟩) (xl + yl) d5] 107) := ⟨_, rfl⟩
  rw [← hpx, ← hW6]
  have HPX : Hid (w.heap.size + 1 + 1 ≤ px ∧ p5 < px ∧ w.heap.size + 1 + 1 ≤ p5) := Lib.hid (by
    have h1 := HS3.out
    have h2 := HB5.out.size
    have h3 := HP5.out.1
    have h4 : p5 < W5.heap.size := (HO5.out.lt _ rfl).2
    rw [hpx]
    omega)
  have hb56 : Below W5.heap.size W5 W6 := by rw [hW6]; exact balloc W5 _
  have HBX6 : Hid (W6.heap[w.heap.size]? = some (.cells #[.int .i64 (s.nb : Int), .int .i64 (s.np : Int), .int .i64 (s.sz : Int), .int .i64 s.en, .slice A1 n1 c1, .slice (some ⟨g, 0, none⟩) s.nb c, .slice A3 n3 c3, .int .i64 s.n, .int .i64 s.po, .int .i64 pb, .bool false] 35 (0, 0))) := Lib.hid ((hb56.block _ (Array.getElem?_eq_some_iff.1 HBX5.out).1).trans HBX5.out)
  have HRX6 : Hid (W6.heap[w.heap.size + 1]? = some (.cells #[.int .i64 0, .int .i64 0, .int .i64 0, .int .i64 0, .slice none 0 0, .slice none 0 0, .slice none 0 0, .int .i64 0, .int .i64 0, .int .i64 0, .bool false] 35 (0, 0))) := Lib.hid ((hb56.block _ (Array.getElem?_eq_some_iff.1 HRX5.out).1).trans HRX5.out)
  have HPG6 : Hid (W6.heap[px]? = some (.cells #[.int .i64 2, .slice (some ⟨p5, 0, none⟩) (xl + yl) d5] 107 (0, 0))) := Lib.hid (by rw [hW6, hpx]; exact heap_alloc_new W5 _)
  have HO6 : Hid (W6.ownsRow w3.heap.size 5 1 (.slice (some ⟨p5, 0, none⟩) (xl + yl) d5) (xl + yl) (bv (x ++ y))) := Lib.hid (by rw [hW6]; exact HO5.out.alloc _)
  have HB6 : Hid (Below w.heap.size w W6) := Lib.hid ((HB0.out.trans (HBB.out.mono HB0.out.size)).trans ((HB5.out.trans (hb56.mono HB5.out.size)).mono (by have := HS3.out; omega)))
  obtain ⟨x0, x1, x2, x3, x4, x5, x6, x7, x8, x9, x10⟩ := box11 HBX6.out (Below.refl _ _)
  clear hpx hW6 hb56 HBX5 HRX5 HO5 HB5
  go_upto_if 66 with fail
  have f10 := frozen_of_row W6 w.heap.size 10 _ 35 HBX6.out
  have p0 := cell_of_row W6 px 0 _ 107 (0, 0) HPG6.out
  have p1 := cell_of_row W6 px 1 _ 107 (0, 0) HPG6.out
  have q0 := frozen_of_row W6 px 0 _ 107 HPG6.out
  have q1 := frozen_of_row W6 px 1 _ 107 HPG6.out
  simp only [List.getElem?_toArray, List.getElem?_cons_zero, List.getElem?_cons_succ] at p0 p1
  obtain ⟨L, hL⟩ : ∃ L, L = xl + yl := ⟨_, rfl⟩
  have HLL : Hid (L = (x ++ y).length ∧ L = xl + yl) := Lib.hid ⟨by rw [hL, hxy.out], hL⟩
  rw [← hL] at HO6 HPG6 p1 ⊢
  have hL2 : (L : Int) ≤ 200000 := by omega
  have g0 : (0 : Int) ≤ L := by omega
  clear hL
  go_cut [14] from 66 (fun a wx => ∃ (st : Int) (o : Bool) (PA : Option Addr) (PL PC : Nat), a = .int .i64 ke ∧ Hid (st = P.st ∧ o = (if s.n = s.po then true else false)) ∧ Hid (wx.heap[w.heap.size]? = some (.cells #[.int .i64 (s.nb : Int), .int .i64 (s.np : Int), .int .i64 (s.sz : Int), .int .i64 s.en, .slice A1 n1 c1, .slice (some ⟨g, 0, none⟩) s.nb c, .slice A3 n3 c3, .int .i64 s.n, .int .i64 s.po, .int .i64 pb, .bool o] 35 (0, 0))) ∧ Hid (wx.heap[w.heap.size + 1]? = some (.cells #[.int .i64 0, .int .i64 0, .int .i64 0, .int .i64 0, .slice none 0 0, .slice none 0 0, .slice none 0 0, .int .i64 0, .int .i64 0, .int .i64 0, .bool false] 35 (0, 0))) ∧ Hid (wx.heap[px]? = some (.cells #[.int .i64 st, .slice PA PL PC] 107 (0, 0))) ∧ Hid ((st = 2 ∨ st = 3) → BytT s.lo wx (.slice PA PL PC) (P.d ++ P.s)) ∧ Hid (Below w.heap.size w wx))
  case first =>
    by_cases hcut : s.n = s.po
    · have hcb : (s.n == s.po) = true := by simpa using hcut
      have hpb : pb = s.pb := H.out.cut (by omega)
      have hpb0 := H.out.pb0
      have HPE : Hid (P = wr x y s.pb.toNat) := Lib.hid (by rw [HPP.out]; exact if_pos hcut)
      have HKE : Hid (ke = 50 ∧ (if s.n = s.po then true else false) = true) := Lib.hid ⟨HSE.out.2.trans (if_pos hcut), if_pos hcut⟩
      obtain ⟨k0, hk0⟩ : ∃ k0 : Nat, pb = (k0 : Int) := ⟨pb.toNat, by omega⟩
      have hk1 : k0 ≤ xl + yl := by have := HXS.out; omega
      have HK0 : Hid (pb = (k0 : Int) ∧ k0 ≤ xl + yl ∧ s.pb.toNat = k0) := Lib.hid ⟨hk0, hk1, by omega⟩
      have hbi : Hid ((0 : Int) ≤ pb ∧ pb ≤ (xl : Int) + (yl : Int)) := Lib.hid ⟨by omega, by omega⟩
      clear hcut hpb hpb0 hk0 hk1
      go_wp2
      go_loopw [15] (fun v wr => ∃ k : Nat, k0 ≤ k ∧ k ≤ L ∧ v = .int .i64 k ∧ Hid (wr.ownsRow w3.heap.size 5 1 (.slice (some ⟨p5, 0, none⟩) L d5) L (bv (ffl (x ++ y) k0 k))) ∧ Hid (Chg (· = p5) W6 wr)) (fun v _ => L - (RowKit.intOf v).toNat)
      case atStart => exact ⟨k0, Nat.le_refl _, by have := HK0.out; have := HLL.out; omega, by rw [HK0.out.1], Lib.hid (by rw [ffl_start]; exact HO6.out), Lib.hid (Chg.refl _ _)⟩
      case round =>
        obtain ⟨k, hk1, hk2, rfl, HR, HCh⟩ := hrel
        by_cases hlt : k < L
        · have f1 := HR.out.frozenAt k
          have cz : ∃ u, wr.cell? ⟨p5, k, none⟩ = some u := by
            rw [HR.out.cellAt k (by omega)]
            exact ⟨_, List.getElem?_eq_getElem (by rw [bv_length, ffl_length hk1 (by rw [← HLL.out.1]; exact hk2), ← HLL.out.1]; exact hlt)⟩
          obtain ⟨u, cz⟩ := cz
          have h255 : Hid (IntKind.u8.wrap 255 = 255) := Lib.hid rfl
          go_wp2
          go_roundw
          case rel =>
            refine ⟨k + 1, by omega, by omega, by go_num, Lib.hid ?_, Lib.hid (HCh.out.setCell rfl _)⟩
            have h2 := HR.out.stored k (.int .u8 255)
            have h3 : (bv (ffl (x ++ y) k0 k)).set k (.int .u8 255) = bv (ffl (x ++ y) k0 (k + 1)) := by
              rw [← ffl_step hk1 (by rw [← HLL.out.1]; exact hlt)]
              exact bv_set _ k 255
            rw [h3] at h2
            exact h2.1
          case measure => simp [RowKit.intOf]; omega
        · have hkl : L = k := by omega
          subst hkl
          have hrow : Hid (BytT s.lo wr (.slice (some ⟨p5, 0, none⟩) L d5) (ffAll (x ++ y) k0)) := Lib.hid (by
            have h2 := HR.out
            have h3 : ffl (x ++ y) k0 L = ffAll (x ++ y) k0 := by
              have h4 := HLL.out.1
              rw [h4]
              exact ffl_all (by rw [← h4]; exact hk1)
            rw [h3] at h2
            exact BytT.of_own h2 (by have := HLO.out; have := HS3.out; omega))
          have HBXr : Hid (wr.heap[w.heap.size]? = some (.cells #[.int .i64 (s.nb : Int), .int .i64 (s.np : Int), .int .i64 (s.sz : Int), .int .i64 s.en, .slice A1 n1 c1, .slice (some ⟨g, 0, none⟩) s.nb c, .slice A3 n3 c3, .int .i64 s.n, .int .i64 s.po, .int .i64 pb, .bool false] 35 (0, 0))) := Lib.hid ((HCh.out.block _ (Array.getElem?_eq_some_iff.1 HBX6.out).1 (by have := HPX.out; omega)).trans HBX6.out)
          have HRXr : Hid (wr.heap[w.heap.size + 1]? = some (.cells #[.int .i64 0, .int .i64 0, .int .i64 0, .int .i64 0, .slice none 0 0, .slice none 0 0, .slice none 0 0, .int .i64 0, .int .i64 0, .int .i64 0, .bool false] 35 (0, 0))) := Lib.hid ((HCh.out.block _ (Array.getElem?_eq_some_iff.1 HRX6.out).1 (by have := HPX.out; omega)).trans HRX6.out)
          have HPGr : Hid (wr.heap[px]? = some (.cells #[.int .i64 2, .slice (some ⟨p5, 0, none⟩) L d5] 107 (0, 0))) := Lib.hid ((HCh.out.block _ (Array.getElem?_eq_some_iff.1 HPG6.out).1 (by have := HPX.out; omega)).trans HPG6.out)
          have HBr : Hid (Below w.heap.size w wr) := Lib.hid (HB6.out.trans (HCh.out.below HB6.out.size (fun i hi => by have := HPX.out; omega)))
          obtain ⟨y0, y1, y2, y3, y4, y5, y6, y7, y8, y9, y10⟩ := box11 HBXr.out (Below.refl _ _)
          have g10 := frozen_of_row wr w.heap.size 10 _ 35 HBXr.out
          have r0 := cell_of_row wr px 0 _ 107 (0, 0) HPGr.out
          have s0 := frozen_of_row wr px 0 _ 107 HPGr.out
          simp only [List.getElem?_toArray, List.getElem?_cons_zero] at r0
          have hpx1 : Hid (px ≠ w.heap.size ∧ px ≠ w.heap.size + 1) := Lib.hid (by have := HPX.out; omega)
          have hds : Hid (P.d ++ P.s = ffAll (x ++ y) k0) := Lib.hid (by rw [HPE.out, wr_all, HK0.out.2.2])
          clear x0 x1 x2 x3 x4 x5 x6 x7 x8 x9 x10 f10 p0 p1 q0 q1
          by_cases htorn : k0 < L
          · have hst : Hid (P.st = 3) := Lib.hid (by rw [HPE.out, HK0.out.2.2]; exact if_pos (by rw [← HLL.out.1]; exact htorn))
            have ht1 : pb < (L : Int) := by have := HK0.out.1; omega
            clear htorn
            go_wp2
            go_meet
            case rel =>
              have hpx := hpx1.out
              have h1 := heap_setCell_same wr px 0 _ 107 (.int .i64 3) HPGr.out
              have h2 := (heap_setCell_other wr ⟨px, 0, none⟩ w.heap.size (.int .i64 3) (by show w.heap.size ≠ px; omega)).trans HBXr.out
              have h3 := (heap_setCell_other wr ⟨px, 0, none⟩ (w.heap.size + 1) (.int .i64 3) (by show w.heap.size + 1 ≠ px; omega)).trans HRXr.out
              have hpl := HPX.out
              refine ⟨3, true, some ⟨p5, 0, none⟩, L, d5, by rw [HKE.out.1], Lib.hid ⟨hst.out.symm, HKE.out.2.symm⟩, Lib.hid (heap_setCell_same _ _ 10 _ 35 _ h2), Lib.hid ((heap_setCell_other _ ⟨w.heap.size, 10, none⟩ _ _ (by show w.heap.size + 1 ≠ w.heap.size; omega)).trans h3), Lib.hid ((heap_setCell_other _ ⟨w.heap.size, 10, none⟩ _ _ (by show px ≠ w.heap.size; omega)).trans h1), Lib.hid (fun _ => ?_), Lib.hid ((HBr.out.setCell (p := ⟨px, 0, none⟩) (by show w.heap.size ≤ px; omega) _).setCell (p := ⟨w.heap.size, 10, none⟩) (Nat.le_refl _) _)⟩
              rw [hds.out]
              exact byt_set h2 (by decide) (byt_set HPGr.out (by decide) hrow.out _) _
          · have hst : Hid (P.st = 2) := Lib.hid (by rw [HPE.out, HK0.out.2.2]; exact if_neg (by rw [← HLL.out.1]; exact htorn))
            have ht1 : ¬ pb < (L : Int) := by have := HK0.out.1; omega
            clear htorn
            go_wp2
            go_meet
            case rel =>
              have hpx := hpx1.out
              refine ⟨2, true, some ⟨p5, 0, none⟩, L, d5, by rw [HKE.out.1], Lib.hid ⟨hst.out.symm, HKE.out.2.symm⟩, Lib.hid (heap_setCell_same _ _ 10 _ 35 _ HBXr.out), Lib.hid ((heap_setCell_other _ ⟨w.heap.size, 10, none⟩ _ _ (by show w.heap.size + 1 ≠ w.heap.size; omega)).trans HRXr.out), Lib.hid ((heap_setCell_other _ ⟨w.heap.size, 10, none⟩ _ _ (by show px ≠ w.heap.size; omega)).trans HPGr.out), Lib.hid (fun _ => ?_), Lib.hid (HBr.out.setCell (p := ⟨w.heap.size, 10, none⟩) (Nat.le_refl _) _)⟩
              rw [hds.out]
              exact byt_set HBXr.out (by decide) hrow.out _
    · have hcb : (s.n == s.po) = false := by simpa using hcut
      have HF2 := Lib.hid (HFF.out W6 HB6.out)
      have E0 : Hid (s.exE 54 = (if s.F.contains s.n then 54 else 0) ∧ (if s.n = s.po then true else false) = false) := Lib.hid ⟨if_neg hcut, if_neg hcut⟩
      have HPE : Hid (P = (if s.F.contains s.n = true then ⟨4, [], []⟩ else wr x y (x.length + y.length))) := Lib.hid (by rw [HPP.out]; exact if_neg hcut)
      clear hcut
      cases hF : s.F.contains s.n with
      | true =>
        have HKE : Hid (ke = 54) := Lib.hid (by rw [HSE.out.2, E0.out.1, hF]; rfl)
        have HPF : Hid (P = ⟨4, [], []⟩) := Lib.hid (by rw [HPE.out, if_pos hF])
        rw [hF] at HF2
        clear hF
        go_wp2_with ((go_at_call 58; with_reducible refine HF2.out.mono ?_); rintro e w7 ⟨rfl, hb7⟩; have HB7 := Lib.hid hb7; have HPG7 := Lib.hid ((hb7.block _ (Array.getElem?_eq_some_iff.1 HPG6.out).1).trans HPG6.out); have q07 := frozen_of_row w7 px 0 _ 107 HPG7.out; have q17 := frozen_of_row w7 px 1 _ 107 HPG7.out; have p07 := cell_of_row w7 px 0 _ 107 (0, 0) HPG7.out; have p17 := cell_of_row w7 px 1 _ 107 (0, 0) HPG7.out; simp only [List.getElem?_toArray, List.getElem?_cons_zero, List.getElem?_cons_succ] at p07 p17; clear hb7)
        go_meet
        case rel =>
          have hS := ((St.start (vals := #[.int .i64 4, .slice none 0 0]) HPG7.out rfl).set _ rfl).set _ rfl
          have hpx := HPX.out
          refine ⟨4, false, none, 0, 0, by rw [HKE.out], Lib.hid ⟨by rw [HPF.out], E0.out.2.symm⟩, Lib.hid ((hS.oth _ (by omega)).trans ((HB7.out.block _ (Array.getElem?_eq_some_iff.1 HBX6.out).1).trans HBX6.out)), Lib.hid ((hS.oth _ (by omega)).trans ((HB7.out.block _ (Array.getElem?_eq_some_iff.1 HRX6.out).1).trans HRX6.out)), Lib.hid hS.done, Lib.hid (fun h => by omega), Lib.hid (hS.bel _ _ (by omega) (HB6.out.trans (HB7.out.mono HB6.out.size)))⟩
      | false =>
        have HKE : Hid (ke = 0) := Lib.hid (by rw [HSE.out.2, E0.out.1, hF]; rfl)
        have HPF : Hid (P = wr x y (x.length + y.length)) := Lib.hid (by rw [HPE.out, if_neg (by rw [hF]; decide)])
        rw [hF] at HF2
        clear hF
        go_wp2_with ((go_at_call 58; with_reducible refine HF2.out.mono ?_); rintro e w7 ⟨rfl, hb7⟩; have HB7 := Lib.hid hb7; clear hb7)
        go_meet
        case rel =>
          have hfull : ¬ x.length + y.length < (x ++ y).length := by rw [List.length_append]; omega
          have hst : P.st = 2 := by rw [HPF.out]; exact if_neg hfull
          have hds : P.d ++ P.s = x ++ y := by rw [HPF.out, wr_all, ffAll, if_neg hfull]
          refine ⟨2, false, some ⟨p5, 0, none⟩, L, d5, by rw [HKE.out], Lib.hid ⟨hst.symm, E0.out.2.symm⟩, Lib.hid ((HB7.out.block _ (Array.getElem?_eq_some_iff.1 HBX6.out).1).trans HBX6.out), Lib.hid ((HB7.out.block _ (Array.getElem?_eq_some_iff.1 HRX6.out).1).trans HRX6.out), Lib.hid ((HB7.out.block _ (Array.getElem?_eq_some_iff.1 HPG6.out).1).trans HPG6.out), Lib.hid (fun h => ?_), Lib.hid (HB6.out.trans (HB7.out.mono HB6.out.size))⟩
          rw [hds]
          exact (BytT.of_own HO6.out (by have := HLO.out; have := HS3.out; omega)).below HB7.out
  case rest =>
    clear x0 x1 x2 x3 x4 x5 x6 x7 x8 x9 x10 f10 p0 p1 q0 q1 HBX6 HRX6 HPG6 HO6 HB6 HX HBX HRX HB0 HW HE HNX HFF HBA HBB
    obtain ⟨st, o, PA, PL, PC, rfl, HC, HBXc, HRXc, HPGc, HBYc, HBc⟩ := hcut
    obtain ⟨W8, hW8⟩ : ∃ W8, W8 = wc := ⟨_, rfl⟩
    subst hW8
    obtain ⟨hh, hrow⟩ := HROW.out
    obtain ⟨pv, hpv, gi, ci, curi, rfl, hci, hhi, hri⟩ := hrow i HIJ.out.1
    have hcell : ∀ k, k < s.np * 2 → ∃ u, curi[k]? = some u ∧ u.oneCell' = true := fun k hk => by
      obtain ⟨h1, bv, h2, -, h3⟩ := hri (k / 2) (by omega)
      rcases Nat.mod_two_eq_zero_or_one k with h | h
      · have e : k / 2 * 2 = k := by omega
        rw [e] at h1
        exact ⟨_, h1, rfl⟩
      · have e : k / 2 * 2 + 1 = k := by omega
        rw [e] at h2
        exact ⟨_, h2, h3⟩
    have hnp := HNB.out.2.1
    have hlen : s.np * 2 ≤ curi.size := by
      obtain ⟨u, hu, -⟩ := hcell (s.np * 2 - 1) (by omega)
      have := (Array.getElem?_eq_some_iff.1 hu).1
      omega
    obtain ⟨i0, hi0, hz0, hz1, hz2⟩ := info_parts info107
    obtain ⟨G, d, W9, hrun, ⟨cur9, hG9, hd9, hc9⟩, hGs, hb9⟩ := app_copy (W := W8) (m := s.np) (c := ci) (cur := curi) (g := gi) Try.underlying76 hi0 hz0 hz1 hz2 rfl (by decide) ((HBc.out.block gi (Array.getElem?_eq_some_iff.1 hhi).1).trans hhi) (curi.toList.take (s.np * 2)) (by rw [List.length_take]; simp; omega) (fun k u hu => by
        rw [List.getElem?_take] at hu
        split at hu
        · simpa using hu
        · cases hu) (fun u hu => by
        obtain ⟨k, hk, e⟩ := List.mem_iff_getElem.1 hu
        rw [List.length_take] at hk
        obtain ⟨u', h1, h2⟩ := hcell k (by omega)
        rw [List.getElem_take] at e
        have : curi[k]? = some u := by rw [← e]; simp
        rw [h1] at this
        cases this
        exact h2) (by omega) (by unfold maxLen; omega) (by omega)
    have HC9 : Hid (∀ k, k < s.np * 2 → cur9[k]? = curi[k]?) := Lib.hid (fun k hk => by
      rw [hc9 k hk, List.getElem?_take, if_pos hk]
      simp)
    have hl1 := (Array.getElem?_eq_some_iff.1 HBXc.out).1
    have hl2 := (Array.getElem?_eq_some_iff.1 HRXc.out).1
    have hl3 := (Array.getElem?_eq_some_iff.1 HPGc.out).1
    have HN : Hid (G ≠ w.heap.size ∧ G ≠ w.heap.size + 1 ∧ G ≠ px) := Lib.hid ⟨by omega, by omega, by omega⟩
    have HGS : Hid (w.heap.size ≤ G) := Lib.hid (by omega)
    have HBX9 := Lib.hid ((hb9.block _ hl1).trans HBXc.out)
    have HRX9 := Lib.hid ((hb9.block _ hl2).trans HRXc.out)
    have HPG9 := Lib.hid ((hb9.block _ hl3).trans HPGc.out)
    have HB9 := Lib.hid (HBc.out.trans (hb9.mono HBc.out.size))
    have HBY9 : Hid ((st = 2 ∨ st = 3) → BytT s.lo W9 (.slice PA PL PC) (P.d ++ P.s)) := Lib.hid (fun h => (HBYc.out h).below hb9)
    have HG9 := Lib.hid hG9
    have HD9 := Lib.hid hd9
    have b5 : (W8.alloc (.cells #[] 107)).cell? ⟨w.heap.size, 5, none⟩ = some (.slice (some ⟨g, 0, none⟩) s.nb c) := (cell_of_row _ _ 5 _ _ _ ((heap_alloc_old W8 _ hl1).trans HBXc.out)).trans rfl
    have bg := (cell_of_row (W8.alloc (.cells #[] 107)) g i _ _ _ ((heap_alloc_old W8 _ (Nat.lt_of_lt_of_le (Array.getElem?_eq_some_iff.1 hh).1 HBc.out.size)).trans ((HBc.out.block g (Array.getElem?_eq_some_iff.1 hh).1).trans hh))).trans hpv
    have p0 := cell_of_row W9 px 0 _ 107 (0, 0) HPG9.out
    have p1 := cell_of_row W9 px 1 _ 107 (0, 0) HPG9.out
    simp only [List.getElem?_toArray, List.getElem?_cons_zero, List.getElem?_cons_succ] at p0 p1
    obtain ⟨t1, ht1⟩ : ∃ t1, cur9[j * 2]? = some t1 := by
      obtain ⟨u, hu, -⟩ := hcell (j * 2) (by have := HIJ.out.2.1; omega)
      exact ⟨u, (HC9.out _ (by have := HIJ.out.2.1; omega)).trans hu⟩
    obtain ⟨t2, ht2⟩ : ∃ t2, cur9[j * 2 + 1]? = some t2 := by
      obtain ⟨u, hu, -⟩ := hcell (j * 2 + 1) (by have := HIJ.out.2.1; omega)
      exact ⟨u, (HC9.out _ (by have := HIJ.out.2.1; omega)).trans hu⟩
    have z1 : W9.cell? ⟨G, j * 2, none⟩ = some t1 := (cell_of_row _ _ _ _ _ _ HG9.out).trans ht1
    have z2 : W9.cell? ⟨G, j * 2 + 1, none⟩ = some t2 := (cell_of_row _ _ _ _ _ _ HG9.out).trans ht2
    have y1 := frozen_of_row W9 G (j * 2) _ _ HG9.out
    have y2 := frozen_of_row W9 G (j * 2 + 1) _ _ HG9.out
    have j0 : (0 : Int) ≤ (j : Int) := by omega
    have i00 : (0 : Int) ≤ (i : Int) := by omega
    have HRI := Lib.hid hri
    clear hh hrow hhi hri hcell hlen hi0 hz0 hz1 hz2 hc9 hG9 hd9 hGs hb9 hl1 hl2 hl3 hpv hnp hci ht1 ht2
    go_upto_region 21 with fail
    obtain ⟨W10, hW10⟩ : ∃ W10, W10 = (W9.setCell ⟨G, j * 2, none⟩ (.int .i64 st)).setCell ⟨G, j * 2 + 1, none⟩ (.slice PA PL PC) := ⟨_, rfl⟩
    rw [← hW10]
    have hB10 : Below w.heap.size w W10 := by rw [hW10]; exact (HB9.out.setCell (p := ⟨G, j * 2, none⟩) HGS.out _).setCell (p := ⟨G, j * 2 + 1, none⟩) HGS.out _
    have ho10 : ∀ k, k ≠ G → W10.heap[k]? = W9.heap[k]? := fun k hk => by rw [hW10]; exact (heap_setCell_other _ ⟨G, j * 2 + 1, none⟩ k _ hk).trans (heap_setCell_other W9 ⟨G, j * 2, none⟩ k _ hk)
    have hG10 : W10.heap[G]? = some (.cells ((cur9.setIfInBounds (j * 2) (.int .i64 st)).setIfInBounds (j * 2 + 1) (.slice PA PL PC)) 107 (0, 0)) := by rw [hW10]; exact heap_setCell_same _ G (j * 2 + 1) _ 107 _ (heap_setCell_same W9 G (j * 2) cur9 107 _ HG9.out)
    have hby10 : ∀ {v : Value} {l : List UInt8}, BytT s.lo W9 v l → BytT s.lo W10 v l := fun h => by rw [hW10]; exact byt_set (heap_setCell_same W9 G (j * 2) cur9 107 _ HG9.out) (by decide) (byt_set HG9.out (by decide) h _) _
    have HBX10 := Lib.hid ((ho10 _ HN.out.1.symm).trans HBX9.out)
    have HRX10 := Lib.hid ((ho10 _ HN.out.2.1.symm).trans HRX9.out)
    have HB10 := Lib.hid hB10
    have HGR10 := Lib.hid (H.out.grid.kt (KT.below hB10))
    have HPR10 : Hid (PrR s.lo W10 (.slice (some ⟨G, 0, none⟩) s.np d) s.np (fun k => if k = j then P else pgF s i k)) := Lib.hid ⟨G, d, _, rfl, HD9.out, hG10, fun k hk => by
      have hjj := HIJ.out.2.1
      have hsz : j * 2 + 1 < cur9.size := (Array.getElem?_eq_some_iff.1 ((HC9.out (j * 2 + 1) (by omega)).trans (HRI.out j hjj).2.choose_spec.1)).1
      dsimp only
      by_cases e : k = j
      · subst e
        rw [if_pos rfl]
        refine ⟨?_, .slice PA PL PC, ?_, fun h => ?_, rfl⟩
        · rw [Array.getElem?_setIfInBounds_ne (by omega), Array.getElem?_setIfInBounds_self_of_lt (by omega), HC.out.1]
        · rw [Array.getElem?_setIfInBounds_self_of_lt (by rw [Array.size_setIfInBounds]; omega)]
        · exact hby10 (HBY9.out (by rw [HC.out.1]; exact h))
      · rw [if_neg e]
        obtain ⟨h1, bv, h2, h3, h4⟩ := HRI.out k hk
        refine ⟨?_, bv, ?_, fun h => (h3 h).below hB10, h4⟩
        · rw [Array.getElem?_setIfInBounds_ne (by omega), Array.getElem?_setIfInBounds_ne (by omega), HC9.out _ (by omega)]
          exact h1
        · rw [Array.getElem?_setIfInBounds_ne (by omega), Array.getElem?_setIfInBounds_ne (by omega), HC9.out _ (by omega)]
          exact h2⟩
    have HWI : Hid (Calls Try.prog 59 #[.agg #[.int .i64 (s.nb : Int), .int .i64 (s.np : Int), .int .i64 (s.sz : Int), .int .i64 s.en, .slice A1 n1 c1, .slice (some ⟨g, 0, none⟩) s.nb c, .slice A3 n3 c3, .int .i64 s.n, .int .i64 s.po, .int .i64 pb, .bool o], .int .i64 (i : Int), .slice (some ⟨G, 0, none⟩) s.np d] W10 (fun e w' => ∃ vp', e = .returned (.agg #[.int .i64 (s.nb : Int), .int .i64 (s.np : Int), .int .i64 (s.sz : Int), .int .i64 s.en, .slice A1 n1 c1, vp', .slice A3 n3 c3, .int .i64 s.n, .int .i64 s.po, .int .i64 pb, .bool o]) ∧ GrR s.lo w' vp' s.nb s.np (fun a => if a = i then (fun k => if k = j then P else pgF s i k) else pgF s a) ∧ Below W10.heap.size W10 w')) := Lib.hid (rwith_any (s := s.ctl s.po s.pb s.n o) (pb := pb) (F := pgF s) HGR10.out HNB.out.1.2 HNB.out.1.1 HPR10.out i HIJ.out.1 ⟨_, _, _, rfl⟩ ⟨_, _, _, rfl⟩)
    clear hW10 hB10 ho10 hG10 hby10 z1 z2 y1 y2 b5 bg p0 p1 HRI HC9 HG9 HBY9 HBYc hrun HBXc HRXc HPGc HBX9 HRX9 HPG9 HB9 HBc
    obtain ⟨x0, x1, x2, x3, x4, x5, x6, x7, x8, x9, x10⟩ := box11 HBX10.out (Below.refl _ _)
    go_upto_region 22 with (first
      | ((go_at_call 59; with_reducible refine HWI.out.mono ?_); rintro e w11 ⟨vp', rfl, hgr, hb11⟩; obtain ⟨G2, d2, cur2, rfl, hgr2⟩ := id hgr; clear hgr2; have HBX11 := Lib.hid ((hb11.block _ (Array.getElem?_eq_some_iff.1 HBX10.out).1).trans HBX10.out); have HRX11 := Lib.hid ((hb11.block _ (Array.getElem?_eq_some_iff.1 HRX10.out).1).trans HRX10.out); have HGR11 := Lib.hid hgr; have HB11 := Lib.hid (HB10.out.trans (hb11.mono HB10.out.size)); clear hgr hb11)
      | (refine wpList_store_row rfl 35 _ _ rfl w.heap.size #[.int .i64 (s.nb : Int), .int .i64 (s.np : Int), .int .i64 (s.sz : Int), .int .i64 s.en, .slice A1 n1 c1, .slice (some ⟨G2, 0, none⟩) s.nb d2, .slice A3 n3 c3, .int .i64 s.n, .int .i64 s.po, .int .i64 pb, .bool o] rfl rfl 35 _ HBX11.out info35 rfl (by simp [Value.oneCell']) ?_))
    clear x0 x1 x2 x3 x4 x5 x6 x7 x8 x9 x10
    obtain ⟨W12, hW12⟩ : ∃ W12, W12 = w11.setRow w.heap.size #[.int .i64 (s.nb : Int), .int .i64 (s.np : Int), .int .i64 (s.sz : Int), .int .i64 s.en, .slice A1 n1 c1, .slice (some ⟨G2, 0, none⟩) s.nb d2, .slice A3 n3 c3, .int .i64 s.n, .int .i64 s.po, .int .i64 pb, .bool o] := ⟨_, rfl⟩
    rw [← hW12]
    have HBX12 : Hid (W12.heap[w.heap.size]? = some (.cells #[.int .i64 (s.nb : Int), .int .i64 (s.np : Int), .int .i64 (s.sz : Int), .int .i64 s.en, .slice A1 n1 c1, .slice (some ⟨G2, 0, none⟩) s.nb d2, .slice A3 n3 c3, .int .i64 s.n, .int .i64 s.po, .int .i64 pb, .bool o] 35 (0, 0))) := Lib.hid (by rw [hW12]; exact setRow_at HBX11.out)
    have HRX12 : Hid (W12.heap[w.heap.size + 1]? = some (.cells #[.int .i64 0, .int .i64 0, .int .i64 0, .int .i64 0, .slice none 0 0, .slice none 0 0, .slice none 0 0, .int .i64 0, .int .i64 0, .int .i64 0, .bool false] 35 (0, 0))) := Lib.hid (by rw [hW12]; exact (setRow_other w11 _ _ _ (by omega)).trans HRX11.out)
    have HB12 : Hid (Below w.heap.size w W12) := Lib.hid (by rw [hW12]; exact setRow_below HB11.out (Nat.le_refl _))
    have hkt12 : KT w11 W12 := by
      rw [hW12]
      refine ⟨by rw [size_setRow]; exact Nat.le_refl _, fun k cur' ty fr hk ht => ?_⟩
      by_cases e : k = w.heap.size
      · subst e
        have := ty_ne HBX11.out hk
        subst this
        rcases ht with h | h | h | h <;> exact absurd h (by decide)
      · exact (setRow_other w11 _ k _ e).trans hk
    have HGR12 := Lib.hid (HGR11.out.kt hkt12)
    have b7 : W12.cell? ⟨w.heap.size, 7, none⟩ = some (.int .i64 s.n) := (cell_of_row _ _ 7 _ _ _ HBX12.out).trans rfl
    have f7 : W12.frozen? ⟨w.heap.size, 7, none⟩ = false := frozen_of_row _ _ 7 _ _ HBX12.out
    clear hW12 hkt12
    go_upto_region 23 with fail
    obtain ⟨W13, hW13⟩ : ∃ W13, W13 = W12.setCell ⟨w.heap.size, 7, none⟩ (.int .i64 (s.n + 1)) := ⟨_, rfl⟩
    rw [← hW13]
    have hbx13 : W13.heap[w.heap.size]? = some (.cells #[.int .i64 (s.nb : Int), .int .i64 (s.np : Int), .int .i64 (s.sz : Int), .int .i64 s.en, .slice A1 n1 c1, .slice (some ⟨G2, 0, none⟩) s.nb d2, .slice A3 n3 c3, .int .i64 (s.n + 1), .int .i64 s.po, .int .i64 pb, .bool o] 35 (0, 0)) := by rw [hW13]; exact heap_setCell_same W12 w.heap.size 7 _ 35 _ HBX12.out
    have HRX13 : Hid (W13.heap[w.heap.size + 1]? = some (.cells #[.int .i64 0, .int .i64 0, .int .i64 0, .int .i64 0, .slice none 0 0, .slice none 0 0, .slice none 0 0, .int .i64 0, .int .i64 0, .int .i64 0, .bool false] 35 (0, 0))) := Lib.hid (by rw [hW13]; exact (heap_setCell_other W12 ⟨w.heap.size, 7, none⟩ _ _ (by show w.heap.size + 1 ≠ w.heap.size; omega)).trans HRX12.out)
    have hbf : Below w.heap.size w (W13.setRow (w.heap.size + 1) #[.int .i64 (s.nb : Int), .int .i64 (s.np : Int), .int .i64 (s.sz : Int), .int .i64 s.en, .slice A1 n1 c1, .slice (some ⟨G2, 0, none⟩) s.nb d2, .slice A3 n3 c3, .int .i64 (s.n + 1), .int .i64 s.po, .int .i64 pb, .bool o]) := setRow_below (by rw [hW13]; exact HB12.out.setCell (p := ⟨w.heap.size, 7, none⟩) (Nat.le_refl _) _) (by omega)
    have hkt : KT W12 (W13.setRow (w.heap.size + 1) #[.int .i64 (s.nb : Int), .int .i64 (s.np : Int), .int .i64 (s.sz : Int), .int .i64 s.en, .slice A1 n1 c1, .slice (some ⟨G2, 0, none⟩) s.nb d2, .slice A3 n3 c3, .int .i64 (s.n + 1), .int .i64 s.po, .int .i64 pb, .bool o]) := by
      refine ⟨by rw [size_setRow, hW13, World.size_setCell]; exact Nat.le_refl _, fun k cur' ty fr hk ht => ?_⟩
      have n1 : k ≠ w.heap.size := fun e => by
        subst e
        have := ty_ne HBX12.out hk
        subst this
        rcases ht with h | h | h | h <;> exact absurd h (by decide)
      have n2 : k ≠ w.heap.size + 1 := fun e => by
        subst e
        have := ty_ne HRX12.out hk
        subst this
        rcases ht with h | h | h | h <;> exact absurd h (by decide)
      rw [setRow_other W13 _ k _ n2, hW13, heap_setCell_other W12 ⟨w.heap.size, 7, none⟩ k _ n1]
      exact hk
    have HFIN : Hid (RvPost w fs se ke (.returned (.tuple #[.agg #[.int .i64 (s.nb : Int), .int .i64 (s.np : Int), .int .i64 (s.sz : Int), .int .i64 s.en, .slice A1 n1 c1, .slice (some ⟨G2, 0, none⟩) s.nb d2, .slice A3 n3 c3, .int .i64 (s.n + 1), .int .i64 s.po, .int .i64 pb, .bool o], .int .i64 ke])) (W13.setRow (w.heap.size + 1) #[.int .i64 (s.nb : Int), .int .i64 (s.np : Int), .int .i64 (s.sz : Int), .int .i64 s.en, .slice A1 n1 c1, .slice (some ⟨G2, 0, none⟩) s.nb d2, .slice A3 n3 c3, .int .i64 (s.n + 1), .int .i64 s.po, .int .i64 pb, .bool o])) := Lib.hid (by
      obtain ⟨c1', c2'⟩ := HC.out
      rw [HSE.out.1, ← c2']
      refine ⟨_, _, _, pb, rfl, H.out.nxt (KT.below hbf) o _ (fun k => if k = j then P else pgF s i k) (HGR12.out.kt hkt) (fun k hk => ?_) ?_, hbf⟩
      · have hl := HIJ.out.2.2
        by_cases e : k = j
        · subst e
          rw [if_pos rfl]
          simp [hl]
        · rw [if_neg e]
          unfold pgF
          rcases Nat.lt_or_gt_of_ne e with e1 | e1
          · rw [List.getElem?_append_left (by omega)]
          · rw [List.getElem?_eq_none (by omega), List.getElem?_eq_none (by simp; omega)]
      · have he : ((List.range s.nb).map fun a => if a = i then (s.bk i).er else (s.bk a).er) = (List.range s.nb).map fun a => (s.bk a).er := by
          apply List.map_congr_left
          intro a _
          by_cases e : a = i
          · rw [if_pos e, e]
          · rw [if_neg e]
        show IntL _ _ ((List.range s.nb).map fun a => if a = i then (s.bk i).er else (s.bk a).er)
        rw [he]
        exact H.out.ers.kt (KT.below hbf))
    obtain ⟨x0, x1, x2, x3, x4, x5, x6, x7, x8, x9, x10⟩ := box11 hbx13 (Below.refl _ _)
    clear hW13 hbx13 hbf hkt b7 f7
    go_wp2_with (refine wpList_store_row rfl 35 _ _ rfl (w.heap.size + 1) #[.int .i64 (s.nb : Int), .int .i64 (s.np : Int), .int .i64 (s.sz : Int), .int .i64 s.en, .slice A1 n1 c1, .slice (some ⟨G2, 0, none⟩) s.nb d2, .slice A3 n3 c3, .int .i64 (s.n + 1), .int .i64 s.po, .int .i64 pb, .bool o] rfl rfl 35 _ HRX13.out info35 rfl (by simp [Value.oneCell']) ?_)
    refine bodyPost_ret (v := .tuple #[.agg #[.int .i64 (s.nb : Int), .int .i64 (s.np : Int), .int .i64 (s.sz : Int), .int .i64 s.en, .slice A1 n1 c1, .slice (some ⟨G2, 0, none⟩) s.nb d2, .slice A3 n3 c3, .int .i64 (s.n + 1), .int .i64 s.po, .int .i64 pb, .bool o], .int .i64 ke]) ?_ rfl HFIN.out
    exact results_row1 (a := 10) (b := 11) (ty := 35) rfl _ _ (w.heap.size + 1) 35 #[.int .i64 (s.nb : Int), .int .i64 (s.np : Int), .int .i64 (s.sz : Int), .int .i64 s.en, .slice A1 n1 c1, .slice (some ⟨G2, 0, none⟩) s.nb d2, .slice A3 n3 c3, .int .i64 (s.n + 1), .int .i64 s.po, .int .i64 pb, .bool o] (0, 0) _ rfl (setRow_at HRX13.out) Try.underlying35 rfl info35
end Go.Proofs.Ytddejcoagcaidaa
