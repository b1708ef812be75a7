/- The sort family of package slices: symMergeCmpFunc over a row of elements of one cell: it merges two ordered parts. Conditions stand in each theorem. -/
import Derived.Test.YtajlddgemkkcdaaQM
import Derived.Deep.Cut
namespace Go.Proofs.Ytajlddgemkkcdaa
open Go.Shelf Go.RowKit Go.Lib Go.Sort
set_option linter.unusedVariables false
variable {P : Program} {α : Type} [Inhabited α]
omit [Inhabited α] in
theorem lt_yes {cf : α → α → Int} {x y : α} (h : ltOf cf x y = true) : cf x y < 0 := of_decide_eq_true h
omit [Inhabited α] in
theorem lt_no {cf : α → α → Int} {x y : α} (h : ltOf cf x y = false) : ¬ cf x y < 0 := of_decide_eq_false h
/-- What a call of the merge leaves. -/
def MPost (R : α → α → Prop) (enc : α → Value) (w0 : World) (blk off : Nat) (d : Array α) (a b : Nat) (e : Ending) (w' : World) : Prop :=
  e = .returned (.tuple #[]) ∧ ∃ d', PermIn a b d d' ∧ Ord R d' a b ∧ SW enc w0 blk off d' w'
set_option maxHeartbeats 16000000 in
set_option maxRecDepth 1000000 in
theorem symMerge_any (L : SLay P) (enc : α → Value) (cf : α → α → Int) (g : Nat) (cb : Array Value) (blk off cap : Nat) (d0 : Array α) (w0 : World) (Q : α → α → Prop) (hT : ∀ x y z, Q x y → Q y z → Q x z)
    (eg : ∀ args w, (callFunc g args).run P w = .ok (.enter g args) w) (hcmp : CmpLays1 P g cb enc cf blk off d0.size w0) (R : Row1 enc w0 blk off d0) (hsz : d0.size < 4611686018427387904) :
    ∀ (N a m b : Nat) (d : Array α) (w : World), b - a ≤ N → d0.size = d.size → SW enc w0 blk off d w → a < m → m < b → b ≤ d.size → Pre Q (ltOf cf) d a m b →
    Calls P 107 #[.slice (some ⟨blk, off, none⟩) d.size cap, .int .i64 a, .int .i64 m, .int .i64 b, .func (.func g) #[] cb] w (MPost Q enc w0 blk off d a b) := by
  intro N
  induction N with
  | zero => intro a m b d w h1 h2 h3 h4 h5; omega
  | succ N ih =>
  intro a m b d w hN hs S ham hmb hb hPre
  have mixed := L.mixed; have t0 := L.t0; have a0 := L.a0; have z0 := L.z0; have v0 := L.v0; have t3 := L.t3; have a3 := L.a3; have z3 := L.z3; have v3 := L.v3; have t4 := L.t4; have a4 := L.a4; have z4 := L.z4; have v4 := L.v4; have t61 := L.t61; have a61 := L.a61; have z61 := L.z61; have v61 := L.v61; have t50 := L.t50; have a50 := L.a50; have z50 := L.z50; have v50 := L.v50; have t32 := L.t32; have a32 := L.a32; have z32 := L.z32; have v32 := L.v32
  have u3 := run_underlying L.t3; have u61 := run_underlying L.t61
  have S0 : Aside (SW enc w0 blk off d w) := S
  have hcl0 := R.hO.cells
  simp only [Value.cells] at hcl0
  have hst := R.hO.store P
  have HC : Aside _ := hcmp
  have HT : Aside _ := hT
  have HP : Aside (Pre Q (ltOf cf) d a m b) := hPre
  have IH : Aside _ := ih
  clear S hcmp hT ih hPre
  have e107 : ∀ args w, (callFunc 107 args).run P w = .ok (.enter 107 args) w := enters_of L.f107 (by kernel_rfl) rfl
  have e110 : ∀ args w, (callFunc 110 args).run P w = .ok (.enter 110 args) w := enters_of L.f110 (by kernel_rfl) rfl
  by_cases hone : m = a + 1
  · -- the first part has one element
    have g1 : (m : Int) - (a : Int) = 1 := by omega
    have hm1 : m ≤ a + 1 := by omega
    have hm2 : a + 1 ≤ m := by omega
    have HM : Hid (m = a + 1) := hone
    clear hone
    go_enter L.f107, Try.ntmps107
    go_wp2
    go_loopg [10, 11] b (fun kx s10 s11 wr => ∃ (i j : Nat), s10 = .int .i64 i ∧ s11 = .int .i64 j ∧ a + 1 ≤ i ∧ i ≤ j ∧ j ≤ b ∧ j - i ≤ kx ∧ Aside ((∀ t, a + 1 ≤ t → t < i → Q d[t]! d[a]!) ∧ (∀ t, j ≤ t → t < b → Q d[a]! d[t]!)) ∧ Aside (SW enc w0 blk off d wr))
    case atStart => exact ⟨m, b, rfl, rfl, hm2, by omega, Nat.le_refl _, by omega, ⟨fun t h1 h2 => absurd h1 (by omega), fun t h1 h2 => absurd h1 (by omega)⟩, S0⟩
    case round =>
      clear S0
      obtain ⟨i, j, rfl, rfl, hi, hij, hjb, hkx, HI, S1⟩ := hrel
      by_cases hlt : i < j
      · obtain ⟨h, hh⟩ : ∃ h : Nat, h = (i + j) / 2 := ⟨_, rfl⟩
        have eh : ((i : Int) + (j : Int)) / 2 = (h : Int) := by omega
        have hih : i ≤ h := by omega
        have hhj : h < j := by omega
        clear hh
        cases hlv : ltOf cf d[h]! d[a]! with
        | true =>
          have J : Aside (∀ t, a + 1 ≤ t → t < h + 1 → Q d[t]! d[a]!) := fun t h1 h2 => by
            have := HP.out.yes a h (by omega) (by omega) (by omega) (by omega) hlv
            by_cases ht : t = h
            · rw [ht]; exact this
            · exact HT.out _ _ _ (HP.out.right t h (by omega) (by omega) (by omega)) this
          have LV : Hid _ := hlv
          clear hlv
          have ra1 : IntKind.i64.wrap ((h : Int)) = (h : Int) := by rw [IntKind.wrap_i64]; omega
          have rc1 : IntKind.i64.wrap ((a : Int)) = (a : Int) := by rw [IntKind.wrap_i64]; omega
          have ea1 : ((h : Int)).toNat = h := by omega
          have pa1 : (0 : Int) ≤ (h : Int) := by omega
          have ba1 : (h : Int) < (d.size : Int) := by omega
          have ec1 : ((a : Int)).toNat = a := by omega
          have pc1 : (0 : Int) ≤ (a : Int) := by omega
          have bc1 : (a : Int) < (d.size : Int) := by omega
          obtain ⟨x1, hx1⟩ : ∃ x, x = d[h]! := ⟨_, rfl⟩
          obtain ⟨y1, hy1⟩ : ∃ x, x = d[a]! := ⟨_, rfl⟩
          have l1a := S1.out.cl R (by omega) h (by omega)
          have l1b := S1.out.cl R (by omega) a (by omega)
          rw [← hx1] at l1a
          rw [← hy1] at l1b
          have hc1 := S1.out.cmp HC.out (by omega) x1 y1
          have hv1 : cf x1 y1 < 0 := by rw [hx1, hy1]; exact lt_yes LV.out
          have hd1 : decide (cf x1 y1 < 0) = true := decide_eq_true hv1
          clear hx1 hy1
          go_wp2_with fail
          go_quiet_grown (first | (go_at_fn g; refine Calls.grown_of (hc1 _ _)))
          have S2 : Aside (SW enc w0 blk off d (grow (wr.drewN nq) osq)) := S1.out.grown nq osq
          clear l1a l1b hc1 S1
          generalize grow (wr.drewN nq) osq = wv1 at S2 ⊢
          clear nq osq
          go_wp2
          go_roundg (j - (h + 1))
          case measure => omega
          case rel => exact ⟨h + 1, j, by go_num, rfl, by omega, by omega, hjb, Nat.le_refl _, ⟨J.out, HI.out.2⟩, S2⟩
        | false =>
          have J : Aside (∀ t, h ≤ t → t < b → Q d[a]! d[t]!) := fun t h1 h2 => by
            have := HP.out.no a h (by omega) (by omega) (by omega) (by omega) hlv
            by_cases ht : t = h
            · rw [ht]; exact this
            · exact HT.out _ _ _ this (HP.out.right h t (by omega) (by omega) (by omega))
          have LV : Hid _ := hlv
          clear hlv
          have ra2 : IntKind.i64.wrap ((h : Int)) = (h : Int) := by rw [IntKind.wrap_i64]; omega
          have rc2 : IntKind.i64.wrap ((a : Int)) = (a : Int) := by rw [IntKind.wrap_i64]; omega
          have ea2 : ((h : Int)).toNat = h := by omega
          have pa2 : (0 : Int) ≤ (h : Int) := by omega
          have ba2 : (h : Int) < (d.size : Int) := by omega
          have ec2 : ((a : Int)).toNat = a := by omega
          have pc2 : (0 : Int) ≤ (a : Int) := by omega
          have bc2 : (a : Int) < (d.size : Int) := by omega
          obtain ⟨x2, hx2⟩ : ∃ x, x = d[h]! := ⟨_, rfl⟩
          obtain ⟨y2, hy2⟩ : ∃ x, x = d[a]! := ⟨_, rfl⟩
          have l2a := S1.out.cl R (by omega) h (by omega)
          have l2b := S1.out.cl R (by omega) a (by omega)
          rw [← hx2] at l2a
          rw [← hy2] at l2b
          have hc2 := S1.out.cmp HC.out (by omega) x2 y2
          have hv2 : ¬ cf x2 y2 < 0 := by rw [hx2, hy2]; exact lt_no LV.out
          have hd2 : decide (cf x2 y2 < 0) = false := decide_eq_false hv2
          clear hx2 hy2
          go_wp2_with fail
          go_quiet_grown (first | (go_at_fn g; refine Calls.grown_of (hc2 _ _)))
          have S2 : Aside (SW enc w0 blk off d (grow (wr.drewN nq) osq)) := S1.out.grown nq osq
          clear l2a l2b hc2 S1
          generalize grow (wr.drewN nq) osq = wv2 at S2 ⊢
          clear nq osq
          go_wp2
          go_roundg (h - i)
          case measure => omega
          case rel => exact ⟨i, h, rfl, rfl, hi, hih, by omega, Nat.le_refl _, ⟨HI.out.1, J.out⟩, S2⟩
      · obtain rfl : j = i := by omega
        obtain ⟨i1, hi1⟩ : ∃ i1 : Nat, j = i1 + 1 := ⟨j - 1, by omega⟩
        subst hi1
        have ai1 : a ≤ i1 := by omega
        have ib1 : i1 + 1 ≤ b := by omega
        have e1 : ((i1 + 1 : Nat) : Int) - 1 = (i1 : Int) := by omega
        go_wp2
        go_loopg [13] (i1 - a) (fun kx s13 wr => ∃ (p : Nat) (dk : Array α), s13 = .int .i64 p ∧ a ≤ p ∧ p ≤ i1 ∧ i1 - p ≤ kx ∧ dk.size = d.size ∧ Aside (Ixd d dk (rtIx a (a + 1) (p + 1)) ∧ PermIn a b d dk) ∧ Aside (SW enc w0 blk off dk wr))
        case atStart => exact ⟨a, d, rfl, Nat.le_refl _, ai1, Nat.le_refl _, rfl, ⟨(Ixd.refl d).congr (fun t => (rt_start a t).symm), permIn_refl _ _ _⟩, S1⟩
        case round =>
          clear S1
          obtain ⟨p, dk, rfl, hap, hpi, hkx2, hds, HX, S1⟩ := hrel
          by_cases hlt2 : p < i1
          · obtain ⟨q, hq⟩ : ∃ q : Nat, q = p + 1 := ⟨_, rfl⟩
            have eq1 : (p : Int) + 1 = (q : Int) := by omega
            have HQ : Hid (q = p + 1) := hq
            have hqi : q ≤ i1 := by omega
            have hpq : i1 - q < i1 - p := by omega
            have haq : a ≤ q := by omega
            clear hq
            have ea5 : ((p : Int)).toNat = p := by omega
            have pa5 : (0 : Int) ≤ (p : Int) := by omega
            have ba5 : (p : Int) < (d.size : Int) := by omega
            have ra5 : IntKind.i64.wrap ((p : Int)) = (p : Int) := by rw [IntKind.wrap_i64]; omega
            have ec5 : ((q : Int)).toNat = q := by omega
            have pc5 : (0 : Int) ≤ (q : Int) := by omega
            have bc5 : (q : Int) < (d.size : Int) := by omega
            have rc5 : IntKind.i64.wrap ((q : Int)) = (q : Int) := by rw [IntKind.wrap_i64]; omega
            obtain ⟨x5, hx5⟩ : ∃ x, x = dk[p]! := ⟨_, rfl⟩
            obtain ⟨y5, hy5⟩ : ∃ x, x = dk[q]! := ⟨_, rfl⟩
            have S2 : Aside (SW enc w0 blk off (swp dk p q) ((wr.setCell ⟨blk, off + p, none⟩ (enc y5)).setCell ⟨blk, off + q, none⟩ (enc x5)).drew) := by rw [hx5, hy5]; exact S1.out.swapped R p q (by omega) (by omega)
            have c5a := S1.out.c1 R (by omega) p (by omega)
            have c5b := S1.out.c1 R (by omega) q (by omega)
            have f5a := S1.out.f1 R (by omega) p (by omega)
            have f5b := S1.out.f1 R (by omega) q (by omega)
            obtain ⟨u5, c5c⟩ := S1.out.c2 R (by omega) p q (by omega) (by omega) (enc y5)
            rw [← hx5] at c5a
            rw [← hy5] at c5b
            clear S1 hx5 hy5
            go_wp2_with fail
            go_big_region_o
            clear c5a c5b c5c f5a f5b
            generalize ((wr.setCell ⟨blk, off + p, none⟩ (enc y5)).setCell ⟨blk, off + q, none⟩ (enc x5)).drew = w5 at S2 ⊢
            go_wp2
            go_roundg (i1 - q)
            case measure => omega
            case rel =>
              have hq := HQ.out
              subst hq
              exact ⟨p + 1, swp dk p (p + 1), by go_num, haq, hqi, Nat.le_refl _, by rw [size_swp]; exact hds, ⟨(HX.out.1.trans (ixd_swp dk (by omega) (by omega))).congr (fun t => rt_up hap t), permIn_trans _ _ _ _ _ HX.out.2 (swp_permIn dk a b p (p + 1) (by omega) (by omega) (by omega) (by omega) (by omega))⟩, S2⟩
          · obtain rfl : p = i1 := by omega
            go_wp2
            go_end0
            have hm := HM.out
            subst hm
            exact ⟨rfl, dk, HX.out.2, merge_one HT.out HP.out (by omega) ib1 HI.out.1 HI.out.2 HX.out.1, S1.out⟩
  · have g1 : ¬ ((m : Int) - (a : Int) = 1) := by omega
    have g1b : (((m : Int) - (a : Int)) == 1) = false := by simpa using g1
    by_cases hlast : b = m + 1
    · -- the second part has one element
      have g2 : (b : Int) - (m : Int) = 1 := by omega
      have hb1 : b ≤ m + 1 := by omega
      have hb2 : m + 1 ≤ b := by omega
      have HB : Hid (b = m + 1) := hlast
      clear hlast
      go_enter L.f107, Try.ntmps107
      go_wp2
      go_loopg [14, 15] m (fun kx s14 s15 wr => ∃ (i j : Nat), s14 = .int .i64 i ∧ s15 = .int .i64 j ∧ a ≤ i ∧ i ≤ j ∧ j ≤ m ∧ j - i ≤ kx ∧ Aside ((∀ t, a ≤ t → t < i → Q d[t]! d[m]!) ∧ (∀ t, j ≤ t → t < m → Q d[m]! d[t]!)) ∧ Aside (SW enc w0 blk off d wr))
      case atStart => exact ⟨a, m, rfl, rfl, Nat.le_refl _, by omega, Nat.le_refl _, by omega, ⟨fun t h1 h2 => absurd h1 (by omega), fun t h1 h2 => absurd h1 (by omega)⟩, S0⟩
      case round =>
        clear S0
        obtain ⟨i, j, rfl, rfl, hi, hij, hjb, hkx, HI, S1⟩ := hrel
        by_cases hlt : i < j
        · obtain ⟨h, hh⟩ : ∃ h : Nat, h = (i + j) / 2 := ⟨_, rfl⟩
          have eh : ((i : Int) + (j : Int)) / 2 = (h : Int) := by omega
          have hih : i ≤ h := by omega
          have hhj : h < j := by omega
          clear hh
          cases hlv : ltOf cf d[m]! d[h]! with
          | false =>
            have J : Aside (∀ t, a ≤ t → t < h + 1 → Q d[t]! d[m]!) := fun t h1 h2 => by
              have := HP.out.no h m (by omega) (by omega) (by omega) (by omega) hlv
              by_cases ht : t = h
              · rw [ht]; exact this
              · exact HT.out _ _ _ (HP.out.left t h (by omega) (by omega) (by omega)) this
            have LV : Hid _ := hlv
            clear hlv
            have ra3 : IntKind.i64.wrap ((m : Int)) = (m : Int) := by rw [IntKind.wrap_i64]; omega
            have rc3 : IntKind.i64.wrap ((h : Int)) = (h : Int) := by rw [IntKind.wrap_i64]; omega
            have ea3 : ((m : Int)).toNat = m := by omega
            have pa3 : (0 : Int) ≤ (m : Int) := by omega
            have ba3 : (m : Int) < (d.size : Int) := by omega
            have ec3 : ((h : Int)).toNat = h := by omega
            have pc3 : (0 : Int) ≤ (h : Int) := by omega
            have bc3 : (h : Int) < (d.size : Int) := by omega
            obtain ⟨x3, hx3⟩ : ∃ x, x = d[m]! := ⟨_, rfl⟩
            obtain ⟨y3, hy3⟩ : ∃ x, x = d[h]! := ⟨_, rfl⟩
            have l3a := S1.out.cl R (by omega) m (by omega)
            have l3b := S1.out.cl R (by omega) h (by omega)
            rw [← hx3] at l3a
            rw [← hy3] at l3b
            have hc3 := S1.out.cmp HC.out (by omega) x3 y3
            have hv3 : ¬ cf x3 y3 < 0 := by rw [hx3, hy3]; exact lt_no LV.out
            have hd3 : decide (cf x3 y3 < 0) = false := decide_eq_false hv3
            clear hx3 hy3
            go_wp2_with fail
            go_quiet_grown (first | (go_at_fn g; refine Calls.grown_of (hc3 _ _)))
            have S2 : Aside (SW enc w0 blk off d (grow (wr.drewN nq) osq)) := S1.out.grown nq osq
            clear l3a l3b hc3 S1
            generalize grow (wr.drewN nq) osq = wv3 at S2 ⊢
            clear nq osq
            go_wp2
            go_roundg (j - (h + 1))
            case measure => omega
            case rel => exact ⟨h + 1, j, by go_num, rfl, by omega, by omega, hjb, Nat.le_refl _, ⟨J.out, HI.out.2⟩, S2⟩
          | true =>
            have J : Aside (∀ t, h ≤ t → t < m → Q d[m]! d[t]!) := fun t h1 h2 => by
              have := HP.out.yes h m (by omega) (by omega) (by omega) (by omega) hlv
              by_cases ht : t = h
              · rw [ht]; exact this
              · exact HT.out _ _ _ this (HP.out.left h t (by omega) (by omega) (by omega))
            have LV : Hid _ := hlv
            clear hlv
            have ra4 : IntKind.i64.wrap ((m : Int)) = (m : Int) := by rw [IntKind.wrap_i64]; omega
            have rc4 : IntKind.i64.wrap ((h : Int)) = (h : Int) := by rw [IntKind.wrap_i64]; omega
            have ea4 : ((m : Int)).toNat = m := by omega
            have pa4 : (0 : Int) ≤ (m : Int) := by omega
            have ba4 : (m : Int) < (d.size : Int) := by omega
            have ec4 : ((h : Int)).toNat = h := by omega
            have pc4 : (0 : Int) ≤ (h : Int) := by omega
            have bc4 : (h : Int) < (d.size : Int) := by omega
            obtain ⟨x4, hx4⟩ : ∃ x, x = d[m]! := ⟨_, rfl⟩
            obtain ⟨y4, hy4⟩ : ∃ x, x = d[h]! := ⟨_, rfl⟩
            have l4a := S1.out.cl R (by omega) m (by omega)
            have l4b := S1.out.cl R (by omega) h (by omega)
            rw [← hx4] at l4a
            rw [← hy4] at l4b
            have hc4 := S1.out.cmp HC.out (by omega) x4 y4
            have hv4 : cf x4 y4 < 0 := by rw [hx4, hy4]; exact lt_yes LV.out
            have hd4 : decide (cf x4 y4 < 0) = true := decide_eq_true hv4
            clear hx4 hy4
            go_wp2_with fail
            go_quiet_grown (first | (go_at_fn g; refine Calls.grown_of (hc4 _ _)))
            have S2 : Aside (SW enc w0 blk off d (grow (wr.drewN nq) osq)) := S1.out.grown nq osq
            clear l4a l4b hc4 S1
            generalize grow (wr.drewN nq) osq = wv4 at S2 ⊢
            clear nq osq
            go_wp2
            go_roundg (h - i)
            case measure => omega
            case rel => exact ⟨i, h, rfl, rfl, hi, hih, by omega, Nat.le_refl _, ⟨HI.out.1, J.out⟩, S2⟩
        · obtain rfl : j = i := by omega
          have hjm : j ≤ m := by omega
          go_wp2
          go_loopg [17] m (fun kx s17 wr => ∃ (p : Nat) (dk : Array α), s17 = .int .i64 p ∧ j ≤ p ∧ p ≤ m ∧ p - j ≤ kx ∧ dk.size = d.size ∧ Aside (Ixd d dk (rtIx p m (m + 1)) ∧ PermIn a b d dk) ∧ Aside (SW enc w0 blk off dk wr))
          case atStart => exact ⟨m, d, rfl, hjm, Nat.le_refl _, by omega, rfl, ⟨(Ixd.refl d).congr (fun t => (rt_start2 m t).symm), permIn_refl _ _ _⟩, S1⟩
          case round =>
            clear S1
            obtain ⟨p, dk, rfl, hap, hpm, hkx2, hds, HX, S1⟩ := hrel
            by_cases hlt2 : j < p
            · obtain ⟨q, hq⟩ : ∃ q : Nat, p = q + 1 := ⟨p - 1, by omega⟩
              have eq1 : (p : Int) - 1 = (q : Int) := by omega
              have HQ : Hid (p = q + 1) := hq
              have hqi : j ≤ q := by omega
              have hqm : q ≤ m := by omega
              have hpq : q - j < p - j := by omega
              clear hq
              have ea6 : ((p : Int)).toNat = p := by omega
              have pa6 : (0 : Int) ≤ (p : Int) := by omega
              have ba6 : (p : Int) < (d.size : Int) := by omega
              have ra6 : IntKind.i64.wrap ((p : Int)) = (p : Int) := by rw [IntKind.wrap_i64]; omega
              have ec6 : ((q : Int)).toNat = q := by omega
              have pc6 : (0 : Int) ≤ (q : Int) := by omega
              have bc6 : (q : Int) < (d.size : Int) := by omega
              have rc6 : IntKind.i64.wrap ((q : Int)) = (q : Int) := by rw [IntKind.wrap_i64]; omega
              obtain ⟨x6, hx6⟩ : ∃ x, x = dk[p]! := ⟨_, rfl⟩
              obtain ⟨y6, hy6⟩ : ∃ x, x = dk[q]! := ⟨_, rfl⟩
              have S2 : Aside (SW enc w0 blk off (swp dk p q) ((wr.setCell ⟨blk, off + p, none⟩ (enc y6)).setCell ⟨blk, off + q, none⟩ (enc x6)).drew) := by rw [hx6, hy6]; exact S1.out.swapped R p q (by omega) (by omega)
              have c6a := S1.out.c1 R (by omega) p (by omega)
              have c6b := S1.out.c1 R (by omega) q (by omega)
              have f6a := S1.out.f1 R (by omega) p (by omega)
              have f6b := S1.out.f1 R (by omega) q (by omega)
              obtain ⟨u6, c6c⟩ := S1.out.c2 R (by omega) p q (by omega) (by omega) (enc y6)
              rw [← hx6] at c6a
              rw [← hy6] at c6b
              clear S1 hx6 hy6
              go_wp2_with fail
              go_big_region_o
              clear c6a c6b c6c f6a f6b
              generalize ((wr.setCell ⟨blk, off + p, none⟩ (enc y6)).setCell ⟨blk, off + q, none⟩ (enc x6)).drew = w6 at S2 ⊢
              go_wp2
              go_roundg (q - j)
              case measure => omega
              case rel =>
                have hq := HQ.out
                subst hq
                exact ⟨q, swp dk (q + 1) q, by go_num, hqi, hqm, Nat.le_refl _, by rw [size_swp]; exact hds, ⟨(HX.out.1.trans (ixd_swp dk (by omega) (by omega))).congr (fun t => rt_down (by omega) t), permIn_trans _ _ _ _ _ HX.out.2 (swp_permIn dk a b (q + 1) q (by omega) (by omega) (by omega) (by omega) (by omega))⟩, S2⟩
            · obtain rfl : p = j := by omega
              go_wp2
              go_end0
              have hb' := HB.out
              subst hb'
              exact ⟨rfl, dk, HX.out.2, merge_last HT.out HP.out hi (by omega) HI.out.1 HI.out.2 HX.out.1, S1.out⟩
    · have g2 : ¬ ((b : Int) - (m : Int) = 1) := by omega
      have g2b : (((b : Int) - (m : Int)) == 1) = false := by simpa using g2
      obtain ⟨mid, hmid⟩ : ∃ mid : Nat, mid = (a + b) / 2 := ⟨_, rfl⟩
      have emid : ((a : Int) + (b : Int)) / 2 = (mid : Int) := by omega
      have m1 : 2 * mid ≤ a + b := by omega
      have m2 : a + b ≤ 2 * mid + 1 := by omega
      have m3 : a < mid := by omega
      have m4 : mid < b := by omega
      clear hmid
      obtain ⟨n, hn⟩ : ∃ n : Nat, n = mid + m := ⟨_, rfl⟩
      have en : (mid : Int) + (m : Int) = (n : Int) := by omega
      have n1 : n ≤ mid + m := by omega
      have n2 : mid + m ≤ n := by omega
      have NN : Hid (n = mid + m) := hn
      clear hn
      obtain ⟨p, hp⟩ : ∃ p : Nat, n = p + 1 := ⟨n - 1, by omega⟩
      have ep : (n : Int) - 1 = (p : Int) := by omega
      have p1 : n ≤ p + 1 := by omega
      have p2 : p + 1 ≤ n := by omega
      clear hp
      obtain ⟨lo, hi, hlo, hw⟩ : ∃ lo hi : Nat, (a ≤ lo ∧ lo ≤ hi ∧ hi ≤ m ∧ hi ≤ mid ∧ p - lo < b ∧ n - b ≤ lo) ∧ Hid ((mid < m ∧ n = lo + b ∧ hi = mid) ∨ (m ≤ mid ∧ lo = a ∧ hi = m)) := by
        by_cases h : mid < m
        · exact ⟨n - b, mid, ⟨by omega, by omega, by omega, by omega, by omega, by omega⟩, .inl ⟨h, by omega, rfl⟩⟩
        · exact ⟨a, m, ⟨by omega, by omega, by omega, by omega, by omega, by omega⟩, .inr ⟨by omega, rfl, rfl⟩⟩
      obtain ⟨l1, l2, l3, l4, l5, l6⟩ := hlo
      have HPM : Hid (∀ t, lo ≤ t → t < hi → m ≤ p - t ∧ p - t < b ∧ t ≤ p) := fun t h1 h2 => ⟨by omega, by omega, by omega⟩
      have L107 := L.f107
      have HR : Aside (∀ (s e : Nat) (wk : World), s < m → m < e → e ≤ b → a ≤ s → Aside (SW enc w0 blk off d wk) →
          Calls P 110 #[.slice (some ⟨blk, off, none⟩) d.size cap, .int .i64 s, .int .i64 m, .int .i64 e, .func (.func g) #[] cb] wk fun e' w' => e' = .returned (.tuple #[]) ∧ ∃ d', Aside (Ixd d d' (rtIx s m e)) ∧ Aside (PermIn a b d d') ∧ Aside (SW enc w0 blk off d' w')) := fun s e wk h1 h2 h3 h4 h5 =>
        (rotate_any L enc g cb blk off cap s m e d0 d w0 wk R hs h5.out h1 h2 (by omega) (by omega)).mono fun e' w' ⟨q1, d', q2, q3, q4⟩ => ⟨q1, d', q2, permIn_mono _ _ _ _ _ _ h4 h3 hb q3, q4⟩
      have HI2 : Aside (∀ (x y z : Nat) (dk : Array α) (wk : World), dk.size = d.size → z - x ≤ N → Aside (SW enc w0 blk off dk wk) → x < y → y < z → z ≤ d.size → Aside (Pre Q (ltOf cf) dk x y z) →
          Calls P 107 #[.slice (some ⟨blk, off, none⟩) d.size cap, .int .i64 x, .int .i64 y, .int .i64 z, .func (.func g) #[] cb] wk fun e' w' => e' = .returned (.tuple #[]) ∧ ∃ d', Aside (PermIn x z dk d') ∧ Aside (Ord Q d' x z) ∧ Aside (SW enc w0 blk off d' w')) := fun x y z dk wk h0 h1 h2 h3 h4 h5 h6 => by
        have := IH.out x y z dk wk h1 (by omega) h2.out h3 h4 (by omega) h6.out
        rw [h0] at this
        exact this
      clear IH
      rcases hw.out with ⟨w1, w2, w3⟩ | ⟨w1, w2, w3⟩
      · have e20 : (n : Int) - (b : Int) = (lo : Int) := by omega
        have HST : Hid ((mid : Int) = (hi : Int)) := by show _ = _; omega
        have w1' : ((m : Int) > (mid : Int)) := by omega
        clear w2 w3
        go_enter L107, Try.ntmps107
        go_wp2
        have hstart : Hid (Value.int IntKind.i64 (lo : Int) = .int .i64 (lo : Int) ∧ Value.int IntKind.i64 (mid : Int) = .int .i64 (hi : Int)) := ⟨rfl, by rw [HST.out]⟩
        go_loopg [20, 21] b (fun kx s20 s21 wr => ∃ (s r : Nat), s20 = .int .i64 s ∧ s21 = .int .i64 r ∧ lo ≤ s ∧ s ≤ r ∧ r ≤ hi ∧ r - s ≤ kx ∧ Aside ((∀ t, lo ≤ t → t < s → Q d[t]! d[p - t]!) ∧ (∀ t, r ≤ t → t < hi → Q d[p - t]! d[t]!)) ∧ Aside (SW enc w0 blk off d wr))
        case atStart => exact ⟨lo, hi, hstart.out.1, hstart.out.2, Nat.le_refl _, l2, Nat.le_refl _, by omega, ⟨fun t h1 h2 => absurd h1 (by omega), fun t h1 h2 => absurd h1 (by omega)⟩, S0⟩
        case round =>
          clear S0 hstart HST w1'
          obtain ⟨s, r, rfl, rfl, hls, hsr, hrh, hkx, HI, S1⟩ := hrel
          by_cases hlt : s < r
          · obtain ⟨c, hc⟩ : ∃ c : Nat, c = (s + r) / 2 := ⟨_, rfl⟩
            have ec : ((s : Int) + (r : Int)) / 2 = (c : Int) := by omega
            have hsc : s ≤ c := by omega
            have hcr : c < r := by omega
            clear hc
            obtain ⟨c1, c2, c3⟩ := HPM.out c (by omega) (by omega)
            obtain ⟨q, hq⟩ : ∃ q : Nat, q = p - c := ⟨_, rfl⟩
            have eq1 : (p : Int) - (c : Int) = (q : Int) := by omega
            have q1 : m ≤ q := by omega
            have q2 : q < b := by omega
            have q3 : q + c = p := by omega
            have HQ : Hid (q = p - c) := hq
            clear hq c1 c2 c3
            cases hlv : ltOf cf d[q]! d[c]! with
            | false =>
              have J : Aside (∀ t, lo ≤ t → t < c + 1 → Q d[t]! d[p - t]!) := fun t h1 h2 => by
                have := HP.out.no c q (by omega) (by omega) (by omega) (by omega) hlv
                by_cases ht : t = c
                · rw [ht, ← HQ.out]; exact this
                · have hpt := HPM.out t h1 (by omega)
                  exact HT.out _ _ _ (HP.out.left t c (by omega) (by omega) (by omega)) (HT.out _ _ _ this (HP.out.right q (p - t) (by omega) (by omega) (by omega)))
              have LV : Hid _ := hlv
              clear hlv
              have ra7 : IntKind.i64.wrap ((q : Int)) = (q : Int) := by rw [IntKind.wrap_i64]; omega
              have rc7 : IntKind.i64.wrap ((c : Int)) = (c : Int) := by rw [IntKind.wrap_i64]; omega
              have ea7 : ((q : Int)).toNat = q := by omega
              have pa7 : (0 : Int) ≤ (q : Int) := by omega
              have ba7 : (q : Int) < (d.size : Int) := by omega
              have ec7 : ((c : Int)).toNat = c := by omega
              have pc7 : (0 : Int) ≤ (c : Int) := by omega
              have bc7 : (c : Int) < (d.size : Int) := by omega
              obtain ⟨x7, hx7⟩ : ∃ x, x = d[q]! := ⟨_, rfl⟩
              obtain ⟨y7, hy7⟩ : ∃ x, x = d[c]! := ⟨_, rfl⟩
              have l7a := S1.out.cl R (by omega) q (by omega)
              have l7b := S1.out.cl R (by omega) c (by omega)
              rw [← hx7] at l7a
              rw [← hy7] at l7b
              have hc7 := S1.out.cmp HC.out (by omega) x7 y7
              have hv7 : ¬ cf x7 y7 < 0 := by rw [hx7, hy7]; exact lt_no LV.out
              have hd7 : decide (cf x7 y7 < 0) = false := decide_eq_false hv7
              clear hx7 hy7
              go_wp2_with fail
              go_quiet_grown (first | (go_at_fn g; refine Calls.grown_of (hc7 _ _)))
              have S2 : Aside (SW enc w0 blk off d (grow (wr.drewN nq) osq)) := S1.out.grown nq osq
              clear l7a l7b hc7 S1
              generalize grow (wr.drewN nq) osq = wv7 at S2 ⊢
              clear nq osq
              go_wp2
              go_roundg (r - (c + 1))
              case measure => omega
              case rel => exact ⟨c + 1, r, by go_num, rfl, by omega, by omega, hrh, Nat.le_refl _, ⟨J.out, HI.out.2⟩, S2⟩
            | true =>
              have J : Aside (∀ t, c ≤ t → t < hi → Q d[p - t]! d[t]!) := fun t h1 h2 => by
                have := HP.out.yes c q (by omega) (by omega) (by omega) (by omega) hlv
                by_cases ht : t = c
                · rw [ht, ← HQ.out]; exact this
                · have hpt := HPM.out t (by omega) h2
                  exact HT.out _ _ _ (HP.out.right (p - t) q (by omega) (by omega) (by omega)) (HT.out _ _ _ this (HP.out.left c t (by omega) (by omega) (by omega)))
              have LV : Hid _ := hlv
              clear hlv
              have ra8 : IntKind.i64.wrap ((q : Int)) = (q : Int) := by rw [IntKind.wrap_i64]; omega
              have rc8 : IntKind.i64.wrap ((c : Int)) = (c : Int) := by rw [IntKind.wrap_i64]; omega
              have ea8 : ((q : Int)).toNat = q := by omega
              have pa8 : (0 : Int) ≤ (q : Int) := by omega
              have ba8 : (q : Int) < (d.size : Int) := by omega
              have ec8 : ((c : Int)).toNat = c := by omega
              have pc8 : (0 : Int) ≤ (c : Int) := by omega
              have bc8 : (c : Int) < (d.size : Int) := by omega
              obtain ⟨x8, hx8⟩ : ∃ x, x = d[q]! := ⟨_, rfl⟩
              obtain ⟨y8, hy8⟩ : ∃ x, x = d[c]! := ⟨_, rfl⟩
              have l8a := S1.out.cl R (by omega) q (by omega)
              have l8b := S1.out.cl R (by omega) c (by omega)
              rw [← hx8] at l8a
              rw [← hy8] at l8b
              have hc8 := S1.out.cmp HC.out (by omega) x8 y8
              have hv8 : cf x8 y8 < 0 := by rw [hx8, hy8]; exact lt_yes LV.out
              have hd8 : decide (cf x8 y8 < 0) = true := decide_eq_true hv8
              clear hx8 hy8
              go_wp2_with fail
              go_quiet_grown (first | (go_at_fn g; refine Calls.grown_of (hc8 _ _)))
              have S2 : Aside (SW enc w0 blk off d (grow (wr.drewN nq) osq)) := S1.out.grown nq osq
              clear l8a l8b hc8 S1
              generalize grow (wr.drewN nq) osq = wv8 at S2 ⊢
              clear nq osq
              go_wp2
              go_roundg (c - s)
              case measure => omega
              case rel => exact ⟨s, c, rfl, rfl, hls, hsc, by omega, Nat.le_refl _, ⟨HI.out.1, J.out⟩, S2⟩
          · obtain rfl : r = s := by omega
            obtain ⟨e, he⟩ : ∃ e : Nat, e = n - r := ⟨_, rfl⟩
            have ee : (n : Int) - (r : Int) = (e : Int) := by omega
            have r1 : a ≤ r := by omega
            have r2 : r ≤ m := by omega
            have r3 : m ≤ e := by rcases hw.out with ⟨x1, x2, x3⟩ | ⟨x1, x2, x3⟩ <;> omega
            have r4 : e ≤ b := by omega
            have r5 : r + e = mid + m := by omega
            have HE : Hid (e = n - r) := he
            clear he
            have hC : Cutp Q d a m b mid r e := by
              refine ⟨r1, r2, r3, r4, r5, by omega, by omega, ?_, ?_⟩
              · by_cases h : lo < r
                · have h1 := HPM.out (r - 1) (by omega) (by omega)
                  have h2 := HI.out.1 (r - 1) (by omega) (by omega)
                  have h3 : p - (r - 1) = e := by omega
                  rw [h3] at h2
                  exact .inr (.inr ⟨h2, by omega, by omega⟩)
                · rcases hw.out with ⟨x1, x2, x3⟩ | ⟨x1, x2, x3⟩
                  · exact .inr (.inl (by omega))
                  · exact .inl (by omega)
              · by_cases h : r < hi
                · have h1 := HPM.out r (by omega) h
                  have h2 := HI.out.2 r (Nat.le_refl _) h
                  have h3 : p - r = e - 1 := by omega
                  rw [h3] at h2
                  exact .inr (.inr ⟨h2, by omega, by omega⟩)
                · rcases hw.out with ⟨x1, x2, x3⟩ | ⟨x1, x2, x3⟩
                  · exact .inr (.inl (by omega))
                  · exact .inl (by omega)
            have C : Aside _ := hC
            clear hC HI
            obtain ⟨c1, c2⟩ | ⟨c1, c2⟩ | c1 : (r < m ∧ m < e) ∨ (r < m ∧ e ≤ m) ∨ m ≤ r := by omega
            first
            | (exfalso; omega)
            | (have qq : m < e := c2
               clear qq
               have hr := HR.out r e wr c1 c2 r4 r1 S1
               go_upto_region 41 with (go_at_fn 110; refine hr.mono ?_; rintro e' w1 ⟨rfl, d1, X1, P1, S2⟩)
               clear hr S1 c1 c2
               rotate_left)
            | skip
            first
            | (exfalso; omega)
            | (have qq : e ≤ m := c2
               clear qq
               go_upto_region 41 with fail
               obtain ⟨d1, X1, P1, S2⟩ : ∃ d1, Aside (Ixd d d1 (rtIx r m e)) ∧ Aside (PermIn a b d d1) ∧ Aside (SW enc w0 blk off d1 wr) := ⟨d, (Ixd.refl d).congr fun t => (rt_triv (.inr (by omega)) r2 r3 t).symm, permIn_refl _ _ _, S1⟩
               clear S1 c1 c2
               rotate_left)
            | skip
            first
            | (exfalso; omega)
            | (have qq : m ≤ r := c1
               clear qq
               go_upto_region 41 with fail
               obtain ⟨d1, X1, P1, S2⟩ : ∃ d1, Aside (Ixd d d1 (rtIx r m e)) ∧ Aside (PermIn a b d d1) ∧ Aside (SW enc w0 blk off d1 wr) := ⟨d, (Ixd.refl d).congr fun t => (rt_triv (.inl (by omega)) r2 r3 t).symm, permIn_refl _ _ _, S1⟩
               clear S1 c1
               rotate_left)
            | skip
            all_goals
              have hs1 : d1.size = d.size := P1.out.1
              obtain ⟨c1, c2⟩ | ⟨c1, c2⟩ | c1 : (a < r ∧ r < mid) ∨ (a < r ∧ mid ≤ r) ∨ r ≤ a := by omega
              first
              | (exfalso; omega)
              | (have qq : r < mid := c2
                 clear qq
                 have hr := HI2.out a r mid d1 _ hs1 (by omega) S2 c1 c2 (by omega) (C.out.left HP.out X1.out c1 c2)
                 go_upto_region 43 with (go_at_fn 107; refine hr.mono ?_; rintro e' w2 ⟨rfl, d2, P2, O2, S3⟩)
                 clear hr S2 c1 c2
                 rotate_left)
              | skip
              first
              | (exfalso; omega)
              | (have qq : mid ≤ r := c2
                 clear qq
                 go_upto_region 43 with fail
                 obtain ⟨d2, P2, O2, S3⟩ : ∃ d2, Aside (PermIn a mid d1 d2) ∧ Aside (Ord Q d2 a mid) ∧ Aside (SW enc w0 blk off d2 _) := ⟨d1, permIn_refl _ _ _, C.out.leftOrd HP.out X1.out (by omega), S2⟩
                 clear S2 c1 c2
                 rotate_left)
              | skip
              first
              | (exfalso; omega)
              | (have qq : r ≤ a := c1
                 clear qq
                 go_upto_region 43 with fail
                 obtain ⟨d2, P2, O2, S3⟩ : ∃ d2, Aside (PermIn a mid d1 d2) ∧ Aside (Ord Q d2 a mid) ∧ Aside (SW enc w0 blk off d2 _) := ⟨d1, permIn_refl _ _ _, C.out.leftOrd HP.out X1.out (by omega), S2⟩
                 clear S2 c1
                 rotate_left)
              | skip
            all_goals
              have hs2 : d2.size = d.size := P2.out.1.trans hs1
              obtain ⟨c1, c2⟩ | ⟨c1, c2⟩ | c1 : (mid < e ∧ e < b) ∨ (mid < e ∧ b ≤ e) ∨ e ≤ mid := by omega
              · have hr := HI2.out mid e b d2 _ hs2 (by omega) S3 c1 c2 (by omega) (C.out.right HP.out X1.out (fun t ht => P2.out.2.1 t (.inr ht)) c1 c2)
                go_wp2_with (go_at_fn 107; refine hr.mono ?_; rintro e' w3 ⟨rfl, d3, P3, O3, S4⟩)
                go_end0
                exact ⟨rfl, d3, permIn_trans _ _ _ _ _ P1.out (permIn_trans _ _ _ _ _ (permIn_mono _ _ _ _ _ _ (Nat.le_refl _) C.out.mb (by omega) P2.out) (permIn_mono _ _ _ _ _ _ C.out.am (Nat.le_refl _) (by omega) P3.out)), ord_join C.out.am C.out.mb (by omega) (C.out.cross HT.out HP.out X1.out) P2.out O2.out P3.out O3.out, S4.out⟩
              · go_wp2_with fail
                all_goals go_end0
                all_goals exact ⟨rfl, d2, permIn_trans _ _ _ _ _ P1.out (permIn_mono _ _ _ _ _ _ (Nat.le_refl _) C.out.mb (by omega) P2.out), ord_join C.out.am C.out.mb (by omega) (C.out.cross HT.out HP.out X1.out) P2.out O2.out (permIn_refl _ _ _) (C.out.rightOrd HP.out X1.out (fun t ht => P2.out.2.1 t (.inr ht)) (by omega)), S3.out⟩
              · go_wp2_with fail
                all_goals go_end0
                all_goals exact ⟨rfl, d2, permIn_trans _ _ _ _ _ P1.out (permIn_mono _ _ _ _ _ _ (Nat.le_refl _) C.out.mb (by omega) P2.out), ord_join C.out.am C.out.mb (by omega) (C.out.cross HT.out HP.out X1.out) P2.out O2.out (permIn_refl _ _ _) (C.out.rightOrd HP.out X1.out (fun t ht => P2.out.2.1 t (.inr ht)) (by omega)), S3.out⟩
      · have HST : Hid ((a : Int) = (lo : Int) ∧ (m : Int) = (hi : Int)) := by refine ⟨?_, ?_⟩ <;> omega
        have w1' : ¬ ((m : Int) > (mid : Int)) := by omega
        clear w2 w3
        go_enter L107, Try.ntmps107
        go_wp2
        have hstart : Hid (Value.int IntKind.i64 (a : Int) = .int .i64 (lo : Int) ∧ Value.int IntKind.i64 (m : Int) = .int .i64 (hi : Int)) := ⟨by rw [HST.out.1], by rw [HST.out.2]⟩
        go_loopg [20, 21] b (fun kx s20 s21 wr => ∃ (s r : Nat), s20 = .int .i64 s ∧ s21 = .int .i64 r ∧ lo ≤ s ∧ s ≤ r ∧ r ≤ hi ∧ r - s ≤ kx ∧ Aside ((∀ t, lo ≤ t → t < s → Q d[t]! d[p - t]!) ∧ (∀ t, r ≤ t → t < hi → Q d[p - t]! d[t]!)) ∧ Aside (SW enc w0 blk off d wr))
        case atStart => exact ⟨lo, hi, hstart.out.1, hstart.out.2, Nat.le_refl _, l2, Nat.le_refl _, by omega, ⟨fun t h1 h2 => absurd h1 (by omega), fun t h1 h2 => absurd h1 (by omega)⟩, S0⟩
        case round =>
          clear S0 hstart HST w1'
          obtain ⟨s, r, rfl, rfl, hls, hsr, hrh, hkx, HI, S1⟩ := hrel
          by_cases hlt : s < r
          · obtain ⟨c, hc⟩ : ∃ c : Nat, c = (s + r) / 2 := ⟨_, rfl⟩
            have ec : ((s : Int) + (r : Int)) / 2 = (c : Int) := by omega
            have hsc : s ≤ c := by omega
            have hcr : c < r := by omega
            clear hc
            obtain ⟨c1, c2, c3⟩ := HPM.out c (by omega) (by omega)
            obtain ⟨q, hq⟩ : ∃ q : Nat, q = p - c := ⟨_, rfl⟩
            have eq1 : (p : Int) - (c : Int) = (q : Int) := by omega
            have q1 : m ≤ q := by omega
            have q2 : q < b := by omega
            have q3 : q + c = p := by omega
            have HQ : Hid (q = p - c) := hq
            clear hq c1 c2 c3
            cases hlv : ltOf cf d[q]! d[c]! with
            | false =>
              have J : Aside (∀ t, lo ≤ t → t < c + 1 → Q d[t]! d[p - t]!) := fun t h1 h2 => by
                have := HP.out.no c q (by omega) (by omega) (by omega) (by omega) hlv
                by_cases ht : t = c
                · rw [ht, ← HQ.out]; exact this
                · have hpt := HPM.out t h1 (by omega)
                  exact HT.out _ _ _ (HP.out.left t c (by omega) (by omega) (by omega)) (HT.out _ _ _ this (HP.out.right q (p - t) (by omega) (by omega) (by omega)))
              have LV : Hid _ := hlv
              clear hlv
              have ra7 : IntKind.i64.wrap ((q : Int)) = (q : Int) := by rw [IntKind.wrap_i64]; omega
              have rc7 : IntKind.i64.wrap ((c : Int)) = (c : Int) := by rw [IntKind.wrap_i64]; omega
              have ea7 : ((q : Int)).toNat = q := by omega
              have pa7 : (0 : Int) ≤ (q : Int) := by omega
              have ba7 : (q : Int) < (d.size : Int) := by omega
              have ec7 : ((c : Int)).toNat = c := by omega
              have pc7 : (0 : Int) ≤ (c : Int) := by omega
              have bc7 : (c : Int) < (d.size : Int) := by omega
              obtain ⟨x7, hx7⟩ : ∃ x, x = d[q]! := ⟨_, rfl⟩
              obtain ⟨y7, hy7⟩ : ∃ x, x = d[c]! := ⟨_, rfl⟩
              have l7a := S1.out.cl R (by omega) q (by omega)
              have l7b := S1.out.cl R (by omega) c (by omega)
              rw [← hx7] at l7a
              rw [← hy7] at l7b
              have hc7 := S1.out.cmp HC.out (by omega) x7 y7
              have hv7 : ¬ cf x7 y7 < 0 := by rw [hx7, hy7]; exact lt_no LV.out
              have hd7 : decide (cf x7 y7 < 0) = false := decide_eq_false hv7
              clear hx7 hy7
              go_wp2_with fail
              go_quiet_grown (first | (go_at_fn g; refine Calls.grown_of (hc7 _ _)))
              have S2 : Aside (SW enc w0 blk off d (grow (wr.drewN nq) osq)) := S1.out.grown nq osq
              clear l7a l7b hc7 S1
              generalize grow (wr.drewN nq) osq = wv7 at S2 ⊢
              clear nq osq
              go_wp2
              go_roundg (r - (c + 1))
              case measure => omega
              case rel => exact ⟨c + 1, r, by go_num, rfl, by omega, by omega, hrh, Nat.le_refl _, ⟨J.out, HI.out.2⟩, S2⟩
            | true =>
              have J : Aside (∀ t, c ≤ t → t < hi → Q d[p - t]! d[t]!) := fun t h1 h2 => by
                have := HP.out.yes c q (by omega) (by omega) (by omega) (by omega) hlv
                by_cases ht : t = c
                · rw [ht, ← HQ.out]; exact this
                · have hpt := HPM.out t (by omega) h2
                  exact HT.out _ _ _ (HP.out.right (p - t) q (by omega) (by omega) (by omega)) (HT.out _ _ _ this (HP.out.left c t (by omega) (by omega) (by omega)))
              have LV : Hid _ := hlv
              clear hlv
              have ra8 : IntKind.i64.wrap ((q : Int)) = (q : Int) := by rw [IntKind.wrap_i64]; omega
              have rc8 : IntKind.i64.wrap ((c : Int)) = (c : Int) := by rw [IntKind.wrap_i64]; omega
              have ea8 : ((q : Int)).toNat = q := by omega
              have pa8 : (0 : Int) ≤ (q : Int) := by omega
              have ba8 : (q : Int) < (d.size : Int) := by omega
              have ec8 : ((c : Int)).toNat = c := by omega
              have pc8 : (0 : Int) ≤ (c : Int) := by omega
              have bc8 : (c : Int) < (d.size : Int) := by omega
              obtain ⟨x8, hx8⟩ : ∃ x, x = d[q]! := ⟨_, rfl⟩
              obtain ⟨y8, hy8⟩ : ∃ x, x = d[c]! := ⟨_, rfl⟩
              have l8a := S1.out.cl R (by omega) q (by omega)
              have l8b := S1.out.cl R (by omega) c (by omega)
              rw [← hx8] at l8a
              rw [← hy8] at l8b
              have hc8 := S1.out.cmp HC.out (by omega) x8 y8
              have hv8 : cf x8 y8 < 0 := by rw [hx8, hy8]; exact lt_yes LV.out
              have hd8 : decide (cf x8 y8 < 0) = true := decide_eq_true hv8
              clear hx8 hy8
              go_wp2_with fail
              go_quiet_grown (first | (go_at_fn g; refine Calls.grown_of (hc8 _ _)))
              have S2 : Aside (SW enc w0 blk off d (grow (wr.drewN nq) osq)) := S1.out.grown nq osq
              clear l8a l8b hc8 S1
              generalize grow (wr.drewN nq) osq = wv8 at S2 ⊢
              clear nq osq
              go_wp2
              go_roundg (c - s)
              case measure => omega
              case rel => exact ⟨s, c, rfl, rfl, hls, hsc, by omega, Nat.le_refl _, ⟨HI.out.1, J.out⟩, S2⟩
          · obtain rfl : r = s := by omega
            obtain ⟨e, he⟩ : ∃ e : Nat, e = n - r := ⟨_, rfl⟩
            have ee : (n : Int) - (r : Int) = (e : Int) := by omega
            have r1 : a ≤ r := by omega
            have r2 : r ≤ m := by omega
            have r3 : m ≤ e := by rcases hw.out with ⟨x1, x2, x3⟩ | ⟨x1, x2, x3⟩ <;> omega
            have r4 : e ≤ b := by omega
            have r5 : r + e = mid + m := by omega
            have HE : Hid (e = n - r) := he
            clear he
            have hC : Cutp Q d a m b mid r e := by
              refine ⟨r1, r2, r3, r4, r5, by omega, by omega, ?_, ?_⟩
              · by_cases h : lo < r
                · have h1 := HPM.out (r - 1) (by omega) (by omega)
                  have h2 := HI.out.1 (r - 1) (by omega) (by omega)
                  have h3 : p - (r - 1) = e := by omega
                  rw [h3] at h2
                  exact .inr (.inr ⟨h2, by omega, by omega⟩)
                · rcases hw.out with ⟨x1, x2, x3⟩ | ⟨x1, x2, x3⟩
                  · exact .inr (.inl (by omega))
                  · exact .inl (by omega)
              · by_cases h : r < hi
                · have h1 := HPM.out r (by omega) h
                  have h2 := HI.out.2 r (Nat.le_refl _) h
                  have h3 : p - r = e - 1 := by omega
                  rw [h3] at h2
                  exact .inr (.inr ⟨h2, by omega, by omega⟩)
                · rcases hw.out with ⟨x1, x2, x3⟩ | ⟨x1, x2, x3⟩
                  · exact .inr (.inl (by omega))
                  · exact .inl (by omega)
            have C : Aside _ := hC
            clear hC HI
            obtain ⟨c1, c2⟩ | ⟨c1, c2⟩ | c1 : (r < m ∧ m < e) ∨ (r < m ∧ e ≤ m) ∨ m ≤ r := by omega
            first
            | (exfalso; omega)
            | (have qq : m < e := c2
               clear qq
               have hr := HR.out r e wr c1 c2 r4 r1 S1
               go_upto_region 41 with (go_at_fn 110; refine hr.mono ?_; rintro e' w1 ⟨rfl, d1, X1, P1, S2⟩)
               clear hr S1 c1 c2
               rotate_left)
            | skip
            first
            | (exfalso; omega)
            | (have qq : e ≤ m := c2
               clear qq
               go_upto_region 41 with fail
               obtain ⟨d1, X1, P1, S2⟩ : ∃ d1, Aside (Ixd d d1 (rtIx r m e)) ∧ Aside (PermIn a b d d1) ∧ Aside (SW enc w0 blk off d1 wr) := ⟨d, (Ixd.refl d).congr fun t => (rt_triv (.inr (by omega)) r2 r3 t).symm, permIn_refl _ _ _, S1⟩
               clear S1 c1 c2
               rotate_left)
            | skip
            first
            | (exfalso; omega)
            | (have qq : m ≤ r := c1
               clear qq
               go_upto_region 41 with fail
               obtain ⟨d1, X1, P1, S2⟩ : ∃ d1, Aside (Ixd d d1 (rtIx r m e)) ∧ Aside (PermIn a b d d1) ∧ Aside (SW enc w0 blk off d1 wr) := ⟨d, (Ixd.refl d).congr fun t => (rt_triv (.inl (by omega)) r2 r3 t).symm, permIn_refl _ _ _, S1⟩
               clear S1 c1
               rotate_left)
            | skip
            all_goals
              have hs1 : d1.size = d.size := P1.out.1
              obtain ⟨c1, c2⟩ | ⟨c1, c2⟩ | c1 : (a < r ∧ r < mid) ∨ (a < r ∧ mid ≤ r) ∨ r ≤ a := by omega
              first
              | (exfalso; omega)
              | (have qq : r < mid := c2
                 clear qq
                 have hr := HI2.out a r mid d1 _ hs1 (by omega) S2 c1 c2 (by omega) (C.out.left HP.out X1.out c1 c2)
                 go_upto_region 43 with (go_at_fn 107; refine hr.mono ?_; rintro e' w2 ⟨rfl, d2, P2, O2, S3⟩)
                 clear hr S2 c1 c2
                 rotate_left)
              | skip
              first
              | (exfalso; omega)
              | (have qq : mid ≤ r := c2
                 clear qq
                 go_upto_region 43 with fail
                 obtain ⟨d2, P2, O2, S3⟩ : ∃ d2, Aside (PermIn a mid d1 d2) ∧ Aside (Ord Q d2 a mid) ∧ Aside (SW enc w0 blk off d2 _) := ⟨d1, permIn_refl _ _ _, C.out.leftOrd HP.out X1.out (by omega), S2⟩
                 clear S2 c1 c2
                 rotate_left)
              | skip
              first
              | (exfalso; omega)
              | (have qq : r ≤ a := c1
                 clear qq
                 go_upto_region 43 with fail
                 obtain ⟨d2, P2, O2, S3⟩ : ∃ d2, Aside (PermIn a mid d1 d2) ∧ Aside (Ord Q d2 a mid) ∧ Aside (SW enc w0 blk off d2 _) := ⟨d1, permIn_refl _ _ _, C.out.leftOrd HP.out X1.out (by omega), S2⟩
                 clear S2 c1
                 rotate_left)
              | skip
            all_goals
              have hs2 : d2.size = d.size := P2.out.1.trans hs1
              obtain ⟨c1, c2⟩ | ⟨c1, c2⟩ | c1 : (mid < e ∧ e < b) ∨ (mid < e ∧ b ≤ e) ∨ e ≤ mid := by omega
              · have hr := HI2.out mid e b d2 _ hs2 (by omega) S3 c1 c2 (by omega) (C.out.right HP.out X1.out (fun t ht => P2.out.2.1 t (.inr ht)) c1 c2)
                go_wp2_with (go_at_fn 107; refine hr.mono ?_; rintro e' w3 ⟨rfl, d3, P3, O3, S4⟩)
                go_end0
                exact ⟨rfl, d3, permIn_trans _ _ _ _ _ P1.out (permIn_trans _ _ _ _ _ (permIn_mono _ _ _ _ _ _ (Nat.le_refl _) C.out.mb (by omega) P2.out) (permIn_mono _ _ _ _ _ _ C.out.am (Nat.le_refl _) (by omega) P3.out)), ord_join C.out.am C.out.mb (by omega) (C.out.cross HT.out HP.out X1.out) P2.out O2.out P3.out O3.out, S4.out⟩
              · go_wp2_with fail
                all_goals go_end0
                all_goals exact ⟨rfl, d2, permIn_trans _ _ _ _ _ P1.out (permIn_mono _ _ _ _ _ _ (Nat.le_refl _) C.out.mb (by omega) P2.out), ord_join C.out.am C.out.mb (by omega) (C.out.cross HT.out HP.out X1.out) P2.out O2.out (permIn_refl _ _ _) (C.out.rightOrd HP.out X1.out (fun t ht => P2.out.2.1 t (.inr ht)) (by omega)), S3.out⟩
              · go_wp2_with fail
                all_goals go_end0
                all_goals exact ⟨rfl, d2, permIn_trans _ _ _ _ _ P1.out (permIn_mono _ _ _ _ _ _ (Nat.le_refl _) C.out.mb (by omega) P2.out), ord_join C.out.am C.out.mb (by omega) (C.out.cross HT.out HP.out X1.out) P2.out O2.out (permIn_refl _ _ _) (C.out.rightOrd HP.out X1.out (fun t ht => P2.out.2.1 t (.inr ht)) (by omega)), S3.out⟩
end Go.Proofs.Ytajlddgemkkcdaa
