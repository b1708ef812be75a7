/- The contract of the reference's best. Conditions stand in each theorem. -/
import Derived.Test.YtajlddgemkkcdaaQJ
import Derived.Laws.Cover3
import Derived.Lib.SliceRun
namespace Go.Proofs.Ytajlddgemkkcdaa
open Go.RowKit
set_option linter.unusedVariables false
set_option maxHeartbeats 16000000
set_option maxRecDepth 100000
/-- The record that best holds behind one page more, and behind the first pages. -/
def bsC (K prev : Int) (x : Pg) : Prop := jnB x.s = true ∧ x.s.k = K ∧ (K = 2 → x.s.p = prev)
instance (K prev : Int) (x : Pg) : Decidable (bsC K prev x) := inferInstanceAs (Decidable (_ ∧ _ ∧ _))
def bsS (l : List Pg) (K prev : Int) (b : Option Cr) (x : Pg) : Option Cr :=
  if bsC K prev x then
    match crF l x.s.key with
    | some c => (match b with | none => some c | some d => if d.r.f < c.r.f then some c else some d)
    | none => b
  else b
def bsF (l : List Pg) (K prev : Int) : Nat → Option Cr
  | 0 => none
  | i + 1 => match l[i]? with | some x => bsS l K prev (bsF l K prev i) x | none => bsF l K prev i
theorem bsF_succ {l : List Pg} {K prev : Int} {i : Nat} (h : i < l.length) : bsF l K prev (i + 1) = bsS l K prev (bsF l K prev i) l[i] := by
  show (match l[i]? with | some x => bsS l K prev (bsF l K prev i) x | none => bsF l K prev i) = _
  rw [List.getElem?_eq_getElem h]
theorem bsS_no {l : List Pg} {K prev : Int} {b : Option Cr} {x : Pg} (h : ¬ bsC K prev x) : bsS l K prev b x = b := if_neg h
theorem bsS_inc {l : List Pg} {K prev : Int} {b : Option Cr} {x : Pg} (h : bsC K prev x) (hc : crF l x.s.key = none) : bsS l K prev b x = b := by unfold bsS; rw [if_pos h, hc]
theorem bsS_first {l : List Pg} {K prev : Int} {x : Pg} {c : Cr} (h : bsC K prev x) (hc : crF l x.s.key = some c) : bsS l K prev none x = some c := by unfold bsS; rw [if_pos h, hc]
theorem bsS_old {l : List Pg} {K prev : Int} {d : Cr} {x : Pg} (h : bsC K prev x) (hd : ∀ c, crF l x.s.key = some c → c.r.f ≤ d.r.f) : bsS l K prev (some d) x = some d := by
  unfold bsS
  rw [if_pos h]
  cases hc : crF l x.s.key with
  | none => rfl
  | some c => exact if_neg (by have := hd c hc; omega)
theorem bsS_new {l : List Pg} {K prev : Int} {d c : Cr} {x : Pg} (h : bsC K prev x) (hc : crF l x.s.key = some c) (hd : d.r.f < c.r.f) : bsS l K prev (some d) x = some c := by
  unfold bsS
  rw [if_pos h, hc]
  exact if_pos hd
theorem cr_none {l : List Pg} {r : Rec} (h : whF l r = none) : crF l r = none := by
  unfold whF at h
  unfold crF
  split at h
  · cases h
  · rename_i hn; rw [if_neg hn]
theorem cr_some {l : List Pg} {r : Rec} {ps : List Nat} (h : whF l r = some ps) : ∃ e, crF l r = some ⟨r, e, ps⟩ := by
  unfold whF at h
  unfold crF
  split at h
  · rename_i hn
    cases h
    exact ⟨_, if_pos hn⟩
  · cases h
theorem cr_rec {l : List Pg} {r : Rec} {c : Cr} (h : crF l r = some c) : c.r = r := by
  unfold crF at h
  split at h
  · cases h; rfl
  · cases h
/-- The record that best holds, in memory. -/
def BsV (W : World) (b : Option Cr) (v : Value) (H : Int) : Prop :=
  match b with
  | none => v = .slice none 0 0 ∧ H = 0
  | some x => H = x.r.f ∧ ∃ g c, v = .slice (some ⟨g, 0, none⟩) x.ps.length c ∧ Pls W v x.ps
theorem BsV.below {W W' : World} {b : Option Cr} {v : Value} {H : Int} (h : BsV W b v H) (hb : Below W.heap.size W W') : BsV W' b v H := by
  cases b with
  | none => exact h
  | some x =>
    obtain ⟨h1, g, c, h2, h3⟩ := h
    exact ⟨h1, g, c, h2, h3.below hb⟩
/-- What best leaves. -/
def BsPost (w : World) (m : Option Cr) (e : Ending) (w' : World) : Prop := (∃ v H, e = .returned v ∧ BsV w' m v H) ∧ Below w.heap.size w w'
theorem alloc_below' (w : World) (o : Obj) : Below w.heap.size w (w.alloc o) := (Below.refl _ _).alloc (Nat.le_refl _) _
theorem box_cells {W W' : World} {g : Nat} {a b c d e f : Value} (h : W.heap[g]? = some (.cells #[a, b, c, d, e, f] 44 (0, 0))) (hb : Below W.heap.size W W') :
    W'.cell? ⟨g, 0, none⟩ = some a ∧ W'.cell? ⟨g, 1, none⟩ = some b ∧ W'.cell? ⟨g, 2, none⟩ = some c ∧ W'.cell? ⟨g, 3, none⟩ = some d ∧ W'.cell? ⟨g, 4, none⟩ = some e ∧ W'.cell? ⟨g, 5, none⟩ = some f := by
  have h2 := (hb.block g (Array.getElem?_eq_some_iff.1 h).1).trans h
  exact ⟨cell_of_row _ g 0 _ _ _ h2, cell_of_row _ g 1 _ _ _ h2, cell_of_row _ g 2 _ _ _ h2, cell_of_row _ g 3 _ _ _ h2, cell_of_row _ g 4 _ _ _ h2, cell_of_row _ g 5 _ _ _ h2⟩
set_option maxHeartbeats 32000000 in
theorem best3_any (A : Option Addr) (c : Nat) (l : List Pg) (w : World) (h : Pgs w (.slice A l.length c) l) (hl : Okn l) (hm : l.length ≤ 10000) (prev : Int) :
    Calls Try.prog 42 #[.slice A l.length c, .int .u8 3, .int .u64 prev] w (BsPost w (bsF l 3 prev l.length)) := by
  have hqe : ∀ (w : World) (a : Option Addr) (n c n' c' : Nat), (binOp .eql 50 (.slice a n c) (.slice none n' c')).run Try.prog w = .ok (.bool a.isNone) w := fun w a n c n' c' => Lib.run_eql_slice_nil w _ _ a n c n' c' Try.underlying50
  have hqn : ∀ (w : World) (a : Option Addr) (n c : Nat), (binOp .neq 50 (.slice a n c) (.slice none 0 0)).run Try.prog w = .ok (.bool (!a.isNone)) w := fun w a n c => run_neq_slice_nil w _ _ a n c Try.underlying50
  have HWK := Lib.hid (fun (o : Spr) (ho : jnB o = true) (hok : o.ok) (W : World) (hb : Below w.heap.size w W) => whole_any o ho hok A c l W (h.below hb) hl hm)
  obtain ⟨A', c', he, hc, hr⟩ := h
  cases he
  have HR := Lib.hid hr
  have HOK := Lib.hid hl
  have hli : (l.length : Int) ≤ 10000 := by omega
  clear hr hl
  go_enter Try.func42, Try.ntmps42
  go_wp2
  go_loopw [7, 8, 9] (fun v hi i wr => ∃ (k : Nat) (A1 : Option Addr) (n1 c1 : Nat) (H : Int), k ≤ l.length ∧ i = .int .i64 (k : Int) ∧ v = .slice A1 n1 c1 ∧ hi = .int .u64 H ∧ Hid (BsV wr (bsF l 3 prev k) (.slice A1 n1 c1) H) ∧ Hid (Below w.heap.size w wr) ∧ Hid (0 ≤ H)) (fun _ _ i _ => l.length - (RowKit.intOf i).toNat)
  case atStart => exact ⟨0, none, 0, 0, 0, Nat.zero_le _, rfl, rfl, rfl, Lib.hid ⟨rfl, rfl⟩, Lib.hid (Below.refl _ _), Lib.hid (Int.le_refl _)⟩
  case round =>
    obtain ⟨k, A1, n1, c1, H, hk, rfl, rfl, rfl, HV, HB, HZ⟩ := hrel
    by_cases hlt : k < l.length
    · obtain ⟨g, off, rfl, hg, hcell⟩ := HR.out (by omega)
      have hp := (hcell k hlt).keep (W' := wr) (fun i => HB.out.cell (p := ⟨g, i, none⟩) hg)
      obtain ⟨hs1, hs2, hs3⟩ := HOK.out _ (List.getElem_mem hlt)
      have HRV := Lib.hid (fun W => rvalid_any l[k].s hs1 hs2 hs3 W)
      have HWH := Lib.hid (fun (hj : jnB l[k].s = true) => HWK.out l[k].s hj hs1)
      have HJN := Lib.hid (fun h => rvB_jn hs1 h)
      have HJF := Lib.hid (fun (h : jnB l[k].s = true) => jn_facts h)
      have HSU := Lib.hid (bsF_succ (l := l) (K := 3) (prev := prev) hlt)
      obtain ⟨q2, q3, hx4, -⟩ := hs1
      obtain ⟨x, hx⟩ : ∃ x, x = l[k] := ⟨_, rfl⟩
      rw [← hx] at hp HRV HWH HJN HJF HSU q2 q3 hx4
      obtain ⟨S, hS⟩ : ∃ S, S = bsF l 3 prev (k + 1) := ⟨_, rfl⟩
      obtain ⟨b, hbb⟩ : ∃ b, b = bsF l 3 prev k := ⟨_, rfl⟩
      rw [← hbb] at HSU HV
      clear hcell hx hs2 hs3 HR HOK HWK hS hbb
      obtain ⟨⟨xk, xs, xq, xp, xi, xn⟩, ea, ec, es⟩ := x
      obtain ⟨c0, c1', c2, c3, c4, c5, -⟩ := hp
      simp only at c0 c1' c2 c3 c4 c5 q2 q3 hx4
      have hk0 : (0 : Int) ≤ (k : Int) := by omega
      have hk1 : (k : Int) < (l.length : Int) := by omega
      have hH0 := HZ.out
      go_upto_region 7 with fail
      obtain ⟨W3, hW3⟩ : ∃ W3, W3 = wr.alloc (.cells #[.int .u8 xk, .int .i64 xs, .int .u64 xq, .int .u64 xp, .int .i64 xi, .int .i64 xn] 44) := ⟨_, rfl⟩
      have hb3 := heap_alloc_new wr (.cells #[.int .u8 xk, .int .i64 xs, .int .u64 xq, .int .u64 xp, .int .i64 xi, .int .i64 xn] 44)
      rw [← hW3] at hb3 ⊢
      have HV3 : Hid (BsV W3 b (.slice A1 n1 c1) H) := Lib.hid (by rw [hW3]; exact HV.out.below (alloc_below' wr _))
      have HB3 : Hid (Below w.heap.size w W3) := Lib.hid (by rw [hW3]; exact HB.out.alloc HB.out.size _)
      clear hW3
      obtain ⟨bx, hbx⟩ : ∃ bx, bx = wr.heap.size := ⟨_, rfl⟩
      rw [← hbx] at hb3 ⊢
      clear hbx
      have HY := Lib.hid (fun (W : World) (h : Below W3.heap.size W3 W) => box_cells hb3 h)
      obtain ⟨g0, g1, g2, g3, g4, g5⟩ := HY.out W3 (Below.refl _ _)
      have HPQ := Lib.hid (And.intro q2 (And.intro q3 hx4))
      clear hb3 c0 c1' c2 c3 c4 c5 HB HV q2 q3 hx4
      cases hv : rvB ⟨xk, xs, xq, xp, xi, xn⟩ with
      | false =>
        rw [hv] at HRV
        have HNO : Hid (¬ bsC 3 prev ⟨⟨xk, xs, xq, xp, xi, xn⟩, ea, ec, es⟩) := Lib.hid (fun h => by
          have h1 := h.1
          have h2 : xk = 3 := h.2.1
          have h3 := HJN.out (show xk = 2 ∨ xk = 3 by omega)
          rw [hv] at h3
          rw [← h3] at h1
          cases h1)
        clear hv HJN HJF HWH
        go_wp2_with ((go_at_call 59; with_reducible refine (HRV.out _).mono ?_); rintro e w4 ⟨rfl, hg⟩; (have hb4 := hg.below); (obtain ⟨y0, y1, y2, y3, y4, y5⟩ := HY.out _ hb4); have HB4 := Lib.hid (HB3.out.trans (hb4.mono HB3.out.size)); have HV4 := Lib.hid (HV3.out.below hb4); have HB34 := Lib.hid hb4; clear hg hb4)
        go_roundw
        case rel => exact ⟨k + 1, _, _, _, _, by omega, by go_num, rfl, rfl, Lib.hid (by rw [HSU.out, bsS_no HNO.out]; exact HV4.out), HB4, Lib.hid (HZ.out)⟩
        case measure => simp [RowKit.intOf]; omega
      | true =>
        have hrv := hv
        rw [hv] at HRV
        clear hv
        by_cases b1 : xk = 3
        case neg =>
          have eb1 : (xk == 3) = false := by simpa using b1
          have HNO : Hid (¬ bsC 3 prev ⟨⟨xk, xs, xq, xp, xi, xn⟩, ea, ec, es⟩) := Lib.hid (fun h => b1 h.2.1)
          clear HJN HJF HWH hrv
          go_wp2_with ((go_at_call 59; with_reducible refine (HRV.out _).mono ?_); rintro e w4 ⟨rfl, hg⟩; (have hb4 := hg.below); (obtain ⟨y0, y1, y2, y3, y4, y5⟩ := HY.out _ hb4); have HB4 := Lib.hid (HB3.out.trans (hb4.mono HB3.out.size)); have HV4 := Lib.hid (HV3.out.below hb4); have HB34 := Lib.hid hb4; clear hg hb4)
          go_roundw
          case rel => exact ⟨k + 1, _, _, _, _, by omega, by go_num, rfl, rfl, Lib.hid (by rw [HSU.out, bsS_no HNO.out]; exact HV4.out), HB4, Lib.hid (HZ.out)⟩
          case measure => simp [RowKit.intOf]; omega
        subst b1
        have hjn : jnB ⟨3, xs, xq, xp, xi, xn⟩ = true := by rw [← HJN.out (.inr rfl)]; exact hrv
        obtain ⟨-, -, m1, m2, m3, m4, m5, m6⟩ := HJF.out hjn
        obtain ⟨q2, q3, hx4⟩ := HPQ.out
        simp only at m1 m2 m3 m4 m5 m6 q2 q3 hx4
        have m7 : xi ≤ 65534 := by omega
        have m8 : xi ≤ xq := by omega
        have HJ := Lib.hid hjn
        have HWW := Lib.hid (HWH.out hjn)
        simp only [Spr.v, Spr.row] at HWW
        have HKF : Hid ((Spr.key ⟨3, xs, xq, xp, xi, xn⟩).f = xq - xi) := Lib.hid rfl
        have hF0 : 0 ≤ xq - xi := by omega
        clear hrv HJN HJF HWH m1 m2 m4 m5 m6 hx4 hjn
        have HC : Hid (bsC 3 prev ⟨⟨3, xs, xq, xp, xi, xn⟩, ea, ec, es⟩) := Lib.hid ⟨HJ.out, rfl, fun h => absurd h (by decide)⟩
        cases b with
        | none =>
          obtain ⟨e1, e2⟩ := HV3.out
          injection e1 with e1 e3 e4
          subst e1 e2 e3 e4
          cases hf : whF l (Spr.key ⟨3, xs, xq, xp, xi, xn⟩) with
          | none =>
            rw [hf] at HWW
            have HCN := Lib.hid (cr_none hf)
            clear hf
            go_wp2_with (first | ((go_at_call 59; with_reducible refine (HRV.out _).mono ?_); rintro e w4 ⟨rfl, hg⟩; (have hb4 := hg.below); (obtain ⟨y0, y1, y2, y3, y4, y5⟩ := HY.out _ hb4); have HB4 := Lib.hid (HB3.out.trans (hb4.mono HB3.out.size)); have HV4 := Lib.hid (HV3.out.below hb4); have HB34 := Lib.hid hb4; clear hg hb4) | ((go_at_call 60; with_reducible refine (HWW.out _ HB4.out).mono ?_); rintro e w5 ⟨rfl, hb⟩; (have hb5 := HB34.out.trans (hb.mono HB34.out.size)); (obtain ⟨y0, y1, y2, y3, y4, y5⟩ := HY.out _ hb5); have HB5 := Lib.hid (HB4.out.trans (hb.mono HB4.out.size)); have HV5 := Lib.hid (HV4.out.below hb); clear hb hb5))
            go_roundw
            case rel => exact ⟨k + 1, _, _, _, _, by omega, by go_num, rfl, rfl, Lib.hid (by rw [HSU.out, bsS_inc HC.out HCN.out]; exact HV5.out), HB5, Lib.hid (HZ.out)⟩
            case measure => simp [RowKit.intOf]; omega
          | some ps =>
            rw [hf] at HWW
            obtain ⟨ee, hee⟩ := cr_some hf
            have HCS := Lib.hid hee
            clear hf hee
            go_upto_region 10 with (first | ((go_at_call 59; with_reducible refine (HRV.out _).mono ?_); rintro e w4 ⟨rfl, hg⟩; (have hb4 := hg.below); (obtain ⟨y0, y1, y2, y3, y4, y5⟩ := HY.out _ hb4); have HB4 := Lib.hid (HB3.out.trans (hb4.mono HB3.out.size)); have HV4 := Lib.hid (HV3.out.below hb4); have HB34 := Lib.hid hb4; clear hg hb4) | ((go_at_call 60; with_reducible refine (HWW.out _ HB4.out).mono ?_); rintro e w5 ⟨⟨gw, cw, rfl, hpw⟩, hb⟩; (have hb5 := HB34.out.trans (hb.mono HB34.out.size)); (obtain ⟨y0, y1, y2, y3, y4, y5⟩ := HY.out _ hb5); have HB5 := Lib.hid (HB4.out.trans (hb.mono HB4.out.size)); have HV5 := Lib.hid (HV4.out.below hb); have HPW := Lib.hid hpw; clear hb hb5 hpw))
            go_quiet (fail)
            go_wp2
            go_roundw
            case rel => exact ⟨k + 1, _, _, _, _, by omega, by go_num, rfl, rfl, Lib.hid (by rw [HSU.out, bsS_first HC.out HCS.out]; exact ⟨rfl, gw, cw, rfl, HPW.out.below (below_drewN (Below.refl _ _) _)⟩), Lib.hid (below_drewN HB5.out _), Lib.hid hF0⟩
            case measure => simp [RowKit.intOf]; omega
        | some d =>
          obtain ⟨e2, gd, cd, e1, hpd⟩ := HV3.out
          injection e1 with e1 e3 e4
          subst e1 e3 e4
          by_cases f1 : xq - xi < H
          · have HOL : Hid (∀ c, crF l (Spr.key ⟨3, xs, xq, xp, xi, xn⟩) = some c → c.r.f ≤ d.r.f) := Lib.hid (fun c hc => by rw [cr_rec hc, HKF.out]; omega)
            clear hpd e2 HWW
            go_wp2_with ((go_at_call 59; with_reducible refine (HRV.out _).mono ?_); rintro e w4 ⟨rfl, hg⟩; (have hb4 := hg.below); (obtain ⟨y0, y1, y2, y3, y4, y5⟩ := HY.out _ hb4); have HB4 := Lib.hid (HB3.out.trans (hb4.mono HB3.out.size)); have HV4 := Lib.hid (HV3.out.below hb4); have HB34 := Lib.hid hb4; clear hg hb4)
            go_roundw
            case rel => exact ⟨k + 1, _, _, _, _, by omega, by go_num, rfl, rfl, Lib.hid (by rw [HSU.out, bsS_old HC.out HOL.out]; exact HV4.out), HB4, Lib.hid (HZ.out)⟩
            case measure => simp [RowKit.intOf]; omega
          cases hf : whF l (Spr.key ⟨3, xs, xq, xp, xi, xn⟩) with
          | none =>
            rw [hf] at HWW
            have HOL : Hid (∀ c, crF l (Spr.key ⟨3, xs, xq, xp, xi, xn⟩) = some c → c.r.f ≤ d.r.f) := Lib.hid (fun c hc => by rw [cr_none hf] at hc; cases hc)
            clear hf hpd e2
            go_wp2_with (first | ((go_at_call 59; with_reducible refine (HRV.out _).mono ?_); rintro e w4 ⟨rfl, hg⟩; (have hb4 := hg.below); (obtain ⟨y0, y1, y2, y3, y4, y5⟩ := HY.out _ hb4); have HB4 := Lib.hid (HB3.out.trans (hb4.mono HB3.out.size)); have HV4 := Lib.hid (HV3.out.below hb4); have HB34 := Lib.hid hb4; clear hg hb4) | ((go_at_call 60; with_reducible refine (HWW.out _ HB4.out).mono ?_); rintro e w5 ⟨rfl, hb⟩; (have hb5 := HB34.out.trans (hb.mono HB34.out.size)); (obtain ⟨y0, y1, y2, y3, y4, y5⟩ := HY.out _ hb5); have HB5 := Lib.hid (HB4.out.trans (hb.mono HB4.out.size)); have HV5 := Lib.hid (HV4.out.below hb); clear hb hb5))
            go_roundw
            case rel => exact ⟨k + 1, _, _, _, _, by omega, by go_num, rfl, rfl, Lib.hid (by rw [HSU.out, bsS_old HC.out HOL.out]; exact HV5.out), HB5, Lib.hid (HZ.out)⟩
            case measure => simp [RowKit.intOf]; omega
          | some ps =>
            by_cases f2 : H < xq - xi
            case neg =>
              have HOL : Hid (∀ c, crF l (Spr.key ⟨3, xs, xq, xp, xi, xn⟩) = some c → c.r.f ≤ d.r.f) := Lib.hid (fun c hc => by rw [cr_rec hc, HKF.out]; omega)
              rw [hf] at HWW
              clear hf hpd e2
              go_wp2_with (first | ((go_at_call 59; with_reducible refine (HRV.out _).mono ?_); rintro e w4 ⟨rfl, hg⟩; (have hb4 := hg.below); (obtain ⟨y0, y1, y2, y3, y4, y5⟩ := HY.out _ hb4); have HB4 := Lib.hid (HB3.out.trans (hb4.mono HB3.out.size)); have HV4 := Lib.hid (HV3.out.below hb4); have HB34 := Lib.hid hb4; clear hg hb4) | ((go_at_call 60; with_reducible refine (HWW.out _ HB4.out).mono ?_); rintro e w5 ⟨⟨gw, cw, rfl, hpw⟩, hb⟩; (have hb5 := HB34.out.trans (hb.mono HB34.out.size)); (obtain ⟨y0, y1, y2, y3, y4, y5⟩ := HY.out _ hb5); have HB5 := Lib.hid (HB4.out.trans (hb.mono HB4.out.size)); have HV5 := Lib.hid (HV4.out.below hb); clear hb hb5))
              go_roundw
              case rel => exact ⟨k + 1, _, _, _, _, by omega, by go_num, rfl, rfl, Lib.hid (by rw [HSU.out, bsS_old HC.out HOL.out]; exact HV5.out), HB5, Lib.hid (HZ.out)⟩
              case measure => simp [RowKit.intOf]; omega
            have HLT : Hid (∀ ee, d.r.f < (Cr.mk (Spr.key ⟨3, xs, xq, xp, xi, xn⟩) ee ps).r.f) := Lib.hid (fun ee => by show d.r.f < (Spr.key ⟨3, xs, xq, xp, xi, xn⟩).f; rw [HKF.out]; omega)
            clear hpd e2
            rw [hf] at HWW
            obtain ⟨ee, hee⟩ := cr_some hf
            have HCS := Lib.hid hee
            clear hf hee
            go_upto_region 10 with (first | ((go_at_call 59; with_reducible refine (HRV.out _).mono ?_); rintro e w4 ⟨rfl, hg⟩; (have hb4 := hg.below); (obtain ⟨y0, y1, y2, y3, y4, y5⟩ := HY.out _ hb4); have HB4 := Lib.hid (HB3.out.trans (hb4.mono HB3.out.size)); have HV4 := Lib.hid (HV3.out.below hb4); have HB34 := Lib.hid hb4; clear hg hb4) | ((go_at_call 60; with_reducible refine (HWW.out _ HB4.out).mono ?_); rintro e w5 ⟨⟨gw, cw, rfl, hpw⟩, hb⟩; (have hb5 := HB34.out.trans (hb.mono HB34.out.size)); (obtain ⟨y0, y1, y2, y3, y4, y5⟩ := HY.out _ hb5); have HB5 := Lib.hid (HB4.out.trans (hb.mono HB4.out.size)); have HV5 := Lib.hid (HV4.out.below hb); have HPW := Lib.hid hpw; clear hb hb5 hpw))
            go_quiet (fail)
            go_wp2
            go_roundw
            case rel => exact ⟨k + 1, _, _, _, _, by omega, by go_num, rfl, rfl, Lib.hid (by rw [HSU.out, bsS_new HC.out HCS.out (HLT.out 0)]; exact ⟨rfl, gw, cw, rfl, HPW.out.below (below_drewN (Below.refl _ _) _)⟩), Lib.hid (below_drewN HB5.out _), Lib.hid hF0⟩
            case measure => simp [RowKit.intOf]; omega
    · obtain rfl : k = l.length := by omega
      have hki : ¬ (l.length : Int) < (l.length : Int) := by omega
      go_wp2
      go_ret
      exact ⟨⟨_, H, rfl, HV.out⟩, HB.out⟩
set_option maxHeartbeats 32000000 in
theorem best2_any (A : Option Addr) (c : Nat) (l : List Pg) (w : World) (h : Pgs w (.slice A l.length c) l) (hl : Okn l) (hm : l.length ≤ 10000) (prev : Int) :
    Calls Try.prog 42 #[.slice A l.length c, .int .u8 2, .int .u64 prev] w (BsPost w (bsF l 2 prev l.length)) := by
  have hqe : ∀ (w : World) (a : Option Addr) (n c n' c' : Nat), (binOp .eql 50 (.slice a n c) (.slice none n' c')).run Try.prog w = .ok (.bool a.isNone) w := fun w a n c n' c' => Lib.run_eql_slice_nil w _ _ a n c n' c' Try.underlying50
  have hqn : ∀ (w : World) (a : Option Addr) (n c : Nat), (binOp .neq 50 (.slice a n c) (.slice none 0 0)).run Try.prog w = .ok (.bool (!a.isNone)) w := fun w a n c => run_neq_slice_nil w _ _ a n c Try.underlying50
  have HWK := Lib.hid (fun (o : Spr) (ho : jnB o = true) (hok : o.ok) (W : World) (hb : Below w.heap.size w W) => whole_any o ho hok A c l W (h.below hb) hl hm)
  obtain ⟨A', c', he, hc, hr⟩ := h
  cases he
  have HR := Lib.hid hr
  have HOK := Lib.hid hl
  have hli : (l.length : Int) ≤ 10000 := by omega
  clear hr hl
  go_enter Try.func42, Try.ntmps42
  go_wp2
  go_loopw [7, 8, 9] (fun v hi i wr => ∃ (k : Nat) (A1 : Option Addr) (n1 c1 : Nat) (H : Int), k ≤ l.length ∧ i = .int .i64 (k : Int) ∧ v = .slice A1 n1 c1 ∧ hi = .int .u64 H ∧ Hid (BsV wr (bsF l 2 prev k) (.slice A1 n1 c1) H) ∧ Hid (Below w.heap.size w wr) ∧ Hid (0 ≤ H)) (fun _ _ i _ => l.length - (RowKit.intOf i).toNat)
  case atStart => exact ⟨0, none, 0, 0, 0, Nat.zero_le _, rfl, rfl, rfl, Lib.hid ⟨rfl, rfl⟩, Lib.hid (Below.refl _ _), Lib.hid (Int.le_refl _)⟩
  case round =>
    obtain ⟨k, A1, n1, c1, H, hk, rfl, rfl, rfl, HV, HB, HZ⟩ := hrel
    by_cases hlt : k < l.length
    · obtain ⟨g, off, rfl, hg, hcell⟩ := HR.out (by omega)
      have hp := (hcell k hlt).keep (W' := wr) (fun i => HB.out.cell (p := ⟨g, i, none⟩) hg)
      obtain ⟨hs1, hs2, hs3⟩ := HOK.out _ (List.getElem_mem hlt)
      have HRV := Lib.hid (fun W => rvalid_any l[k].s hs1 hs2 hs3 W)
      have HWH := Lib.hid (fun (hj : jnB l[k].s = true) => HWK.out l[k].s hj hs1)
      have HJN := Lib.hid (fun h => rvB_jn hs1 h)
      have HJF := Lib.hid (fun (h : jnB l[k].s = true) => jn_facts h)
      have HSU := Lib.hid (bsF_succ (l := l) (K := 2) (prev := prev) hlt)
      obtain ⟨q2, q3, hx4, -⟩ := hs1
      obtain ⟨x, hx⟩ : ∃ x, x = l[k] := ⟨_, rfl⟩
      rw [← hx] at hp HRV HWH HJN HJF HSU q2 q3 hx4
      obtain ⟨S, hS⟩ : ∃ S, S = bsF l 2 prev (k + 1) := ⟨_, rfl⟩
      obtain ⟨b, hbb⟩ : ∃ b, b = bsF l 2 prev k := ⟨_, rfl⟩
      rw [← hbb] at HSU HV
      clear hcell hx hs2 hs3 HR HOK HWK hS hbb
      obtain ⟨⟨xk, xs, xq, xp, xi, xn⟩, ea, ec, es⟩ := x
      obtain ⟨c0, c1', c2, c3, c4, c5, -⟩ := hp
      simp only at c0 c1' c2 c3 c4 c5 q2 q3 hx4
      have hk0 : (0 : Int) ≤ (k : Int) := by omega
      have hk1 : (k : Int) < (l.length : Int) := by omega
      have hH0 := HZ.out
      go_upto_region 7 with fail
      obtain ⟨W3, hW3⟩ : ∃ W3, W3 = wr.alloc (.cells #[.int .u8 xk, .int .i64 xs, .int .u64 xq, .int .u64 xp, .int .i64 xi, .int .i64 xn] 44) := ⟨_, rfl⟩
      have hb3 := heap_alloc_new wr (.cells #[.int .u8 xk, .int .i64 xs, .int .u64 xq, .int .u64 xp, .int .i64 xi, .int .i64 xn] 44)
      rw [← hW3] at hb3 ⊢
      have HV3 : Hid (BsV W3 b (.slice A1 n1 c1) H) := Lib.hid (by rw [hW3]; exact HV.out.below (alloc_below' wr _))
      have HB3 : Hid (Below w.heap.size w W3) := Lib.hid (by rw [hW3]; exact HB.out.alloc HB.out.size _)
      clear hW3
      obtain ⟨bx, hbx⟩ : ∃ bx, bx = wr.heap.size := ⟨_, rfl⟩
      rw [← hbx] at hb3 ⊢
      clear hbx
      have HY := Lib.hid (fun (W : World) (h : Below W3.heap.size W3 W) => box_cells hb3 h)
      obtain ⟨g0, g1, g2, g3, g4, g5⟩ := HY.out W3 (Below.refl _ _)
      have HPQ := Lib.hid (And.intro q2 (And.intro q3 hx4))
      clear hb3 c0 c1' c2 c3 c4 c5 HB HV q2 q3 hx4
      cases hv : rvB ⟨xk, xs, xq, xp, xi, xn⟩ with
      | false =>
        rw [hv] at HRV
        have HNO : Hid (¬ bsC 2 prev ⟨⟨xk, xs, xq, xp, xi, xn⟩, ea, ec, es⟩) := Lib.hid (fun h => by
          have h1 := h.1
          have h2 : xk = 2 := h.2.1
          have h3 := HJN.out (show xk = 2 ∨ xk = 3 by omega)
          rw [hv] at h3
          rw [← h3] at h1
          cases h1)
        clear hv HJN HJF HWH
        go_wp2_with ((go_at_call 59; with_reducible refine (HRV.out _).mono ?_); rintro e w4 ⟨rfl, hg⟩; (have hb4 := hg.below); (obtain ⟨y0, y1, y2, y3, y4, y5⟩ := HY.out _ hb4); have HB4 := Lib.hid (HB3.out.trans (hb4.mono HB3.out.size)); have HV4 := Lib.hid (HV3.out.below hb4); have HB34 := Lib.hid hb4; clear hg hb4)
        go_roundw
        case rel => exact ⟨k + 1, _, _, _, _, by omega, by go_num, rfl, rfl, Lib.hid (by rw [HSU.out, bsS_no HNO.out]; exact HV4.out), HB4, Lib.hid (HZ.out)⟩
        case measure => simp [RowKit.intOf]; omega
      | true =>
        have hrv := hv
        rw [hv] at HRV
        clear hv
        by_cases b1 : xk = 2
        case neg =>
          have eb1 : (xk == 2) = false := by simpa using b1
          have HNO : Hid (¬ bsC 2 prev ⟨⟨xk, xs, xq, xp, xi, xn⟩, ea, ec, es⟩) := Lib.hid (fun h => b1 h.2.1)
          clear HJN HJF HWH hrv
          go_wp2_with ((go_at_call 59; with_reducible refine (HRV.out _).mono ?_); rintro e w4 ⟨rfl, hg⟩; (have hb4 := hg.below); (obtain ⟨y0, y1, y2, y3, y4, y5⟩ := HY.out _ hb4); have HB4 := Lib.hid (HB3.out.trans (hb4.mono HB3.out.size)); have HV4 := Lib.hid (HV3.out.below hb4); have HB34 := Lib.hid hb4; clear hg hb4)
          go_roundw
          case rel => exact ⟨k + 1, _, _, _, _, by omega, by go_num, rfl, rfl, Lib.hid (by rw [HSU.out, bsS_no HNO.out]; exact HV4.out), HB4, Lib.hid (HZ.out)⟩
          case measure => simp [RowKit.intOf]; omega
        subst b1
        have hjn : jnB ⟨2, xs, xq, xp, xi, xn⟩ = true := by rw [← HJN.out (.inl rfl)]; exact hrv
        obtain ⟨-, -, m1, m2, m3, m4, m5, m6⟩ := HJF.out hjn
        obtain ⟨q2, q3, hx4⟩ := HPQ.out
        simp only at m1 m2 m3 m4 m5 m6 q2 q3 hx4
        have m7 : xi ≤ 65534 := by omega
        have m8 : xi ≤ xq := by omega
        have HJ := Lib.hid hjn
        have HWW := Lib.hid (HWH.out hjn)
        simp only [Spr.v, Spr.row] at HWW
        have HKF : Hid ((Spr.key ⟨2, xs, xq, xp, xi, xn⟩).f = xq - xi) := Lib.hid rfl
        have hF0 : 0 ≤ xq - xi := by omega
        clear hrv HJN HJF HWH m1 m2 m4 m5 m6 hx4 hjn
        by_cases b2 : xp = prev
        case neg =>
          have eb2 : (xp == prev) = false := by simpa using b2
          have HNO : Hid (¬ bsC 2 prev ⟨⟨2, xs, xq, xp, xi, xn⟩, ea, ec, es⟩) := Lib.hid (fun h => b2 (h.2.2 rfl))
          clear HWW
          go_wp2_with ((go_at_call 59; with_reducible refine (HRV.out _).mono ?_); rintro e w4 ⟨rfl, hg⟩; (have hb4 := hg.below); (obtain ⟨y0, y1, y2, y3, y4, y5⟩ := HY.out _ hb4); have HB4 := Lib.hid (HB3.out.trans (hb4.mono HB3.out.size)); have HV4 := Lib.hid (HV3.out.below hb4); have HB34 := Lib.hid hb4; clear hg hb4)
          go_roundw
          case rel => exact ⟨k + 1, _, _, _, _, by omega, by go_num, rfl, rfl, Lib.hid (by rw [HSU.out, bsS_no HNO.out]; exact HV4.out), HB4, Lib.hid (HZ.out)⟩
          case measure => simp [RowKit.intOf]; omega
        subst b2
        have HC : Hid (bsC 2 xp ⟨⟨2, xs, xq, xp, xi, xn⟩, ea, ec, es⟩) := Lib.hid ⟨HJ.out, rfl, fun _ => rfl⟩
        cases b with
        | none =>
          obtain ⟨e1, e2⟩ := HV3.out
          injection e1 with e1 e3 e4
          subst e1 e2 e3 e4
          cases hf : whF l (Spr.key ⟨2, xs, xq, xp, xi, xn⟩) with
          | none =>
            rw [hf] at HWW
            have HCN := Lib.hid (cr_none hf)
            clear hf
            go_wp2_with (first | ((go_at_call 59; with_reducible refine (HRV.out _).mono ?_); rintro e w4 ⟨rfl, hg⟩; (have hb4 := hg.below); (obtain ⟨y0, y1, y2, y3, y4, y5⟩ := HY.out _ hb4); have HB4 := Lib.hid (HB3.out.trans (hb4.mono HB3.out.size)); have HV4 := Lib.hid (HV3.out.below hb4); have HB34 := Lib.hid hb4; clear hg hb4) | ((go_at_call 60; with_reducible refine (HWW.out _ HB4.out).mono ?_); rintro e w5 ⟨rfl, hb⟩; (have hb5 := HB34.out.trans (hb.mono HB34.out.size)); (obtain ⟨y0, y1, y2, y3, y4, y5⟩ := HY.out _ hb5); have HB5 := Lib.hid (HB4.out.trans (hb.mono HB4.out.size)); have HV5 := Lib.hid (HV4.out.below hb); clear hb hb5))
            go_roundw
            case rel => exact ⟨k + 1, _, _, _, _, by omega, by go_num, rfl, rfl, Lib.hid (by rw [HSU.out, bsS_inc HC.out HCN.out]; exact HV5.out), HB5, Lib.hid (HZ.out)⟩
            case measure => simp [RowKit.intOf]; omega
          | some ps =>
            rw [hf] at HWW
            obtain ⟨ee, hee⟩ := cr_some hf
            have HCS := Lib.hid hee
            clear hf hee
            go_upto_region 10 with (first | ((go_at_call 59; with_reducible refine (HRV.out _).mono ?_); rintro e w4 ⟨rfl, hg⟩; (have hb4 := hg.below); (obtain ⟨y0, y1, y2, y3, y4, y5⟩ := HY.out _ hb4); have HB4 := Lib.hid (HB3.out.trans (hb4.mono HB3.out.size)); have HV4 := Lib.hid (HV3.out.below hb4); have HB34 := Lib.hid hb4; clear hg hb4) | ((go_at_call 60; with_reducible refine (HWW.out _ HB4.out).mono ?_); rintro e w5 ⟨⟨gw, cw, rfl, hpw⟩, hb⟩; (have hb5 := HB34.out.trans (hb.mono HB34.out.size)); (obtain ⟨y0, y1, y2, y3, y4, y5⟩ := HY.out _ hb5); have HB5 := Lib.hid (HB4.out.trans (hb.mono HB4.out.size)); have HV5 := Lib.hid (HV4.out.below hb); have HPW := Lib.hid hpw; clear hb hb5 hpw))
            go_quiet (fail)
            go_wp2
            go_roundw
            case rel => exact ⟨k + 1, _, _, _, _, by omega, by go_num, rfl, rfl, Lib.hid (by rw [HSU.out, bsS_first HC.out HCS.out]; exact ⟨rfl, gw, cw, rfl, HPW.out.below (below_drewN (Below.refl _ _) _)⟩), Lib.hid (below_drewN HB5.out _), Lib.hid hF0⟩
            case measure => simp [RowKit.intOf]; omega
        | some d =>
          obtain ⟨e2, gd, cd, e1, hpd⟩ := HV3.out
          injection e1 with e1 e3 e4
          subst e1 e3 e4
          by_cases f1 : xq - xi < H
          · have HOL : Hid (∀ c, crF l (Spr.key ⟨2, xs, xq, xp, xi, xn⟩) = some c → c.r.f ≤ d.r.f) := Lib.hid (fun c hc => by rw [cr_rec hc, HKF.out]; omega)
            clear hpd e2 HWW
            go_wp2_with ((go_at_call 59; with_reducible refine (HRV.out _).mono ?_); rintro e w4 ⟨rfl, hg⟩; (have hb4 := hg.below); (obtain ⟨y0, y1, y2, y3, y4, y5⟩ := HY.out _ hb4); have HB4 := Lib.hid (HB3.out.trans (hb4.mono HB3.out.size)); have HV4 := Lib.hid (HV3.out.below hb4); have HB34 := Lib.hid hb4; clear hg hb4)
            go_roundw
            case rel => exact ⟨k + 1, _, _, _, _, by omega, by go_num, rfl, rfl, Lib.hid (by rw [HSU.out, bsS_old HC.out HOL.out]; exact HV4.out), HB4, Lib.hid (HZ.out)⟩
            case measure => simp [RowKit.intOf]; omega
          cases hf : whF l (Spr.key ⟨2, xs, xq, xp, xi, xn⟩) with
          | none =>
            rw [hf] at HWW
            have HOL : Hid (∀ c, crF l (Spr.key ⟨2, xs, xq, xp, xi, xn⟩) = some c → c.r.f ≤ d.r.f) := Lib.hid (fun c hc => by rw [cr_none hf] at hc; cases hc)
            clear hf hpd e2
            go_wp2_with (first | ((go_at_call 59; with_reducible refine (HRV.out _).mono ?_); rintro e w4 ⟨rfl, hg⟩; (have hb4 := hg.below); (obtain ⟨y0, y1, y2, y3, y4, y5⟩ := HY.out _ hb4); have HB4 := Lib.hid (HB3.out.trans (hb4.mono HB3.out.size)); have HV4 := Lib.hid (HV3.out.below hb4); have HB34 := Lib.hid hb4; clear hg hb4) | ((go_at_call 60; with_reducible refine (HWW.out _ HB4.out).mono ?_); rintro e w5 ⟨rfl, hb⟩; (have hb5 := HB34.out.trans (hb.mono HB34.out.size)); (obtain ⟨y0, y1, y2, y3, y4, y5⟩ := HY.out _ hb5); have HB5 := Lib.hid (HB4.out.trans (hb.mono HB4.out.size)); have HV5 := Lib.hid (HV4.out.below hb); clear hb hb5))
            go_roundw
            case rel => exact ⟨k + 1, _, _, _, _, by omega, by go_num, rfl, rfl, Lib.hid (by rw [HSU.out, bsS_old HC.out HOL.out]; exact HV5.out), HB5, Lib.hid (HZ.out)⟩
            case measure => simp [RowKit.intOf]; omega
          | some ps =>
            by_cases f2 : H < xq - xi
            case neg =>
              have HOL : Hid (∀ c, crF l (Spr.key ⟨2, xs, xq, xp, xi, xn⟩) = some c → c.r.f ≤ d.r.f) := Lib.hid (fun c hc => by rw [cr_rec hc, HKF.out]; omega)
              rw [hf] at HWW
              clear hf hpd e2
              go_wp2_with (first | ((go_at_call 59; with_reducible refine (HRV.out _).mono ?_); rintro e w4 ⟨rfl, hg⟩; (have hb4 := hg.below); (obtain ⟨y0, y1, y2, y3, y4, y5⟩ := HY.out _ hb4); have HB4 := Lib.hid (HB3.out.trans (hb4.mono HB3.out.size)); have HV4 := Lib.hid (HV3.out.below hb4); have HB34 := Lib.hid hb4; clear hg hb4) | ((go_at_call 60; with_reducible refine (HWW.out _ HB4.out).mono ?_); rintro e w5 ⟨⟨gw, cw, rfl, hpw⟩, hb⟩; (have hb5 := HB34.out.trans (hb.mono HB34.out.size)); (obtain ⟨y0, y1, y2, y3, y4, y5⟩ := HY.out _ hb5); have HB5 := Lib.hid (HB4.out.trans (hb.mono HB4.out.size)); have HV5 := Lib.hid (HV4.out.below hb); clear hb hb5))
              go_roundw
              case rel => exact ⟨k + 1, _, _, _, _, by omega, by go_num, rfl, rfl, Lib.hid (by rw [HSU.out, bsS_old HC.out HOL.out]; exact HV5.out), HB5, Lib.hid (HZ.out)⟩
              case measure => simp [RowKit.intOf]; omega
            have HLT : Hid (∀ ee, d.r.f < (Cr.mk (Spr.key ⟨2, xs, xq, xp, xi, xn⟩) ee ps).r.f) := Lib.hid (fun ee => by show d.r.f < (Spr.key ⟨2, xs, xq, xp, xi, xn⟩).f; rw [HKF.out]; omega)
            clear hpd e2
            rw [hf] at HWW
            obtain ⟨ee, hee⟩ := cr_some hf
            have HCS := Lib.hid hee
            clear hf hee
            go_upto_region 10 with (first | ((go_at_call 59; with_reducible refine (HRV.out _).mono ?_); rintro e w4 ⟨rfl, hg⟩; (have hb4 := hg.below); (obtain ⟨y0, y1, y2, y3, y4, y5⟩ := HY.out _ hb4); have HB4 := Lib.hid (HB3.out.trans (hb4.mono HB3.out.size)); have HV4 := Lib.hid (HV3.out.below hb4); have HB34 := Lib.hid hb4; clear hg hb4) | ((go_at_call 60; with_reducible refine (HWW.out _ HB4.out).mono ?_); rintro e w5 ⟨⟨gw, cw, rfl, hpw⟩, hb⟩; (have hb5 := HB34.out.trans (hb.mono HB34.out.size)); (obtain ⟨y0, y1, y2, y3, y4, y5⟩ := HY.out _ hb5); have HB5 := Lib.hid (HB4.out.trans (hb.mono HB4.out.size)); have HV5 := Lib.hid (HV4.out.below hb); have HPW := Lib.hid hpw; clear hb hb5 hpw))
            go_quiet (fail)
            go_wp2
            go_roundw
            case rel => exact ⟨k + 1, _, _, _, _, by omega, by go_num, rfl, rfl, Lib.hid (by rw [HSU.out, bsS_new HC.out HCS.out (HLT.out 0)]; exact ⟨rfl, gw, cw, rfl, HPW.out.below (below_drewN (Below.refl _ _) _)⟩), Lib.hid (below_drewN HB5.out _), Lib.hid hF0⟩
            case measure => simp [RowKit.intOf]; omega
    · obtain rfl : k = l.length := by omega
      have hki : ¬ (l.length : Int) < (l.length : Int) := by omega
      go_wp2
      go_ret
      exact ⟨⟨_, H, rfl, HV.out⟩, HB.out⟩
end Go.Proofs.Ytajlddgemkkcdaa
