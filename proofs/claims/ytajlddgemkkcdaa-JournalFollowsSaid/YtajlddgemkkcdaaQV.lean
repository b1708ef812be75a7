/- The contract of the reference's Follow: its walk. Conditions stand in each theorem. -/
import Derived.Test.YtajlddgemkkcdaaQS
namespace Go.Proofs.Ytajlddgemkkcdaa
open Go.RowKit
set_option linter.unusedVariables false
set_option maxHeartbeats 16000000
set_option maxRecDepth 100000
attribute [local go_sem ↓ 100000] builtin_appX
/-- What the reference's Follow leaves. -/
def RfPost (w : World) (l : List Pg) (e : Ending) (w' : World) : Prop :=
  ∃ (ch : Chn) (ve vu : Value), (Rch l ch ∧ bsF l 2 ch.la l.length = none) ∧ e = .returned (.agg #[ve, .int .u64 ch.la, vu]) ∧ Ent w' ve ch.en ∧ Pls w' vu ((List.range l.length).filter fun p => decide (p ∈ ch.us)) ∧ Below w.heap.size w w'
theorem BsV.form {W : World} {b : Option Cr} {v : Value} {H : Int} (h : BsV W b v H) : ∃ A n c, v = .slice A n c := by
  cases b with
  | none => exact ⟨_, _, _, h.1⟩
  | some x => obtain ⟨_, g, c, h2, _⟩ := h; exact ⟨_, _, _, h2⟩
def ulF (us : List Nat) (k : Nat) : List Nat := (List.range k).filter fun p => decide (p ∈ us)
theorem ulF_in {us : List Nat} {k : Nat} (h : k ∈ us) : ulF us (k + 1) = ulF us k ++ [k] := by simp [ulF, List.range_succ, h]
theorem ulF_out {us : List Nat} {k : Nat} (h : k ∉ us) : ulF us (k + 1) = ulF us k := by simp [ulF, List.range_succ, h]
theorem ulF_len (us : List Nat) (k : Nat) : (ulF us k).length ≤ k := Nat.le_trans (List.length_filter_le _ _) (by simp)
def BsP (W : World) (m : Option Cr) (v : Value) : Prop := ∃ H, BsV W m v H
/-- The last number behind k pages. -/
def laK (a f : Int) (k : Nat) : Int := if k = 0 then a else f + ((k : Int) - 1)
theorem FS.cells {w W : World} {rb cb ub n : Nat} {en : List (Int × Int)} {la : Int} {us ul : List Nat} {Ae : Option Addr} {ce : Nat} {Au : Option Addr} {cu : Nat} (h : FS w W rb cb ub n en la us ul Ae ce Au cu) : W.cell? ⟨cb, 0, none⟩ = some (.slice Ae en.length ce) ∧ W.cell? ⟨cb, 1, none⟩ = some (.int .u64 la) ∧ W.cell? ⟨cb, 2, none⟩ = some (.slice Au ul.length cu) ∧ W.frozen? ⟨cb, 0, none⟩ = false ∧ W.frozen? ⟨cb, 1, none⟩ = false ∧ W.frozen? ⟨cb, 2, none⟩ = false :=
  ⟨(cell_of_row _ _ 0 _ _ _ h.cs.blk).trans rfl, (cell_of_row _ _ 1 _ _ _ h.cs.blk).trans rfl, (cell_of_row _ _ 2 _ _ _ h.cs.blk).trans rfl, frozen_of_row _ _ 0 _ _ h.cs.blk, frozen_of_row _ _ 1 _ _ h.cs.blk, frozen_of_row _ _ 2 _ _ h.cs.blk⟩
theorem FS.mcell {w W : World} {rb cb ub n : Nat} {en : List (Int × Int)} {la : Int} {us ul : List Nat} {Ae : Option Addr} {ce : Nat} {Au : Option Addr} {cu : Nat} (h : FS w W rb cb ub n en la us ul Ae ce Au cu) {p : Nat} (hp : p < n) : W.cell? ⟨ub, p, none⟩ = some (.bool (decide (p ∈ us))) ∧ W.frozen? ⟨ub, p, none⟩ = false :=
  ⟨(cell_of_row _ _ p _ _ _ h.ubx).trans (by simp [mks, hp]), frozen_of_row _ _ p _ _ h.ubx⟩
theorem isP_q {l : List Pg} {x : Rec} {p : Nat} (hp : p < l.length) (h : isP l x p = true) {k : Nat} (hi : ixF l p = (k : Int)) : l[p].s.q = x.f + (k : Int) := by
  rw [isP_at hp] at h
  simp only [Bool.and_eq_true, decide_eq_true_eq] at h
  have h1 : x.f = l[p].s.q - l[p].s.i := by rw [← h.2]; rfl
  have h2 : ixF l p = l[p].s.i := by unfold ixF; rw [List.getElem?_eq_getElem hp]
  omega
set_option maxHeartbeats 32000000 in
theorem rfollow_any (A : Option Addr) (c : Nat) (l : List Pg) (w : World) (E : Nat) (h : Pgs w (.slice A l.length c) l) (hent : ∀ x ∈ l, Ent w x.ev x.es) (hn : Okn l) (hl : Okl l) (hm : l.length ≤ 10000) (hE : ∀ x ∈ l, x.es.length ≤ E) (hbd : l.length * E ≤ 40000000) :
    Calls Try.prog 20 #[.slice A l.length c] w (RfPost w l) := by
  have hqe : ∀ (w : World) (a : Option Addr) (n c n' c' : Nat), (binOp .eql 50 (.slice a n c) (.slice none n' c')).run Try.prog w = .ok (.bool a.isNone) w := fun w a n c n' c' => Lib.run_eql_slice_nil w _ _ a n c n' c' Try.underlying50
  have hqn : ∀ (w : World) (a : Option Addr) (n c : Nat), (binOp .neq 50 (.slice a n c) (.slice none 0 0)).run Try.prog w = .ok (.bool (!a.isNone)) w := fun w a n c => run_neq_slice_nil w _ _ a n c Try.underlying50
  have HB3 := Lib.hid (fun (W : World) (hb : Below w.heap.size w W) => best3_any A c l W (h.below hb) hn hm 0)
  have HB2 := Lib.hid (fun (W : World) (hb : Below w.heap.size w W) (prev : Int) => best2_any A c l W (h.below hb) hn hm prev)
  have HENT := Lib.hid hent
  have HOK := Lib.hid hl
  have HPG := Lib.hid h
  have HEN : Hid (∀ ch, Rch l ch → ch.en.length ≤ 40000000) := Lib.hid (fun ch hc => Nat.le_trans (RI.of hl hE hc).enl hbd)
  have HUS : Hid (∀ ch, Rch l ch → ch.us.length ≤ 10000) := Lib.hid (fun ch hc => by have := nodup_lt_len _ _ (RI.of hl hE hc).nd (RI.of hl hE hc).lt; omega)
  have hli : (l.length : Int) ≤ 10000 := by omega
  have hmk := make_bools l.length hm
  -- the world in which the boxes lie
  obtain ⟨W0, hW0⟩ : ∃ W0, W0 = (((w.alloc (.cells #[.slice none 0 0, .int .u64 0, .slice none 0 0] 52)).alloc (.cells #[.slice none 0 0, .int .u64 0, .slice none 0 0] 52)).alloc (.cells (mks l.length []) 4)) := ⟨_, rfl⟩
  have hsz : w.heap.size + 3 ≤ W0.heap.size := by rw [hW0]; simp
  have hfs : FS w W0 w.heap.size (w.heap.size + 1) (w.heap.size + 1 + 1) l.length [] 0 [] [] none 0 none 0 := by
    rw [hW0]
    have h1 := heap_alloc2_old w (.cells #[.slice none 0 0, .int .u64 0, .slice none 0 0] 52) (.cells #[.slice none 0 0, .int .u64 0, .slice none 0 0] 52)
    have h2 := heap_alloc2_new w (.cells #[.slice none 0 0, .int .u64 0, .slice none 0 0] 52) (.cells #[.slice none 0 0, .int .u64 0, .slice none 0 0] 52)
    have h3 := heap_alloc_new ((w.alloc (.cells #[.slice none 0 0, .int .u64 0, .slice none 0 0] 52)).alloc (.cells #[.slice none 0 0, .int .u64 0, .slice none 0 0] 52)) (.cells (mks l.length []) 4)
    refine ⟨(heap_alloc_old _ _ (by simp; omega)).trans h1, ⟨(heap_alloc_old _ _ (by simp)).trans h2, World.ownsRow_nil _ _ _ _, World.ownsRow_nil _ _ _ _⟩, by simpa using h3, ⟨rfl, rfl, rfl⟩, (((Below.refl _ _).alloc (Nat.le_refl _) _).alloc (by simp) _).alloc (by simp; omega) _, by simp⟩
  have HFS0 := Lib.hid hfs
  have HW0 := Lib.hid hW0
  clear hfs hW0 h hent hn hl hE hbd hsz
  go_enter Try.func20, Try.ntmps20
  go_upto_region 3 with fail
  rw [← HW0.out]
  obtain ⟨rb, hrb⟩ : ∃ rb, rb = w.heap.size := ⟨_, rfl⟩
  obtain ⟨cb, hcb⟩ : ∃ cb, cb = rb + 1 := ⟨_, rfl⟩
  obtain ⟨ub, hub⟩ : ∃ ub, ub = cb + 1 := ⟨_, rfl⟩
  rw [← hrb, ← hcb, ← hub] at HFS0
  rw [← hrb, ← hcb, ← hub]
  clear hrb hcb hub
  go_upto_region 4 with ((go_at_call 42; with_reducible refine (HB3.out _ HFS0.out.bel).mono ?_); rintro e w1 ⟨⟨v, H, rfl, hv⟩, hb⟩; obtain ⟨A1, n1, c1, rfl⟩ := hv.form; have HV1 := Lib.hid hv; have HF1 := Lib.hid (HFS0.out.below hb); clear hv hb)
  go_upto_if 14 with fail
  go_cut [5] from 13 (fun v wr => ∃ (m : Option Cr) (A1 : Option Addr) (n1 c2 : Nat), v = .slice A1 n1 c2 ∧ Hid (BsP wr m (.slice A1 n1 c2)) ∧ Hid (Nx l ch0 m) ∧ Hid (FS w wr rb cb ub l.length [] 0 [] [] none 0 none 0))
  case first =>
    cases hm : bsF l 3 0 l.length with
    | none =>
      rw [hm] at HV1
      obtain ⟨e1, -⟩ := HV1.out
      injection e1 with e1 e3 e4
      subst e1 e3 e4
      have HN := Lib.hid (Nx.next (Rch.nil0 hm))
      clear hm
      go_wp2_with ((go_at_call 42; with_reducible refine (HB2.out _ HF1.out.bel 0).mono ?_); rintro e w2 ⟨⟨v2, H2, rfl, hv2⟩, hb2⟩; obtain ⟨A2, n2, c2, rfl⟩ := hv2.form; have HV2 := Lib.hid hv2; have HF2 := Lib.hid (HF1.out.below hb2); clear hv2 hb2)
      go_meet
      case rel => exact ⟨_, A2, n2, c2, rfl, Lib.hid ⟨H2, HV2.out⟩, HN, HF2⟩
    | some x =>
      rw [hm] at HV1
      obtain ⟨e2, g, cc, e1, hp⟩ := HV1.out
      injection e1 with e1 e3 e4
      subst e1 e3 e4
      have HN := Lib.hid (Nx.start1 HOK.out hm)
      clear hm hp e2
      go_wp2
      go_meet
      case rel => exact ⟨some x, _, _, _, rfl, Lib.hid ⟨H, HV1.out⟩, HN, HF1⟩
  case rest =>
    clear HV1 HF1 HFS0 HW0
    obtain ⟨m, A1, n1, c2, rfl, HV, HNX, HFS⟩ := hcut
    go_wp2
    go_loopg [5] (mu l ch0) (fun kx v wr => ∃ (ch : Chn) (m : Option Cr) (A1 : Option Addr) (n1 c2 : Nat) (Ae : Option Addr) (ce : Nat), v = .slice A1 n1 c2 ∧ Hid (mu l ch ≤ kx) ∧ Hid (BsP wr m (.slice A1 n1 c2)) ∧ Hid (Nx l ch m) ∧ Hid (FS w wr rb cb ub l.length ch.en ch.la ch.us [] Ae ce none 0))
    case atStart => exact ⟨ch0, m, A1, n1, c2, none, 0, rfl, Lib.hid (Nat.le_refl _), HV, HNX, HFS⟩
    case round =>
      clear HV HNX HFS
      obtain ⟨ch, m, A1, n1, c2, Ae, ce, rfl, HMU, HV, HNX, HFS⟩ := hrel
      cases m with
      | none =>
        obtain ⟨H, e1, -⟩ := HV.out
        injection e1 with e1 e3 e4
        subst e1 e3 e4
        obtain ⟨hR, hbn⟩ := HNX.out.hn rfl
        have HRN := Lib.hid (And.intro hR hbn)
        clear hR hbn HV HNX HMU
        go_wp2
        go_loopg [7] l.length (fun kx i wr => ∃ (k : Nat) (Au : Option Addr) (cu : Nat), i = .int .i64 (k : Int) ∧ k ≤ l.length ∧ l.length - k ≤ kx ∧ Hid (FS w wr rb cb ub l.length ch.en ch.la ch.us (ulF ch.us k) Ae ce Au cu))
        case atStart => exact ⟨0, none, 0, rfl, Nat.zero_le _, Nat.le_refl _, HFS⟩
        case round =>
          clear HFS
          obtain ⟨k, Au, cu, rfl, hk, hkx, HFS⟩ := hrel
          by_cases hlt : k < l.length
          · have hk0 : (0 : Int) ≤ (k : Int) := by omega
            have hk1 : (k : Int) < (l.length : Int) := by omega
            have hmc := (HFS.out.mcell hlt).1
            by_cases hin : k ∈ ch.us
            · have hd : decide (k ∈ ch.us) = true := decide_eq_true hin
              rw [hd] at hmc
              have HUL := Lib.hid (ulF_in hin)
              have r2 := HFS.out.cells.2.2.1
              obtain ⟨B, d, W2, hrun, hc2, hf2, hF2⟩ := HFS.out.place (p := k) (by have := ulF_len ch.us k; omega)
              have HF2 := Lib.hid hF2
              clear hF2 hin hd HFS
              go_wp2
              go_roundg (l.length - (k + 1))
              case measure => omega
              case rel => exact ⟨k + 1, B, d, by go_num, by omega, Nat.le_refl _, Lib.hid (by have e := HUL.out; rw [e]; exact (by simpa using HF2.out))⟩
            · have hd : decide (k ∈ ch.us) = false := decide_eq_false hin
              rw [hd] at hmc
              have HUL := Lib.hid (ulF_out hin)
              clear hin hd
              go_wp2
              go_roundg (l.length - (k + 1))
              case measure => omega
              case rel => exact ⟨k + 1, Au, cu, by go_num, by omega, Nat.le_refl _, Lib.hid (by have e := HUL.out; rw [e]; exact HFS.out)⟩
          · obtain rfl : k = l.length := by omega
            obtain ⟨r0, r1, r2, -, -, -⟩ := HFS.out.cells
            have HRB := Lib.hid HFS.out.rbx
            have HFIN : Hid (RfPost w l (.returned (.agg #[.slice Ae ch.en.length ce, .int .u64 ch.la, .slice Au (ulF ch.us l.length).length cu])) (wr.setRow rb #[.slice Ae ch.en.length ce, .int .u64 ch.la, .slice Au (ulF ch.us l.length).length cu])) := Lib.hid
              ⟨ch, _, _, HRN.out, rfl, Ent.of_own (own_row HFS.out.cs.ve HRB.out (by decide)), Pls.of_own (own_row HFS.out.cs.vu HRB.out (by decide)), setRow_below HFS.out.bel (by have := HFS.out.ord; omega)⟩
            clear HFS HRN
            go_wp2_with (refine wpList_store_row rfl 52 _ _ rfl rb #[.slice Ae ch.en.length ce, .int .u64 ch.la, .slice Au (ulF ch.us l.length).length cu] rfl rfl 52 _ HRB.out size52 rfl (by simp [Value.oneCell']) ?_)
            refine bodyPost_ret (results_cell_row rfl _ _ rb 52 #[.slice Ae ch.en.length ce, .int .u64 ch.la, .slice Au (ulF ch.us l.length).length cu] (0, 0) _ rfl (setRow_at HRB.out) Try.underlying52 rfl (by kernel_rfl)) rfl HFIN.out
      | some x =>
        obtain ⟨H, e2, g, cc, e1, hp⟩ := HV.out
        injection e1 with e1 e3 e4
        subst e1 e3 e4
        obtain ⟨hR, hx, hp0⟩ := HNX.out.hs x rfl
        have HX := Lib.hid (And.intro hR (And.intro hx hp0))
        have HPL := Lib.hid hp
        have HFX := Lib.hid (rec_facts HOK.out hx)
        clear e2 hR hx hp0 hp HV HNX
        obtain ⟨N, hN⟩ : ∃ N, N = x.ps.length := ⟨_, rfl⟩
        have HN := Lib.hid hN
        have hN1 : (N : Int) ≤ 10000 := by have := nodup_lt_len _ _ HFX.out.2.1 HFX.out.1; omega
        have HEB : Hid (∀ k, (ch.en ++ entF l (x.ps.take k)).length ≤ 40000000) := Lib.hid (fun k => by
          have h1 := HEN.out _ HX.out.1
          have h2 := entF_take l x.ps k
          have h3 : (stepC l ch x).en = ch.en ++ entF l x.ps := rfl
          rw [h3, List.length_append] at h1
          rw [List.length_append]
          omega)
        rw [← hN] at HPL ⊢
        clear hN
        go_wp2
        go_loopg [6] N (fun kx i wr => ∃ (k : Nat) (Ae : Option Addr) (ce : Nat), i = .int .i64 (k : Int) ∧ k ≤ N ∧ Hid (N - k ≤ kx) ∧ Hid (Pls wr (.slice (some ⟨g, 0, none⟩) N c2) x.ps) ∧ Hid (FS w wr rb cb ub l.length (ch.en ++ entF l (x.ps.take k)) (laK ch.la x.r.f k) (ch.us ++ x.ps.take k) [] Ae ce none 0))
        case atStart => exact ⟨0, Ae, ce, rfl, Nat.zero_le _, Lib.hid (Nat.le_refl _), HPL, Lib.hid (by
          have e1 : ch.en ++ entF l (x.ps.take 0) = ch.en := by simp [entF]
          have e2 : ch.us ++ x.ps.take 0 = ch.us := by simp
          rw [e1, e2]
          exact HFS.out)⟩
        case round =>
          clear HFS HPL
          obtain ⟨k, Ae, ce, rfl, hk, HKX, HPL, HFS⟩ := hrel
          by_cases hlt : k < N
          · have hltp : k < x.ps.length := by rw [← HN.out]; exact hlt
            obtain ⟨g2, cp, hep, _, hgp, hcp⟩ := HPL.out.at_ hltp
            injection hep with hep1 hepN hep2
            cases hep1
            clear hepN hep2
            have q1 := hcp k hltp
            obtain ⟨f1, f2, f3, f4, f5, f6, f7, f8, f9, f10⟩ := HFX.out
            have hpl := f1 _ (List.getElem_mem hltp)
            have hq := isP_q hpl (f10 _ (List.getElem_mem hltp)) (f9 k hltp)
            have hes := entF_snoc l x.ps k hltp hpl
            have hus : ch.us ++ x.ps.take (k + 1) = (ch.us ++ x.ps.take k) ++ [x.ps[k]] := by rw [List.take_succ_eq_append_getElem hltp, List.append_assoc]
            have hel := HEB.out (k + 1)
            obtain ⟨A', c', heA, _, hrA⟩ := HPG.out
            injection heA with e1 heB heC
            clear heB heC
            obtain ⟨ga, o, hA2, hgw, hpg⟩ := hrA (by omega)
            have hA : A = some ⟨ga, o, none⟩ := e1.trans hA2
            clear e1 hA2 hrA
            subst hA
            have hpa := hpg _ hpl
            have hent := HENT.out _ (List.getElem_mem hpl)
            obtain ⟨p, hp⟩ : ∃ p, p = x.ps[k] := ⟨_, rfl⟩
            have HPE := Lib.hid hp
            simp only [← hp] at q1 hpl hq hes hus hpa hent
            obtain ⟨y, hy⟩ : ∃ y, y = l[p] := ⟨_, rfl⟩
            simp only [← hy] at hq hes hpa hent
            clear hy hp hcp hpg f1 f2 f3 f4 f5 f6 f7 f8 f9 f10
            have hk0 : (0 : Int) ≤ (k : Int) := by omega
            have hk1 : (k : Int) < (N : Int) := by omega
            have hp0 : (0 : Int) ≤ (p : Int) := by omega
            have hp1 : (p : Int) < (l.length : Int) := by omega
            obtain ⟨hmc, hmf⟩ := HFS.out.mcell hpl
            have hF1 := HFS.out.mark hpl
            have hP1 : Pls (wr.setCell ⟨ub, p, none⟩ (.bool true)) (.slice (some ⟨g, 0, none⟩) N c2) x.ps := HPL.out.same (fun g' cur hg' => heap_setCell_other wr ⟨ub, p, none⟩ g' _ (fun e => by
              have h1 := HFS.out.ubx
              have e' : g' = ub := e
              rw [← e', hg'] at h1
              injection h1 with h1
              injection h1 with _ h1 _
              exact absurd h1 (by decide)))
            have HF1 := Lib.hid hF1
            have HP1 := Lib.hid hP1
            have HES := Lib.hid hes
            have HUSE := Lib.hid hus
            have HQ := Lib.hid hq
            have HPA := Lib.hid hpa
            have HY := Lib.hid hent
            have HEL := Lib.hid hel
            have HGW := Lib.hid hgw
            clear hF1 hP1 hes hus hq hpa hent hel HFS HPL hgw
            go_upto_region 11 with fail
            obtain ⟨W1, hW1⟩ : ∃ W1, W1 = wr.setCell ⟨ub, p, none⟩ (.bool true) := ⟨_, rfl⟩
            rw [← hW1] at HF1 HP1 ⊢
            clear hW1 hmc hmf q1
            have hF1 := HF1.out
            have r0 := hF1.cells.1
            obtain ⟨g3, cp3, hep3, _, _, hcp3⟩ := HP1.out.at_ hltp
            injection hep3 with hep4 hep5 hep6
            clear hep5 hep6
            cases hep4
            have hpa1 := HPA.out.keep (W' := W1) (fun i => hF1.bel.cell (p := ⟨ga, i, none⟩) HGW.out)
            have q6 := hpa1.c6
            simp only [Pg.ev] at q6
            have hd : Below W1.heap.size W1 W1.drew := (Below.refl _ _).drew
            have hF1d := hF1.below hd
            obtain ⟨B, d, W2, hrun, hc2, hf2, hF2, hk3⟩ := hF1d.ents (es := y.es) (A := y.ea) (c := y.ec) (((HY.out.below hF1.bel)).below hd) (by
              have h1 := HEL.out
              rw [HES.out, ← List.append_assoc, List.length_append] at h1
              omega)
            have q1 : W1.cell? ⟨g, k, none⟩ = some (.int .i64 (p : Int)) := by rw [HPE.out]; exact hcp3 k hltp
            have HF2 := Lib.hid hF2
            have HK3 := Lib.hid (fun (k : Nat) (cs : Array Value) (h : W1.heap[k]? = some (Obj.cells cs 3 (0, 0))) => hk3 k cs h)
            have HDE := Lib.hid hd
            clear hF1 hF1d hpa1 hcp3 hd hk3 hF2
            have HNN : Hid ((ch.en ++ entF l (x.ps.take k)).length + y.es.length = (ch.en ++ entF l (x.ps.take (k + 1))).length) := Lib.hid (by rw [HES.out, ← List.append_assoc, List.length_append (bs := y.es)])
            generalize hN2 : (ch.en ++ entF l (x.ps.take k)).length = M at *
            have HM := Lib.hid hN2
            clear hN2
            go_region
            all_goals
              obtain ⟨W3, hW3⟩ : ∃ W3, W3 = W2.setCell ⟨cb, 0, none⟩ (.slice B (M + y.es.length) d) := ⟨_, rfl⟩
              rw [← hW3] at HF2 HK3 ⊢
              have hF3 := HF2.out
              clear hW3 r0 q1 q6 hrun hc2 hf2
              have hP3 : Pls W3 (.slice (some ⟨g, 0, none⟩) N c2) x.ps := by
                obtain ⟨A5, c5, he5, hc5, hr5⟩ := HP1.out
                injection he5 with he6 _ he7
                subst he7
                refine ⟨A5, _, by rw [he6, HN.out], hc5, fun hn => ?_⟩
                obtain ⟨g5, cur5, e5, hh5, hcc⟩ := hr5 hn
                exact ⟨g5, cur5, e5, HK3.out g5 cur5 hh5, hcc⟩
              obtain ⟨g3, cp3, hep3, _, _, hcp3⟩ := hP3.at_ hltp
              injection hep3 with hep4 hep5 hep6
              clear hep5 hep6
              cases hep4
              have q1 : W3.cell? ⟨g, k, none⟩ = some (.int .i64 (p : Int)) := by rw [HPE.out]; exact hcp3 k hltp
              have hpa3 := HPA.out.keep (W' := W3) (fun i => hF3.bel.cell (p := ⟨ga, i, none⟩) HGW.out)
              have q2 := hpa3.c2
              obtain ⟨-, r1, -, -, rf1, -⟩ := hF3.cells
              have HF4 := Lib.hid (hF3.last y.s.q)
              have HP4 : Hid (Pls (W3.setCell ⟨cb, 1, none⟩ (.int .u64 y.s.q)) (.slice (some ⟨g, 0, none⟩) N c2) x.ps) := Lib.hid (hP3.same (fun g' cur hg' => heap_setCell_other W3 ⟨cb, 1, none⟩ g' _ (fun e => by
                have h1 := hF3.cs.blk
                have e' : g' = cb := e
                rw [← e', hg'] at h1
                injection h1 with h1
                injection h1 with _ h1 _
                exact absurd h1 (by decide))))
              clear hF3 hcp3 hpa3 hP3
              go_wp2
              go_roundg (N - (k + 1))
              case measure => have := HKX.out; omega
              case rel => exact ⟨k + 1, B, d, by go_num, by omega, Lib.hid (Nat.le_refl _), HP4, Lib.hid (by
                have e : laK ch.la x.r.f (k + 1) = y.s.q := by
                  rw [HQ.out]
                  unfold laK
                  rw [if_neg (by omega)]
                  omega
                rw [HES.out, ← List.append_assoc, HUSE.out, e]
                exact HF4.out)⟩
          · obtain rfl : k = N := by omega
            have HF5 : Hid (FS w wr rb cb ub l.length (stepC l ch x).en (stepC l ch x).la (stepC l ch x).us [] Ae ce none 0) := Lib.hid (by
              have e1 : x.ps.take k = x.ps := List.take_of_length_le (by rw [← HN.out]; exact Nat.le_refl _)
              have e2 : laK ch.la x.r.f k = (stepC l ch x).la := by
                have h3 := HFX.out.2.2.1
                have h4 := HFX.out.2.2.2.2.2.1
                have h5 := HN.out
                show _ = x.r.f + (x.r.n - 1)
                unfold laK
                rw [if_neg (by omega)]
                omega
              have h := HFS.out
              rw [e1, e2] at h
              exact h)
            have HR5 := Lib.hid HX.out.1
            have HMU5 := Lib.hid (mu_less HOK.out HX.out.2.1 HX.out.2.2)
            obtain ⟨ch5, h5⟩ : ∃ ch5, ch5 = stepC l ch x := ⟨_, rfl⟩
            rw [← h5] at HF5 HR5 HMU5
            clear h5 HFS HPL HFX HX
            have r1 := HF5.out.cells.2.1
            go_wp2_with ((go_at_call 42; with_reducible refine (HB2.out _ HF5.out.bel ch5.la).mono ?_); rintro e w4 ⟨⟨v4, H4, rfl, hv4⟩, hb4⟩; obtain ⟨A4, n4, c4, rfl⟩ := hv4.form; have HV4 := Lib.hid hv4; have HF6 := Lib.hid (HF5.out.below hb4); clear hv4 hb4)
            go_roundg (mu l ch5)
            case measure => have h1 := HMU.out; have h2 := HMU5.out; omega
            case rel => exact ⟨ch5, _, A4, n4, c4, Ae, ce, rfl, Lib.hid (Nat.le_refl _), Lib.hid ⟨H4, HV4.out⟩, Lib.hid (Nx.next HR5.out), HF6⟩
end Go.Proofs.Ytajlddgemkkcdaa
