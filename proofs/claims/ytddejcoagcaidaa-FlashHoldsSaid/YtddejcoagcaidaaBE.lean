/- The walk of FlashHolds. Conditions stand in each theorem. -/
import Derived.Test.YtddejcoagcaidaaBF
import Derived.Deep.DeepCutAuto
import Derived.Deep.CutBlock
import Derived.BigRegion
import Derived.Deep.RegionHeld3
namespace Go.Proofs.Ytddejcoagcaidaa
open Go.RowKit
set_option linter.unusedVariables false
set_option maxHeartbeats 8000000
set_option maxRecDepth 100000
theorem Dv.rebase {w : World} {base base' b g m : Nat} {V : Nat → Value} {s : Dev} (h : Dv w base b g m V s) (hb : base' ≤ base) : Dv w base' b g m V s :=
  ⟨h.blk, Nat.le_trans hb h.hb, Nat.le_trans hb h.hg, Nat.le_trans hb h.hm, h.grid, fun i hi => by
    obtain ⟨xs, h1, h2⟩ := h.row i hi
    exact ⟨xs, own_base h1 hb, h2⟩, h.apart, h.flt⟩
theorem info25 : (Try.prog.info? 25).map (fun i => (i.zero, i.size, i.bytes)) = some (some (.slice none 0 0), 1, 24) := by kernel_rfl
def zk (n : Nat) : Array Value := madeCells #[.slice none 0 0] n
theorem make_kept (n : Nat) (hn : n ≤ 4096) (W : World) : (Instr.makeSlice 73 (.int .i64 (n : Int)) (.int .i64 (n : Int))).run Try.prog W = .ok (.slice (some ⟨W.heap.size, 0, none⟩) n n) (W.alloc (.cells (zk n) 25)) := by
  obtain ⟨i0, hi0, hz0, hz1, hz2⟩ := info_parts info25
  have hr := run_makeSlice (P := Try.prog) W 73 25 i0 _ Try.underlying73 hi0 hz0 .i64 .i64 n n (by omega) (Int.le_refl _) (by rw [hz1]; omega) (by rw [hz2]; omega) (by omega)
  simp only [Int.toNat_natCast] at hr
  rw [hr, hz1, Nat.mul_one]
  rfl
theorem zk_at (n i : Nat) (h : i < n) : (zk n)[i]? = some (.slice none 0 0) := by simp [zk, madeCells, h, Nat.mod_one]
/-- What a walk of a law leaves. -/
def LawPost (w : World) (e : Ending) (w' : World) : Prop := e = .returned (.bool true) ∧ Below w.heap.size w w'
theorem hj_start {w W : World} {b g m nb np sz : Nat} {en : Int} {F : List Int} {cs : Array Value} (hd : Dv W w.heap.size b g m (fun _ => .slice none 0 0) (Dev.new nb np sz en F)) (hg : Gd (Dev.new nb np sz en F)) (hb : Below w.heap.size w W)
    (hbox : W.heap[w.heap.size]? = some (.cells cs 23 (0, 0))) (hcs : cs[0]? = some (.int .i64 (nb : Int))) :
    HJ w b g m W.heap.size nb 0 (fun _ => False) (fun _ => .slice none 0 0) (Dev.new nb np sz en F) (fun _ => .slice none 0 0) (fun _ => []) (W.alloc (.cells (zk nb) 25)) :=
  ⟨hd.below (below_alloc W _), hg, rfl, Int.le_refl _, ⟨zk nb, heap_alloc_new W _, size_madeCells _ _, fun i hi => zk_at nb i hi⟩, fun i hi => ⟨none, 0, rfl, fun h => absurd h (by simp)⟩, fun i hi h0 => absurd h0 (by simp), fun i hi => Nat.le_refl _, fun i hi _ e he => (by cases he), fun i hi e he => (by cases he), hb.alloc hb.size _, ⟨cs, ((below_alloc W _).block _ (Array.getElem?_eq_some_iff.1 hbox).1).trans hbox, hcs⟩, hb.size⟩
section
variable {w W W' : World} {b g m gk nb M : Nat} {X : Nat → Prop} {V : Nat → Value} {s : Dev} {K : Nat → Value} {LL : Nat → List KA}
theorem HJ.more (h : HJ w b g m gk nb M X V s K LL W) {M' : Nat} (hM : M ≤ M') : HJ w b g m gk nb M' X V s K LL W :=
  { h with n := by have := h.n; omega, len := fun i hi => Nat.le_trans (h.len i hi) hM }
theorem EOk.mono {s' : Dev} {i : Nat} {e : KA} (h : EOk w s i e) (hh : ∀ j x y, s.holds i j x y → s'.holds i j x y) : EOk w s' i e := by
  obtain ⟨h1, h2, j, h3, h4⟩ := h
  exact ⟨h1, h2, j, h3, hh j _ _ h4⟩
theorem HJ.xq_ne {wh bl pg : Int} {vd vs : Value} {q : Nat} (h : HJ w b g m gk nb M X V s K LL W) (hx : XAt W q wh bl pg vd vs) : gk ≠ q := by
  intro e
  obtain ⟨KG, h1, _⟩ := h.grid
  unfold XAt at hx
  rw [e, hx] at h1
  cases h1
/-- Program's step. -/
theorem HJ.pr (h : HJ w b g m gk nb M (fun _ => False) V s K LL W) (q p : Int) (x y : List UInt8) (hs : Step W w.heap.size b g m V s (s.prS q p x y) W') : ∃ V', HJ w b g m gk nb (M + 1) (fun _ => False) V' (s.prS q p x y) K LL W' :=
  h.step hs (gd_pr h.gd q p x y) ((nb_pr s q p x y).1.trans h.enb) (by have := n_pr s q p x y; have := h.n; omega) (Nat.le_succ M) fun i hi hx e he => (h.ok i hi hx e he).mono fun j u v hh => holds_pr hh q p x y
/-- Erase's step. -/
theorem HJ.er (h : HJ w b g m gk nb M (fun _ => False) V s K LL W) (i : Nat) (hs : Step W w.heap.size b g m V s (s.erS (i : Int)) W') : ∃ V', HJ w b g m gk nb (M + 1) (· = i) V' (s.erS (i : Int)) K LL W' :=
  h.step hs (gd_er h.gd _) ((nb_er s _).1.trans h.enb) (by have := n_er s (i : Int); have := h.n; omega) (Nat.le_succ M) fun j hj hx e he => (h.ok j hj (fun f => f) e he).mono fun t u v hh => holds_er hh (fun e2 => hx (by omega))
theorem HJ.er_no (h : HJ w b g m gk nb M (fun _ => False) V s K LL W) (q : Int) (hs : Step W w.heap.size b g m V s (s.erS q) W') (hn : ¬ s.n < (s.erS q).n) : ∃ V', HJ w b g m gk nb M (fun _ => False) V' s K LL W' := by
  rw [er_same hn] at hs
  exact h.step hs h.gd h.enb h.n (Nat.le_refl _) h.ok
theorem HJ.cu (h : HJ w b g m gk nb M (fun _ => False) V s K LL W) (o n : Int) (hd : Dv W' w.heap.size b g m V (s.cuS o n)) (hc : Chg (· = b) W W') : HJ w b g m gk nb M (fun _ => False) V (s.cuS o n) K LL W' :=
  h.head hd hc (gd_cu h.gd o n) ((nb_cu s o n).1.trans h.enb) (by rw [n_cu]; exact h.n) fun i hi hx e he => (h.ok i hi hx e he).mono fun j u v hh => holds_cu hh o n
theorem HJ.rs (h : HJ w b g m gk nb M (fun _ => False) V s K LL W) (hd : Dv W' w.heap.size b g m V (s.ctl (-1) 0 s.n false)) (hc : Chg (· = b) W W') : HJ w b g m gk nb M (fun _ => False) V (s.ctl (-1) 0 s.n false) K LL W' :=
  h.head hd hc (gd_rs h.gd) h.enb h.n fun i hi hx e he => (h.ok i hi hx e he).mono fun j u v hh => hh
theorem HJ.nokeep (h : HJ w b g m gk nb M X V s K LL W) {i : Nat} (hi : i < nb) (hX : ∀ j, X j → j = i) : HJ w b g m gk nb M (fun _ => False) V s (upd K i (.slice none 0 0)) (upd LL i []) (W.setCell ⟨gk, i, none⟩ (.slice none 0 0)) :=
  h.rekeep (L := []) (Below.refl _ W) hi ⟨none, 0, rfl, fun h => absurd h (by simp)⟩ (fun h => absurd h (by simp)) (Nat.le_refl _) (Nat.zero_le _) (fun q hq => by cases hq) (fun q hq => by cases hq) fun j hj hne => hne (hX j hj)
end
theorem HI.any {w W : World} {b g m gk nb M : Nat} {off : Bool → Prop} (h : HI w b g m gk nb M off W) : HI w b g m gk nb M (fun _ => True) W := by
  obtain ⟨V, s, K, LL, h1, _⟩ := h
  exact ⟨V, s, K, LL, h1, trivial⟩
theorem chk_read {w D : World} {b g m gk nb M : Nat} {X : Nat → Prop} {V : Nat → Value} {s : Dev} {K : Nat → Value} {LL : Nat → List KA} (h : HJ w b g m gk nb M X V s K LL D) {q p : Int} {x y : List UInt8} (r1 : s.rdE q p = 0) (r2 : s.rdD q p = x) (r3 : s.rdS q p = y) :
    Calls Try.prog 18 #[.pointer (some ⟨b, 0, none⟩), .int .i64 q, .int .i64 p] D fun e w' => ∃ A1 n1 c1 A2 n2 c2, e = .returned (.tuple #[.slice A1 n1 c1, .slice A2 n2 c2, .int .i64 0]) ∧ Byt w' (.slice A1 n1 c1) x ∧ Byt w' (.slice A2 n2 c2) y ∧ Below D.heap.size D w' := by
  refine (Read_any h.dev h.gd q p).mono ?_
  rintro e w' ⟨A1, n1, c1, A2, n2, c2, rfl, f1, f2, hb⟩
  rw [r2] at f1
  rw [r3] at f2
  exact ⟨A1, n1, c1, A2, n2, c2, by rw [r1], f1.1.1, f2.1.1, hb⟩
theorem chk_same {W : World} {v1 v2 : Value} {x : List UInt8} (h1 : Byt W v1 x) (h2 : Byt W v2 x) : ∀ nq, Calls Try.prog 31 #[v1, v2] (W.drewN nq) fun e w' => e = .returned (.bool true) ∧ w' = W.drewN nq := fun nq =>
  (same_any v1 v2 x x _ (h1.below (below_drewN W nq)) (h2.below (below_drewN W nq))).mono fun _ _ ⟨a, b⟩ => ⟨by rw [a, decide_eq_true rfl], b.symm⟩
theorem chk_state {w W : World} {b g m gk nb M : Nat} {X : Nat → Prop} {V : Nat → Value} {s : Dev} {K : Nat → Value} {LL : Nat → List KA} (h : HJ w b g m gk nb M X V s K LL W) {q p k : Int} (hk : s.stt q p = k) :
    ∀ nq, Calls Try.prog 30 #[.pointer (some ⟨b, 0, none⟩), .int .i64 q, .int .i64 p] (W.drewN nq) fun e w' => e = .returned (.int .i64 k) ∧ w' = W.drewN nq := fun nq =>
  (State_any (h.dev.below (below_drewN W nq)) h.gd q p).mono fun _ _ ⟨a, b⟩ => ⟨by rw [a, hk], b.symm⟩
theorem chk_next {w W : World} {b g m gk nb M : Nat} {X : Nat → Prop} {V : Nat → Value} {s : Dev} {K : Nat → Value} {LL : Nat → List KA} (h : HJ w b g m gk nb M X V s K LL W) {q k : Int} (hk : k = s.nx q) :
    ∀ nq, Calls Try.prog 28 #[.pointer (some ⟨b, 0, none⟩), .int .i64 q] (W.drewN nq) fun e w' => e = .returned (.int .i64 k) ∧ w' = W.drewN nq := fun nq =>
  (Next_any (h.dev.below (below_drewN W nq)) h.gd q).mono fun _ _ ⟨a, b⟩ => ⟨by rw [a, hk], b.symm⟩
theorem wp_seq_var {P : Program} {x y : Code} {Q : Exit → Act → World → Prop} {a : Act} {w : World} (h : ∀ K : Act → World → Prop, (∀ a w, y.wp P Q a w → K a w) → x.wp P (Exit.then K Q) a w) : (Code.seq x y).wp P Q a w := wp_seq (h _ (fun _ _ h => h))
theorem wh_four {q : Int} (h : q = 0 ∨ q = 1 ∨ q = 2 ∨ q = 3) : (q == 0) = true ∨ ((q == 0) = false ∧ (q == 1) = true) ∨ ((q == 0) = false ∧ (q == 1) = false ∧ (q == 2) = true) ∨ ((q == 0) = false ∧ (q == 1) = false ∧ (q == 2) = false ∧ (q == 3) = true) := by
  rcases h with rfl | rfl | rfl | rfl <;> decide
/-- append as an operation, not laid open by the walk. -/
def appX (ats : Array TypeId) (ty : TypeId) (args : Array Value) : Sem Next := do pure (.value (← Builtin.append_ ats ty args))
theorem builtin_appX (ats : Array TypeId) (ty : TypeId) (cs : Array Bool) (args : Array Value) : builtin .append ats ty cs args = appX ats ty args := rfl
theorem appX_run {ats : Array TypeId} {ty : TypeId} {args : Array Value} {W W' : World} {r : Value} (h : (Builtin.append_ ats ty args).run Try.prog W = .ok r W') : (appX ats ty args).run Try.prog W = .ok (.value r) W' := by
  unfold appX
  simp only [Sem.run_bind, Sem.run_pure, Result.andThen_ok, h]
attribute [local go_sem ↓ 100000] builtin_appX
theorem holds_main (nb np sz : Nat) (en : Int) (vf vl : Value) (xs : List Int) (L : List KA) (w : World) (hx : Ints w vf xs) (hR : ∀ x ∈ xs, I64 x) (hL : Acts w vl L) (hok : ∀ e ∈ L, KA.ok w e)
    (hs : smB nb np sz en = true) (hl : xs.length ≤ 20) (hf : fewB L 40 = true) (hv : valB nb np sz en = true) (hpos : posB xs = true) : Calls Try.prog 7 #[.agg #[.int .i64 (nb : Int), .int .i64 (np : Int), .int .i64 (sz : Int), .int .i64 en], vf, vl] w (LawPost w) := by
  obtain ⟨a, b, c, e1, e2, e3, hv1, hv2, hv3, hv4, hv5, hv6, hv7, hv8⟩ := valB_nat hv
  have hnb8 : nb ≤ 8 := by
    unfold smB at hs
    rw [hv] at hs
    have := of_decide_eq_true (by simpa using hs : decide (_) = true)
    omega
  have hnb2 : 2 ≤ nb := by omega
  have hmk := make_kept nb (by omega)
  have HV := Lib.hid hv
  have HG : Hid (∀ F, Gd (Dev.new nb np sz en F)) := Lib.hid fun F => gd_new (by omega)
  have HF : Hid (∀ W, Below w.heap.size w W → Calls Try.prog 9 #[vl, .int .i64 40] W (OkB (fewB L 40) W)) := Lib.hid (fun W (hW : Below w.heap.size w W) => (few_any vl L 40 W (hL.below hW) (fun e he => ⟨(hok e he).1.below hW, (hok e he).2.below hW⟩) (by omega)))
  have HFB := Lib.hid hf
  have HSM := Lib.hid (fun W => small_any (nb : Int) np sz en W)
  have HSB := Lib.hid hs
  have hL40 : L.length ≤ 40 := by
    unfold fewB at hf
    rw [Bool.and_eq_true] at hf
    exact of_decide_eq_true hf.1
  have HN := Lib.hid (fun W (hW : Below w.heap.size w W) => New_ok nb np sz en vf xs W hv (by
    obtain ⟨A, c, e, h⟩ := hx
    refine ⟨A, c, e, fun h0 => ?_⟩
    obtain ⟨g, o, e', hg, hc⟩ := h h0
    exact ⟨g, o, e', Nat.lt_of_lt_of_le hg hW.size, fun j hj => (hW.cell (p := ⟨g, o + j, none⟩) hg).trans (hc j hj)⟩) hR (by omega))
  have HP := Lib.hid hpos
  have HOK := Lib.hid hok
  have HL := Lib.hid hL
  obtain ⟨Af, cf, ef, _⟩ := hx
  obtain ⟨Al, cl, el, _⟩ := hL
  subst ef
  subst el
  clear hR hok hs hf hv hpos e1 e2 e3 hv1 hv2 hv3 hv4 hv5 hv6 hv7 hv8
  have hx20 : (xs.length : Int) ≤ 20 := by omega
  go_enter Try.func7, Try.ntmps7
  go_wp2_with (first
    | ((go_at_call 8; with_reducible refine (HSM.out _).mono ?_); rintro e w1 ⟨he, hb⟩; rw [HSB.out] at he; subst he; obtain ⟨⟨k0, k1, k2, k3⟩, hwl, hbb⟩ := geo_cells hb; have HB1 := Lib.hid hbb; have HBX := Lib.hid ((hb.block w.heap.size (by simp)).trans (heap_alloc_new w _)); clear hb hbb)
    | ((go_at_call 9; with_reducible refine (HF.out _ HB1.out).mono ?_); rintro e w' ⟨he, hw⟩; rw [HFB.out] at he; subst he; subst hw)
    | ((go_at_call 11; with_reducible refine (HN.out _ HB1.out).mono ?_); rintro e w2 hpost; rw [NewPost, HP.out] at hpost; obtain ⟨bb, gg, mm, rfl, hd, hb⟩ := (hpost.resolve_left (fun h => by cases h.1)).2; have HD := Lib.hid hd; have HB2 := Lib.hid hb; have HB3 := Lib.hid (HB1.out.trans (hb.mono HB1.out.size)); have HBX2 := Lib.hid ((hb.block _ hwl).trans HBX.out); have k00 := (hb.cell (p := ⟨w.heap.size, 0, none⟩) hwl).trans k0; clear hpost hd hb k0 k1 k2 k3)
    | ((go_at_call 13; with_reducible refine (num_any _ _).mono ?_); rintro e w' ⟨rfl, rfl⟩))
  have HJ0 : Hid (HI w bb gg mm w2.heap.size nb 0 (fun _ => True) (w2.alloc (.cells (zk nb) 25))) := Lib.hid ⟨_, _, _, _, hj_start (HD.out.rebase HB1.out.size) (HG.out _) HB3.out HBX2.out rfl, trivial⟩
  have hw2 : Below w.heap.size w (w2.alloc (.cells (zk nb) 25)) := HB3.out.alloc HB3.out.size _
  obtain ⟨gk, hgk⟩ : ∃ gk, gk = w2.heap.size := ⟨_, rfl⟩
  rw [← hgk] at HJ0 ⊢
  generalize w2.alloc (.cells (zk nb) 25) = w3 at *
  clear hgk hmk HD HB2 HB3 HBX2 HBX k00 hw2 hwl
  go_loopw [10] (fun i wr => ∃ k : Nat, k ≤ L.length ∧ i = .int .i64 k ∧ Hid (HI w bb gg mm gk nb (2 * k) (fun _ => True) wr)) (fun i _ => L.length - (RowKit.intOf i).toNat)
  case atStart => exact ⟨0, Nat.zero_le _, rfl, HJ0⟩
  case round =>
    obtain ⟨k, hk, rfl, HH⟩ := hrel
    by_cases hlt : k < L.length
    · obtain ⟨V, s, K, LL, hj, _⟩ := HH.out
      have hacts := HL.out.below hj.below
      obtain ⟨_, _, ee, hr⟩ := hacts
      simp only [Value.slice.injEq] at ee
      obtain ⟨rfl, _, rfl⟩ := ee
      obtain ⟨ga, oa, rfl, hga, hcell⟩ := hr (by omega)
      obtain ⟨c0, c1, c2, c3, c4⟩ := hcell k hlt
      have HEK := Lib.hid (HOK.out _ (List.getElem_mem hlt))
      have HEI := Lib.hid (HOK.out _ (List.getElem_mem hlt)).1
      obtain ⟨⟨wh, bl, pg, vd, vs, x, y⟩, he⟩ : ∃ e, e = L[k] := ⟨_, rfl⟩
      rw [← he] at c0 c1 c2 c3 c4 HEK
      simp only at c0 c1 c2 c3 c4
      clear HEI he
      obtain ⟨Ax, nx, ex⟩ := byt_form HEK.out.1
      obtain ⟨Ay, ny, ey⟩ := byt_form HEK.out.2
      simp only at ex ey
      subst ex
      subst ey
      have hN : s.n ≤ 1000 := by have := hj.n; omega
      have HJJ := Lib.hid hj
      clear hr hcell hj
      go_upto_block 2 with ((go_at_call 27; with_reducible refine (Operations_any (HJJ.out.dev.below (below_alloc wr (.cells #[.int .i64 wh, .int .i64 bl, .int .i64 pg, .slice Ax x.length nx, .slice Ay y.length ny] 43)))).mono ?_); rintro e w' ⟨rfl, rfl⟩)
      have HJD := Lib.hid (HJJ.out.later (below_alloc wr (.cells #[.int .i64 wh, .int .i64 bl, .int .i64 pg, .slice Ax x.length nx, .slice Ay y.length ny] 43)))
      have HXD : Hid (XAt (wr.alloc (.cells #[.int .i64 wh, .int .i64 bl, .int .i64 pg, .slice Ax x.length nx, .slice Ay y.length ny] 43)) wr.heap.size wh bl pg (.slice Ax x.length nx) (.slice Ay y.length ny)) := Lib.hid (heap_alloc_new wr _)
      obtain ⟨D, hD⟩ : ∃ D, D = wr.alloc (.cells #[.int .i64 wh, .int .i64 bl, .int .i64 pg, .slice Ax x.length nx, .slice Ay y.length ny] 43) := ⟨_, rfl⟩
      rw [← hD] at HJD HXD ⊢
      obtain ⟨x0, x1, x2, x3, x4⟩ := HXD.out.cells
      have hbb : Byt D (.slice Ax x.length nx) x ∧ Byt D (.slice Ay y.length ny) y := ⟨HEK.out.1.below HJD.out.below, HEK.out.2.below HJD.out.below⟩
      have hof : Off (· = bb) (.slice Ax x.length nx) x ∧ Off (· = bb) (.slice Ay y.length ny) y := ⟨HEK.out.1.off (fun q hq => by rw [hq]; exact HJD.out.dev.hb), HEK.out.2.off (fun q hq => by rw [hq]; exact HJD.out.dev.hb)⟩
      have HBB := Lib.hid hbb
      have HOF := Lib.hid hof
      obtain ⟨xq, hxq⟩ : ∃ q, q = wr.heap.size := ⟨_, rfl⟩
      rw [← hxq] at HXD x0 x1 x2 x3 x4 ⊢
      clear hD hbb hof hxq c0 c1 c2 c3 c4
      go_cut [] from 46 to 182 (fun wx => HI w bb gg mm gk nb (2 * k + 2) (fun _ => True) wx)
      case first =>
        by_cases h0 : wh = 0 ∨ wh = 1 ∨ wh = 2 ∨ wh = 3
        · refine wp_block ?_
          refine wp_seq_var (fun K hK => ?_)
          go_cut [60] from 61 to 182 (fun t wx => t = .bool true ∧ wx = D)
          case first =>
            rcases wh_four h0 with t0 | ⟨t0, t1⟩ | ⟨t0, t1, t2⟩ | ⟨t0, t1, t2, t3⟩
            all_goals
              go_wp2
              go_meet
              case rel => exact ⟨rfl, rfl⟩
          case rest =>
            obtain ⟨rfl, rfl⟩ := hcut
            have hpr := Program_any HJD.out.dev HJD.out.gd (by omega) bl pg HBB.out.1 HBB.out.2 HOF.out.1 HOF.out.2
            by_cases hpe : s.prE bl pg x y = 0
            · obtain ⟨i, j, rfl, rfl, hh⟩ := prog_holds hpe
              rw [hpe] at hpr
              have HPR := Lib.hid hpr
              have hi : i < nb := by have := hh.1; rw [(nb_pr s (i : Int) (j : Int) x y).1, HJD.out.enb] at this; exact this
              have HHH := Lib.hid hh
              clear hpr hpe hh
              go_wp2_with (first
                | ((go_at_call 23; with_reducible refine HPR.out.mono ?_); rintro e w5 ⟨rfl, hst⟩; obtain ⟨V5, hj5⟩ := HJD.out.pr _ _ _ _ hst; have HJ5 := Lib.hid hj5; have HX5 := Lib.hid (HXD.out.chg (hst.choose_spec.2.1) (HJD.out.foots.2.1 _ _ _ HXD.out)); obtain ⟨z0, z1, z2, z3, z4⟩ := HX5.out.cells; clear hst hj5)
                | ((go_at_call 13; with_reducible refine (num_any _ _).mono ?_); rintro e w' ⟨rfl, rfl⟩))
              obtain ⟨Ak, ck, ek, _⟩ := HJ5.out.row i hi
              have hxk : Acts w5 (.slice Ak (LL i).length ck) (LL i) := by rw [← ek]; exact HJ5.out.row i hi
              have hlen : (LL i).length ≤ 800 := by have := HJ5.out.len i hi; omega
              have hone : KA.one ⟨wh, (i : Int), (j : Int), .slice Ax x.length nx, .slice Ay y.length ny, x, y⟩ := ⟨⟨_, _, _, rfl⟩, ⟨_, _, _, rfl⟩⟩
              obtain ⟨A1, k1, W1, A2, k2, W2, r1, r2, b1, b2, o2⟩ := ord_i (e := ⟨wh, (i : Int), (j : Int), .slice Ax x.length nx, .slice Ay y.length ny, x, y⟩) hxk (HJ5.out.one i hi) hone hlen
              obtain ⟨A3, k3, W3, A4, k4, W4, r3, r4, b3, b4, o4⟩ := ord_ii (e := ⟨wh, (i : Int), (j : Int), .slice Ax x.length nx, .slice Ay y.length ny, x, y⟩) hxk (HJ5.out.one i hi) hone hlen
              obtain ⟨A5, k5, W5, A6, k6, W6, r5, r6, b5, b6, o6⟩ := ord_iii (e := ⟨wh, (i : Int), (j : Int), .slice Ax x.length nx, .slice Ay y.length ny, x, y⟩) hxk (HJ5.out.one i hi) hone hlen
              simp only [KA.obj] at r1 r2 r3 r4 r5 r6
              have R1 := appX_run r1
              have R2 := appX_run r2
              have R3 := appX_run r3
              have R4 := appX_run r4
              have R5 := appX_run r5
              have R6 := appX_run r6
              clear r1 r2 r3 r4 r5 r6
              have HO2 := Lib.hid o2
              have HO4 := Lib.hid o4
              have HO6 := Lib.hid o6
              have HB2 := Lib.hid b2
              have HB4 := Lib.hid b4
              have HB6 := Lib.hid b6
              have HEOK : Hid (EOk w (s.prS (i : Int) (j : Int) x y) i ⟨wh, (i : Int), (j : Int), .slice Ax x.length nx, .slice Ay y.length ny, x, y⟩) := Lib.hid ⟨HEK.out, rfl, j, rfl, HHH.out⟩
              obtain ⟨y10, y11, y12, y13, y14⟩ := (HX5.out.below b1).cells
              obtain ⟨y30, y31, y32, y33, y34⟩ := (HX5.out.below b3).cells
              obtain ⟨y50, y51, y52, y53, y54⟩ := (HX5.out.below b5).cells
              obtain ⟨y20, y21, y22, y23, y24⟩ := (HX5.out.below b2).cells
              obtain ⟨y40, y41, y42, y43, y44⟩ := (HX5.out.below b4).cells
              obtain ⟨y60, y61, y62, y63, y64⟩ := (HX5.out.below b6).cells
              obtain ⟨q0, _⟩ := HJ5.out.gk_cell hi
              have hxl : xq < w5.heap.size := (Array.getElem?_eq_some_iff.1 HX5.out).1
              have hgl : gk < w5.heap.size := World.block_lt_of_cell? w5 _ q0
              have hxl1 : xq < W1.heap.size := Nat.lt_of_lt_of_le hxl b1.size
              obtain ⟨q2, f2⟩ := (HJ5.out.later b2).gk_cell hi
              obtain ⟨q4, f4⟩ := (HJ5.out.later b4).gk_cell hi
              obtain ⟨q6, f6⟩ := (HJ5.out.later b6).gk_cell hi
              obtain ⟨q1, f1⟩ := (HJ5.out.later b1).gk_cell hi
              obtain ⟨q3, f3⟩ := (HJ5.out.later b3).gk_cell hi
              obtain ⟨q5, f5⟩ := (HJ5.out.later b5).gk_cell hi
              rw [ek] at q0 q1 q2 q3 q4 q5 q6
              have hiN : (i : Int) < (nb : Int) := by omega
              have hi0 : (0 : Int) ≤ (i : Int) := by omega
              have HONE := Lib.hid hone
              have hne1 := HJ5.out.xq_ne HX5.out
              have hne2 := hne1.symm
              clear HV HG HFB HSM HSB HP HOK HN hx20 HB1 HJ0 HH HF HL hga HJJ HOF h0 HBB x4 x3 x0 x1 x2 HEK HXD HPR HHH
              clear ek hxk o2 o4 o6 b1 b2 b3 b4 b5 b6 hone hlen
              go_region
              all_goals
                go_wp2
                go_meet
                case rel =>
                  first
                    | exact ⟨_, _, _, _, hj_kept HJ5.out hi HB2.out HO2.out HEOK.out HONE.out (fun h => h), trivial⟩
                    | exact ⟨_, _, _, _, hj_kept HJ5.out hi HB4.out HO4.out HEOK.out HONE.out (fun h => h), trivial⟩
                    | exact ⟨_, _, _, _, hj_kept HJ5.out hi HB6.out HO6.out HEOK.out HONE.out (fun h => h), trivial⟩
            · have HPR := Lib.hid hpr
              have d1 : (s.prE bl pg x y == 0) = false := by simpa using hpe
              have d2 : decide (s.prE bl pg x y = 0) = false := decide_eq_false hpe
              clear hpr hpe
              go_wp2_with (first
                | ((go_at_call 23; with_reducible refine HPR.out.mono ?_); rintro e w5 ⟨rfl, hst⟩; obtain ⟨V5, hj5⟩ := HJD.out.pr _ _ _ _ hst; have HJ5 := Lib.hid hj5; clear hst hj5)
                | ((go_at_call 13; with_reducible refine (num_any _ _).mono ?_); rintro e w' ⟨rfl, rfl⟩))
              go_meet
              case rel => exact ⟨_, _, _, _, HJ5.out.more (by omega), trivial⟩
        · have e0 : wh ≠ 0 := fun h => h0 (.inl h)
          have e1 : wh ≠ 1 := fun h => h0 (.inr (.inl h))
          have e2 : wh ≠ 2 := fun h => h0 (.inr (.inr (.inl h)))
          have e3 : wh ≠ 3 := fun h => h0 (.inr (.inr (.inr h)))
          clear h0
          by_cases h4 : wh = 4
          · subst h4
            clear e0 e1 e2 e3
            have her := Erase_any HJD.out.dev HJD.out.gd (by omega) bl
            by_cases hlt2 : s.n < (s.erS bl).n
            · obtain ⟨i, rfl, hi⟩ := er_has hlt2
              have hi2 : i < nb := by rw [← HJD.out.enb]; exact hi
              have HER := Lib.hid her
              have d1 : decide (s.n < (s.erS (i : Int)).n) = true := decide_eq_true hlt2
              have hiN : (i : Int) < (nb : Int) := by omega
              have hi0 : (0 : Int) ≤ (i : Int) := by omega
              clear her hi
              go_wp2_with (first
                | ((go_at_call 22; with_reducible refine HER.out.mono ?_); rintro e w5 ⟨rfl, hst⟩; obtain ⟨V5, hj5⟩ := HJD.out.er i hst; have HJ5 := Lib.hid hj5; have HX5 := Lib.hid (HXD.out.chg (hst.choose_spec.2.1) (HJD.out.foots.2.1 _ _ _ HXD.out)); obtain ⟨z0, z1, z2, z3, z4⟩ := HX5.out.cells; obtain ⟨q0, f0⟩ := hj5.gk_cell hi2; obtain ⟨Ak, ck, ek, _⟩ := hj5.row i hi2; rw [ek] at q0; clear hst hj5 ek)
                | ((go_at_call 27; with_reducible refine (Operations_any HJ5.out.dev).mono ?_); rintro e w' ⟨rfl, rfl⟩))
              go_meet
              case rel => exact ⟨_, _, _, _, (HJ5.out.nokeep hi2 (fun j h => h)).more (by omega), trivial⟩
            · have HER := Lib.hid her
              have d1 : decide (s.n < (s.erS bl).n) = false := decide_eq_false hlt2
              have HNO := Lib.hid hlt2
              have HS := Lib.hid (er_same hlt2)
              clear her hlt2
              go_wp2_with (first
                | ((go_at_call 22; with_reducible refine HER.out.mono ?_); rintro e w5 ⟨rfl, hst⟩; obtain ⟨V5, hj5⟩ := HJD.out.er_no _ hst HNO.out; have HJ5 := Lib.hid hj5; have HX5 := Lib.hid (HXD.out.chg (hst.choose_spec.2.1) (HJD.out.foots.2.1 _ _ _ HXD.out)); obtain ⟨z0, z1, z2, z3, z4⟩ := HX5.out.cells; clear hst hj5)
                | ((go_at_call 27; with_reducible refine (Operations_any HJ5.out.dev).mono ?_); rintro e w' ⟨rfl, rfl⟩))
              go_meet
              case rel => exact ⟨_, _, _, _, HJ5.out.more (by omega), trivial⟩
          · by_cases h6 : wh = 6
            · subst h6
              clear e0 e1 e2 e3 h4
              have HCU := Lib.hid (Cut_any HJD.out.dev HJD.out.gd bl pg)
              go_wp2_with ((go_at_call 24; with_reducible refine HCU.out.mono ?_); rintro e w5 ⟨rfl, hd5, hc5⟩; have HJ5 := Lib.hid (HJD.out.cu _ _ hd5 hc5); clear hd5 hc5)
              go_meet
              case rel => exact ⟨_, _, _, _, HJ5.out.more (by omega), trivial⟩
            · have n0 : (wh == 0) = false := by simpa using e0
              have n1 : (wh == 1) = false := by simpa using e1
              have n2 : (wh == 2) = false := by simpa using e2
              have n3 : (wh == 3) = false := by simpa using e3
              have n4 : (wh == 4) = false := by simpa using h4
              have n6 : (wh == 6) = false := by simpa using h6
              go_wp2
              go_meet
              case rel => exact ⟨_, _, _, _, HJD.out.more (by omega), trivial⟩
      case rest =>
        obtain ⟨V1, s1, K1, LL1, hj1, _⟩ := hcut
        have HJ1 := Lib.hid hj1
        have hpw := Powered_any hj1.dev
        have HR := Lib.hid (Restart_any hj1.dev)
        clear hj1 HEK HJD HXD x0 x1 x2 x3 x4 HBB HOF HJJ HH HL HF HOK HV HG HFB HSM HSB HP HN HB1 HJ0
        cases ho : s1.off
        all_goals
          rw [ho] at hpw
          have HPW := Lib.hid hpw
          clear hpw
          go_wp2_with (first
            | ((go_at_call 25; with_reducible refine HPW.out.mono ?_); rintro e w' ⟨rfl, rfl⟩)
            | ((go_at_call 21; with_reducible refine HR.out.mono ?_); rintro e w5 ⟨rfl, hd5, hc5⟩; have HS : Hid (HI w bb gg mm gk nb (2 * k + 2) (fun o => o = false) w5) := Lib.hid ⟨_, _, _, _, HJ1.out.rs hd5 hc5, rfl⟩; clear hd5 hc5))
          first
            | have HS : Hid (HI w bb gg mm gk nb (2 * k + 2) (fun o => o = false) wc) := Lib.hid ⟨_, _, _, _, HJ1.out, ho⟩
            | skip
          clear HPW HR HJ1 ho
          go_loopw [13] (fun i wr => ∃ p : Nat, p ≤ nb ∧ i = .int .i64 p ∧ Hid (HI w bb gg mm gk nb (2 * k + 2) (fun o => o = false) wr)) (fun i _ => nb - (RowKit.intOf i).toNat)
          case atStart => exact ⟨0, Nat.zero_le _, rfl, HS⟩
          case round =>
            obtain ⟨p, hp, rfl, HB⟩ := hrel
            obtain ⟨V2, s2, K2, LL2, hj2, _⟩ := HB.out
            have cnb := hj2.nb_cell
            clear hj2
            by_cases hpl : p < nb
            · have hpn : (p : Int) < (nb : Int) := by omega
              have hp0 : (0 : Int) ≤ (p : Int) := by omega
              go_wp2
              clear cnb
              go_loopw [14] (fun i wr => ∃ q : Nat, q ≤ 2 * k + 2 ∧ i = .int .i64 q ∧ Hid (HI w bb gg mm gk nb (2 * k + 2) (fun o => o = false) wr)) (fun i _ => 2 * k + 2 - (RowKit.intOf i).toNat)
              case atStart => exact ⟨0, Nat.zero_le _, rfl, HB⟩
              case round =>
                obtain ⟨q, hq, rfl, HC⟩ := hrel
                obtain ⟨V3, s3, K3, LL3, hj3, hof⟩ := HC.out
                obtain ⟨q0, _⟩ := hj3.gk_cell hpl
                obtain ⟨Ak, ck, ek, hrk⟩ := hj3.row p hpl
                have hlen := hj3.len p hpl
                rw [ek] at q0
                have HJ3 := Lib.hid hj3
                clear hj3
                by_cases hql : q < (LL3 p).length
                · have hqn : (q : Int) < ((LL3 p).length : Int) := by omega
                  have hq0 : (0 : Int) ≤ (q : Int) := by omega
                  obtain ⟨gq, oq, rfl, hgq, hcell⟩ := hrk (by omega)
                  obtain ⟨c0, c1, c2, c3, c4⟩ := hcell q hql
                  have hE := HJ3.out.ok p hpl (fun h => h) _ (List.getElem_mem hql)
                  obtain ⟨⟨wh, bl, pg, vd, vs, x, y⟩, he⟩ : ∃ e, e = (LL3 p)[q] := ⟨_, rfl⟩
                  rw [← he] at c0 c1 c2 c3 c4 hE
                  simp only at c0 c1 c2 c3 c4
                  obtain ⟨⟨hbx, hby⟩, hbl, j, hpg, hh⟩ := hE
                  simp only at hbx hby hbl hpg hh
                  subst hbl
                  subst hpg
                  obtain ⟨Ax, nx, ex⟩ := byt_form hbx
                  obtain ⟨Ay, ny, ey⟩ := byt_form hby
                  subst ex
                  subst ey
                  obtain ⟨r1, r2, r3, r4, r5⟩ := holds_rd hh hof
                  have hd := HJ3.out.later (below_alloc wr (.cells #[.int .i64 wh, .int .i64 (p : Int), .int .i64 (j : Int), .slice Ax x.length nx, .slice Ay y.length ny] 43))
                  have HRD := Lib.hid (chk_read hd r1 r2 r3)
                  have HD := Lib.hid hd
                  have HX : Hid (XAt (wr.alloc (.cells #[.int .i64 wh, .int .i64 (p : Int), .int .i64 (j : Int), .slice Ax x.length nx, .slice Ay y.length ny] 43)) wr.heap.size wh (p : Int) (j : Int) (.slice Ax x.length nx) (.slice Ay y.length ny)) := Lib.hid (heap_alloc_new wr _)
                  have HBX := Lib.hid hbx
                  have HBY := Lib.hid hby
                  have hnx : ¬ s3.nx (p : Int) ≤ (j : Int) := by omega
                  have HR4 := Lib.hid r4
                  have HOF := Lib.hid hof
                  clear hd hbx hby hh r1 r2 r3 r4 r5 he hcell hgq hrk ek hof
                  go_wp2_with ((go_at_call 18; with_reducible refine HRD.out.mono ?_); rintro e w6 ⟨A1, n1, d1, A2, n2, d2, rfl, f1, f2, f3⟩; have HF1 := Lib.hid f1; have HF2 := Lib.hid f2; have HF3 := Lib.hid f3; clear f1 f2 f3)
                  have HJ6 := Lib.hid (HD.out.later HF3.out)
                  obtain ⟨y0, y1, y2, y3, y4⟩ := (HX.out.below HF3.out).cells
                  obtain ⟨NX, hNX⟩ : ∃ n, n = s3.nx (p : Int) := ⟨_, rfl⟩
                  rw [← hNX] at hnx
                  have hnd : ¬ NX ≤ (j : Int) := by omega
                  have hnd2 : decide (NX ≤ (j : Int)) = false := decide_eq_false hnd
                  have Q1 : Hid (∀ nq, Calls Try.prog 13 #[.int .i64 0] (w6.drewN nq) fun e w' => e = .returned (.int .i64 0) ∧ w' = w6.drewN nq) := Lib.hid fun nq => (num_any 0 _).mono fun _ _ ⟨a, b⟩ => ⟨a, b.symm⟩
                  have Q2 := Lib.hid (chk_same HF1.out (HBX.out.below HJ6.out.below))
                  have Q3 := Lib.hid (chk_same HF2.out (HBY.out.below HJ6.out.below))
                  have Q4 := Lib.hid (chk_state HJ6.out HR4.out)
                  have Q5 := Lib.hid (chk_next HJ6.out hNX)
                  have HC6 : Hid (∀ nq, HI w bb gg mm gk nb (2 * k + 2) (fun o => o = false) (w6.drewN nq)) := Lib.hid fun nq => ⟨_, _, _, _, HJ6.out.later (below_drewN w6 nq), HOF.out⟩
                  clear HRD HD HX HBX HBY HR4 HOF HF1 HF2 HF3 HJ6 hNX c0 c1 c2 c3 c4 q0 HJ3
                  go_quiet (first
                    | ((go_at_call 13; exact Calls.quiet_of_same (Q1.out _)))
                    | ((go_at_call 31; exact Calls.quiet_of_same (Q2.out _)))
                    | ((go_at_call 31; exact Calls.quiet_of_same (Q3.out _)))
                    | ((go_at_call 30; exact Calls.quiet_of_same (Q4.out _)))
                    | ((go_at_call 28; exact Calls.quiet_of_same (Q5.out _))))
                  all_goals
                    go_wp2
                    go_roundw
                    case rel => exact ⟨q + 1, by omega, by go_num, Lib.hid (HC6.out _)⟩
                    case measure => simp [RowKit.intOf]; omega
                · have hqn : ¬ (q : Int) < ((LL3 p).length : Int) := by omega
                  go_wp2
                  go_roundw
                  case rel => exact ⟨p + 1, by omega, by go_num, HC⟩
                  case measure => simp [RowKit.intOf]; omega
            · have hpn : ¬ (p : Int) < (nb : Int) := by omega
              have HI3 : Hid (HI w bb gg mm gk nb (2 * (k + 1)) (fun _ => True) _) := Lib.hid HB.out.any
              go_wp2
              go_roundw
              case rel => exact ⟨k + 1, by omega, by go_num, HI3⟩
              case measure => simp [RowKit.intOf]; omega
    · have hkl : ¬ (k : Int) < (L.length : Int) := by omega
      obtain ⟨V, s, K, LL, hj, _⟩ := HH.out
      have HBW := Lib.hid hj.below
      clear hj
      go_wp2_with ((go_at_call 10; with_reducible refine (works_any _).mono ?_); rintro e w5 ⟨rfl, hb5⟩; have HB5 := Lib.hid hb5; clear hb5)
      go_ret
      exact ⟨rfl, HBW.out.trans (HB5.out.mono HBW.out.size)⟩
end Go.Proofs.Ytddejcoagcaidaa
