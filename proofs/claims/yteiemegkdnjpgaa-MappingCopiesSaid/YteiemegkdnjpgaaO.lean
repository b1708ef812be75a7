/- The contracts of Entries and read. Conditions stand in each theorem. -/
import Derived.Test.YteiemegkdnjpgaaN
namespace Go.Proofs.Yteiemegkdnjpgaa
open Go.RowKit Go.Shelf
attribute [local go_sem] Oper.semAt_some
set_option linter.unusedVariables false
set_option maxHeartbeats 4000000
set_option maxRecDepth 100000
/-- What has no cells is as it was. -/
def Nc (W W' : World) : Prop := ∀ (k : Nat) (o : Obj), W.heap[k]? = some o → o.isCells = false → W'.heap[k]? = some o
theorem bf_append' {B q : Nat} {l : List (Int × Int)} {W : World} (h : Bf B q l W) (hB : B ≤ W.heap.size) (hl : l.length ≤ 16777216) (a c : Int) (ty : TypeId) : ∃ A n m A' m' w2, Bx1 W q 27 (.slice A n m) ∧
    (Builtin.append_ #[27, 27] ty #[.slice A n m, .slice (some ⟨W.heap.size, 0, none⟩) 1 1]).run Try.prog (W.alloc (.cells #[.int .i64 a, .int .i64 c] 50)) = .ok (.slice A' (l.length + 1) m') w2 ∧ Bx1 w2 q 27 (.slice A n m) ∧ Bf B q (l ++ [(a, c)]) (w2.setCell ⟨q, 0, none⟩ (.slice A' (l.length + 1) m')) ∧ Chg (fun k => k = q ∨ B ≤ k) W (w2.setCell ⟨q, 0, none⟩ (.slice A' (l.length + 1) m')) ∧ Nc W (w2.setCell ⟨q, 0, none⟩ (.slice A' (l.length + 1) m')) := by
  obtain ⟨i50, hi, hz0, hz1, hz2⟩ := info_parts50
  obtain ⟨v, hv, ho', hqB⟩ := h
  obtain ⟨ga, capa, w2, hrun, hown2, hgrow, hlies, _⟩ := run_append_lies (P := Try.prog) (ty := ty) (W.alloc (.cells #[.int .i64 a, .int .i64 c] 50)) 27 B 50 i50 _ 2 16 Try.underlying27 hi hz0 hz1 hz2 rfl (by decide) v l.length (pv l) (ho'.alloc _) ⟨W.heap.size, 0, none⟩ 1 1 [.int .i64 a, .int .i64 c] rfl (World.news_of_block (heap_alloc_new W _)) (by intro u hu; simp at hu; rcases hu with rfl | rfl <;> rfl) (by omega) (by unfold maxLen; omega) (by omega) (by simp; omega) W.heap.size.succ (by simp)
  have hvb : ∀ k, v.ownBlock = some k → B ≤ k := fun k hk => (ho'.lt k hk).1
  have hlt0 := hv.lt
  have hvo : v.ownBlock ≠ some q := fun e => by have := hvb q e; omega
  have hw2 : Bx1 w2 q 27 v := (hgrow.block _ (by simp; omega) (fun e => hvo e.symm)).trans ((Below.heap_alloc W _ _ hlt0).trans hv)
  have hga : B ≤ ga := (hown2.lt ga rfl).1
  have hgr : Chg (fun k => v.ownBlock = some k) W w2 := (Chg.of_below (below_alloc W _)).also (Chg.of_grown hgrow)
  obtain ⟨A, n, e⟩ := own_form ho'
  have hnc : Nc W (w2.setCell ⟨q, 0, none⟩ (.slice (some ⟨ga, 0, none⟩) (l.length + 1) capa)) := fun k o hk hc => by
    have h1 : k ≠ q := fun e => by subst e; rw [show W.heap[k]? = _ from hv] at hk; cases hk; cases hc
    have h2 : v.ownBlock ≠ some k := fun e2 => by
      rcases ho'.2 with ⟨e3, _⟩ | ⟨g', cap, cur, e3, _, hg', _⟩
      · rw [e3] at e2; simp [Value.ownBlock] at e2
      · rw [e3] at e2; simp [Value.ownBlock] at e2; subst e2
        rw [hg'] at hk; cases hk; cases hc
    exact (Below.heap_setCell w2 _ _ k h1).trans ((hgr.block k (Array.getElem?_eq_some_iff.1 hk).1 h2).trans hk)
  subst e
  refine ⟨A, _, n, _, capa, w2, hv, hrun, hw2, ⟨_, heap_setCell_same w2 q 0 _ 27 _ hw2, ?_, hqB⟩, (hgr.mono fun k hk => .inr (hvb k hk)).setCell (.inl rfl) _, hnc⟩
  rw [pv_snoc, List.length_append]
  refine hown2.kept (row := some q) ⟨rfl, rfl, rfl, by simp [World.setCell], fun j hj hne => Below.heap_setCell w2 _ _ j (fun e => hne (by rw [e]))⟩ (.inr ?_)
  simp [Value.ownBlock]; omega
/-- A loop over pairs whose variables are plain slots. -/
theorem range_asg {n p0 p1 : Nat} {g : Operand} {assign body : Code} {Q : Exit → Act → World → Prop} {a : Act} {w w0 : World} {gf : Nat} {lb : Array Value} {l : List (Int × Int)} (asg : Value → Value → Array Value → Array Value)
    (hg : a.eval g = .func (.func gf) #[] lb) (eg : ∀ args w, (callFunc gf args).run Try.prog w = .ok (.enter gf args) w) {S : Nat → Prop} (hy : Yields Try.prog gf lb fe S (w.heap.size + 2) l w0) (hb0 : Below w0.heap.size w0 w)
    (I : Nat → World → Prop) (Ix : Code → Nat → World → Prop) (hI : OwnFrom w.heap.size I) (hIx : ∀ c, OwnFrom w.heap.size (Ix c)) (h0 : I 0 w)
    (hassign : ∀ (l' : Nat) (x : Int × Int) (W : World) (K : Act → World → Prop), K { tmps := asg (.int .i64 x.1) (.int .i64 x.2) a.tmps, defers := [] } W →
      assign.wpIn (Fence.wide.inRound l') 9 Try.prog (Exit.then K (fun _ _ _ => False)) { tmps := (a.tmps.setIfInBounds p0 (.int .i64 x.1)).setIfInBounds p1 (.int .i64 x.2), defers := [] } W)
    (hbody : ∀ (l' k : Nat) (hk : k < l.length) (W : World), I k W → body.wpIn (Fence.wide.inRound l') 9 Try.prog (outPost w.heap.size S (I (k + 1)) (fun c => Ix c (k + 1)) W) { tmps := asg (.int .i64 l[k].1) (.int .i64 l[k].2) a.tmps, defers := [] } W)
    (hdone : ∀ (D : Nat) (W : World), w.heap.size ≤ D → I l.length W → W.heap[D]? = some (.deferred (some [])) → Q .normal { a with defers := mrk D :: a.defers } W)
    (hstop : ∀ (D : Nat) (c : Code) (k : Nat) (W : World), w.heap.size ≤ D → k ≤ l.length → Ix c k W → W.heap[D]? = some (.deferred (some [])) → c.wpIn Fence.wide n Try.prog Q { a with defers := mrk D :: a.defers } W) :
    (Code.rangeFunc g #[p0, p1] assign body).wpIn Fence.wide n Try.prog Q a w := by
  refine range_list (gf := gf) (lb := lb) hg eg hy hb0 (fun _ => rfl) I Ix hI hIx h0 (fun k a' _ => ∃ hk : k < l.length, a' = { tmps := asg (.int .i64 l[k].1) (.int .i64 l[k].2) a.tmps, defers := [] }) (fun k a' _ X Y row hs _ _ => hs) ?_ ?_ hdone hstop
  · intro l' k hk W K hi hK
    have h := hassign l' l[k] W K (hK _ W (KeepsFrom.refl _ _) (Kc.refl _ _) hi ⟨hk, rfl⟩)
    simpa using h
  · rintro l' k hk a' W _ hi ⟨_, rfl⟩
    exact hbody l' k hk W hi
theorem kf_nc {B : Nat} {W W' : World} (h : Nc W W') (hs : W.heap.size ≤ W'.heap.size) : KeepsFrom B W W' := ⟨hs, fun k o _ ho hc => h k o ho hc⟩
theorem nc_below {W W' : World} (h : Below W.heap.size W W') : Nc W W' := fun k o ho _ => (h.block k (Array.getElem?_eq_some_iff.1 ho).1).trans ho
theorem nc_trans {A B C : World} (h : Nc A B) (k : Nc B C) : Nc A C := fun i o ho hc => k i o (h i o ho hc) hc
/-- What a function that lists pairs leaves. -/
def LisP (w : World) (l : List (Int × Int)) (e : Ending) (w' : World) : Prop := ∃ v, e = .returned v ∧ Ent w' v l ∧ (∀ b, v.ownBlock = some b → w.heap.size ≤ b) ∧ Below w.heap.size w w'
theorem bf_ent {B q : Nat} {l : List (Int × Int)} {W : World} (h : Bf B q l W) : ∃ A m, Bx1 W q 27 (.slice A l.length m) ∧ Ent W (.slice A l.length m) l ∧ ∀ b, (Value.slice A l.length m).ownBlock = some b → B ≤ b ∧ b < W.heap.size := by
  obtain ⟨v, h1, h2, h3⟩ := h
  obtain ⟨_, h4, h5⟩ := ent_of_own h2
  obtain ⟨A, m, e⟩ := own_form h2
  subst e
  exact ⟨A, m, h1, h4, h5⟩
theorem ent_put {W : World} {v : Value} {l : List (Int × Int)} {D : Nat} {o o' : Obj} (h : Ent W v l) (hd : W.heap[D]? = some o) (hc : o.isCells = false) : Ent (W.putObj D o') v l :=
  h.keep fun b _ o2 ho hc2 => (World.putObj_heap_other (fun e => by subst e; rw [hd] at ho; cases ho; rw [hc] at hc2; cases hc2)).trans ho
theorem below_put {w W : World} {D : Nat} {o : Obj} (h : Below w.heap.size w W) (hD : w.heap.size ≤ D) : Below w.heap.size w (W.putObj D o) :=
  ⟨h.os, h.tape, h.output, by simpa using h.size, fun k hk => (World.putObj_heap_other (by omega)).trans (h.block k hk)⟩
theorem Entries_any {w : World} {base bb m1 m2 g cap s b p : Nat} {L : List (Int × Int)} (h : Mg w base bb m1 m2 g cap s b p L) : Calls Try.prog 27 #[.pointer (some ⟨bb, 0, none⟩)] w (LisP w L) := by
  have b1 := below_alloc w (.cells #[.slice none 0 0] 27)
  have HALL := Lib.hid (All_any (h.below b1))
  have hlen : L.length ≤ 16777216 := by have := h.fit.len; have := h.fit.hs; omega
  have x1 := Bx1.new w 27 (.slice none 0 0)
  have HX1 := Lib.hid x1
  have HB1 := Lib.hid b1
  clear h b1 x1
  refine (callsIn_wide (n := 9)).1 ?_
  have f16 : Fence.wide.fn 16 := trivial
  refine callsIn_of_wp_marks Try.func27 rfl trivial ?_ rfl
  simp only [Try.ntmps27, List.size_toArray, List.length_cons, List.length_nil, Nat.reduceAdd, Nat.reduceSub, Array.replicate_succ, Array.replicate_zero, List.push_toArray, List.append_toArray, List.nil_append, List.cons_append]
  gi_wp2_with (gi_at_call 16; refine (callsIn_wide.2 HALL.out).mono ?_; rintro e E ⟨B, v, rfl, hB, hbx, hent, hvo, hbe⟩; have HBX := Lib.hid hbx; have HEN := Lib.hid hent; have HVO := Lib.hid hvo; have HBE := Lib.hid hbe; clear hbx hent hvo hbe)
  have hsz : (w.alloc (.cells #[.slice none 0 0] 27)).heap.size = w.heap.size + 1 := by simp
  rw [hsz] at hB
  have hs2 := HBE.out.size
  rw [hsz] at hs2
  have hbw : Below w.heap.size w E := HB1.out.trans (HBE.out.mono (by omega))
  have hbf : Bf E.heap.size w.heap.size [] E := ⟨_, HX1.out.below HBE.out, World.ownsRow_nil _ _ _ _, by omega⟩
  refine range_asg (gf := 50) (fun x y t => (((t.setIfInBounds 8 x).setIfInBounds 9 y).setIfInBounds 4 x).setIfInBounds 5 y) rfl (enters_of Try.func50 (by kernel_rfl) rfl) (seq_yields (fun k => k = w.heap.size ∨ E.heap.size ≤ k) _ _ _ L E hlen (fun b hb hS => by
      have := HVO.out b hb
      rw [hsz] at this
      omega) HBX.out HEN.out) (Below.refl _ _)
    (fun k W => Bf E.heap.size w.heap.size (L.take k) W ∧ Below w.heap.size w W ∧ E.heap.size ≤ W.heap.size) (fun _ _ _ => False)
    (fun j X Y row hs hg hr => ⟨own_bf _ () X Y row hs.1 hg hr, ownFrom_below (Nat.le_refl _) (by omega) () X Y row hs.2.1 hg hr, Nat.le_trans hs.2.2 hg.size⟩) (fun c j X Y row hs _ _ => hs) ⟨hbf, hbw, Nat.le_refl _⟩ ?assign ?body ?done ?stop
  case assign =>
    intro l'' x W' K' hK'
    gi_wp2
    exact hK'
  case body =>
    rintro l'' k hk W ⟨hf, hb, hE⟩
    have hkl : (L.take k).length ≤ 16777216 := by simp; omega
    have HT := Lib.hid (List.take_succ_eq_append_getElem hk)
    generalize L[k] = x at *
    obtain ⟨x1, x2⟩ := x
    generalize L.take k = pl at *
    obtain ⟨A, n, m, A', m', w2, hv, hrun, hv2, hbf', hch, hnc⟩ := bf_append' hf hE hkl x1 x2 27
    have c1 := hv.cell
    have c2 := hv2.cell
    have c3 := hv2.free
    have HR := Lib.hid hrun
    have HF := Lib.hid (show KeepsFrom E.heap.size W (w2.setCell ⟨w.heap.size, 0, none⟩ (.slice A' (pl.length + 1) m')) ∧ Kc (fun k => k = w.heap.size ∨ E.heap.size ≤ k) W (w2.setCell ⟨w.heap.size, 0, none⟩ (.slice A' (pl.length + 1) m')) ∧ (Bf E.heap.size w.heap.size (L.take (k + 1)) (w2.setCell ⟨w.heap.size, 0, none⟩ (.slice A' (pl.length + 1) m')) ∧ Below w.heap.size w (w2.setCell ⟨w.heap.size, 0, none⟩ (.slice A' (pl.length + 1) m')) ∧ E.heap.size ≤ (w2.setCell ⟨w.heap.size, 0, none⟩ (.slice A' (pl.length + 1) m')).heap.size) from
      ⟨kf_nc hnc hch.size, Kc.of_chg hch, by rw [HT.out]; exact hbf', hb.trans (hch.below hb.size (fun i hi => by omega)), Nat.le_trans hE hch.size⟩)
    clear hf hb hv hrun hv2 hbf' hch hnc
    gi_wp2_with (gi_at_builtin; refine wpListIn_append_run rfl (.tmp 10) (.tmp 14) 27 27 rfl _ _ _ w2 rfl rfl HR.out ?_)
    exact HF.out
  case done =>
    rintro D W hD ⟨hf, hb, hE⟩ hd
    rw [List.take_length] at hf
    obtain ⟨A, m, h1, h2, h3⟩ := bf_ent hf
    have c1 := h1.cell
    have HF := Lib.hid (show LisP w L (.returned (.slice A L.length m)) (W.putObj D (.deferred none)) from ⟨_, rfl, ent_put h2 hd rfl, fun b hb => by have := h3 b hb; omega, below_put hb (by omega)⟩)
    clear hf hb h1 h2 h3
    gi_wp2
    refine ⟨by simp, .inl ⟨_, _, rfl, run_takeDeferred hd, ?_⟩⟩
    refine ⟨_, results_tmp rfl _ _ _, ?_⟩
    show LisP w L (.returned (.slice A L.length m)) _
    exact HF.out
  case stop =>
    rintro D c k W _ _ hf
    exact hf.elim
/-- The pairs that read lists: turned round unless sectors come first; at most a number of them. -/
def rdl (sec : Bool) (most : Int) (l : List (Int × Int)) : List (Int × Int) := (l.map fun x => if sec then x else (x.2, x.1)).take (max 1 most).toNat
theorem rdl_all {sec : Bool} {most : Int} {l : List (Int × Int)} (h : ∀ j : Nat, 1 ≤ j → j ≤ l.length → (j : Int) < most) : rdl sec most l = l.map fun x => if sec then x else (x.2, x.1) := by
  unfold rdl
  refine List.take_of_length_le ?_
  rw [List.length_map]
  rcases Nat.eq_zero_or_pos l.length with h0 | h0
  · omega
  · have := h l.length h0 (Nat.le_refl _)
    omega
theorem rdl_some {sec : Bool} {most : Int} {l : List (Int × Int)} {k : Nat} (hk : 1 ≤ k) (h1 : most ≤ k) (h : ∀ j : Nat, 1 ≤ j → j < k → (j : Int) < most) : rdl sec most l = (l.map fun x => if sec then x else (x.2, x.1)).take k := by
  unfold rdl
  congr 1
  rcases Nat.lt_or_ge 1 k with h2 | h2
  · have := h (k - 1) (by omega) (by omega)
    omega
  · omega
theorem read_any {w : World} {B : Nat} {v : Value} {l : List (Int × Int)} (hc : Bx1 w B 79 v) (hr : Ent w v l) (hvo : ∀ b, v.ownBlock = some b → b < w.heap.size) (hl : l.length ≤ 16777216) (sec : Bool) (most : Int) : Calls Try.prog 21 #[.func (.func 50) #[] #[.pointer (some ⟨B, 0, none⟩)], .bool sec, .int .i64 most] w (LisP w (rdl sec most l)) := by
  have b1 := below_alloc w (.cells #[.bool sec] 4)
  have b2 := b1.alloc (by simp) (.cells #[.int .i64 most] 3)
  have b3 := b2.alloc (by simp; omega) (.cells #[.slice none 0 0] 27)
  have x4 : Bx1 (((w.alloc (.cells #[.bool sec] 4)).alloc (.cells #[.int .i64 most] 3)).alloc (.cells #[.slice none 0 0] 27)) w.heap.size 4 (.bool sec) := ((Bx1.new w 4 _).below (below_alloc _ _)).below (below_alloc _ _)
  have x5 : Bx1 (((w.alloc (.cells #[.bool sec] 4)).alloc (.cells #[.int .i64 most] 3)).alloc (.cells #[.slice none 0 0] 27)) (w.heap.size + 1) 3 (.int .i64 most) := by
    have := Bx1.new (w.alloc (.cells #[.bool sec] 4)) 3 (.int .i64 most)
    rw [World.size_alloc] at this
    exact this.below (below_alloc _ _)
  have x7 : Bx1 (((w.alloc (.cells #[.bool sec] 4)).alloc (.cells #[.int .i64 most] 3)).alloc (.cells #[.slice none 0 0] 27)) (w.heap.size + 1 + 1) 27 (.slice none 0 0) := by
    have := Bx1.new ((w.alloc (.cells #[.bool sec] 4)).alloc (.cells #[.int .i64 most] 3)) 27 (.slice none 0 0)
    rwa [World.size_alloc, World.size_alloc] at this
  have hsz : (((w.alloc (.cells #[.bool sec] 4)).alloc (.cells #[.int .i64 most] 3)).alloc (.cells #[.slice none 0 0] 27)).heap.size = w.heap.size + 3 := by simp
  have HX4 := Lib.hid x4
  have HX5 := Lib.hid x5
  have HX7 := Lib.hid x7
  have HB := Lib.hid b3
  have HBX := Lib.hid (hc.below b3)
  have HEN := Lib.hid (hr.below b3)
  have HVO := Lib.hid hvo
  have HSZ := Lib.hid hsz
  clear b1 b2 b3 x4 x5 x7 hc hr hvo hsz
  refine (callsIn_wide (n := 9)).1 ?_
  refine callsIn_of_wp_marks Try.func21 rfl trivial ?_ rfl
  simp only [Try.ntmps21, List.size_toArray, List.length_cons, List.length_nil, Nat.reduceAdd, Nat.reduceSub, Array.replicate_succ, Array.replicate_zero, List.push_toArray, List.append_toArray, List.nil_append, List.cons_append]
  gi_wp2
  generalize ((w.alloc (.cells #[.bool sec] 4)).alloc (.cells #[.int .i64 most] 3)).alloc (.cells #[.slice none 0 0] 27) = E at *
  have hse := HSZ.out
  have hbf : Bf E.heap.size (w.heap.size + 1 + 1) [] E := ⟨_, HX7.out, World.ownsRow_nil _ _ _ _, by omega⟩
  refine range_asg (gf := 50) (fun x y t => (((t.setIfInBounds 12 x).setIfInBounds 13 y).setIfInBounds 8 x).setIfInBounds 9 y) rfl (enters_of Try.func50 (by kernel_rfl) rfl) (seq_yields (fun k => k = w.heap.size + 1 + 1 ∨ E.heap.size ≤ k) _ _ _ l E hl (fun b hb hS => by have := HVO.out b hb; omega) HBX.out HEN.out) (Below.refl _ _)
    (fun k W => Bf E.heap.size (w.heap.size + 1 + 1) ((l.map fun x => if sec then x else (x.2, x.1)).take k) W ∧ Below w.heap.size w W ∧ E.heap.size ≤ W.heap.size ∧ Bx1 W w.heap.size 4 (.bool sec) ∧ Bx1 W (w.heap.size + 1) 3 (.int .i64 most) ∧ ∀ j : Nat, 1 ≤ j → j ≤ k → (j : Int) < most)
    (fun c k W => c = .exit 0 ∧ Bf E.heap.size (w.heap.size + 1 + 1) ((l.map fun x => if sec then x else (x.2, x.1)).take k) W ∧ Below w.heap.size w W ∧ E.heap.size ≤ W.heap.size ∧ 1 ≤ k ∧ most ≤ k ∧ ∀ j : Nat, 1 ≤ j → j < k → (j : Int) < most)
    (fun j X Y row hs hg hr => ⟨own_bf _ () X Y row hs.1 hg hr, ownFrom_below (Nat.le_refl _) (by omega) () X Y row hs.2.1 hg hr, Nat.le_trans hs.2.2.1 hg.size, own_bx _ () X Y row hs.2.2.2.1 hg hr, own_bx _ () X Y row hs.2.2.2.2.1 hg hr, hs.2.2.2.2.2⟩)
    (fun c j X Y row hs hg hr => ⟨hs.1, own_bf _ () X Y row hs.2.1 hg hr, ownFrom_below (Nat.le_refl _) (by omega) () X Y row hs.2.2.1 hg hr, Nat.le_trans hs.2.2.2.1 hg.size, hs.2.2.2.2⟩) ⟨hbf, HB.out, Nat.le_refl _, HX4.out, HX5.out, fun j h1 h2 => by omega⟩ ?assign ?body ?done ?stop
  case assign =>
    intro l'' x W' K' hK'
    gi_wp2
    exact hK'
  case body =>
    rintro l'' k hk W ⟨hf, hb, hE, h4, h5, hj⟩
    have hkm : k < (l.map fun x => if sec then x else (x.2, x.1)).length := by rw [List.length_map]; exact hk
    have hpl : ((l.map fun x => if sec then x else (x.2, x.1)).take k).length = k := by rw [List.length_take]; omega
    have HT := Lib.hid (List.take_succ_eq_append_getElem hkm)
    have hge : (l.map fun x => if sec then x else (x.2, x.1))[k] = if sec then l[k] else (l[k].2, l[k].1) := List.getElem_map _
    rw [hge] at HT
    clear hge hkm
    generalize l.map (fun x => if sec then x else (x.2, x.1)) = ml at *
    generalize l[k] = x at *
    obtain ⟨x1, x2⟩ := x
    dsimp only at HT ⊢
    have hk16 : (k : Int) ≤ 16777216 := by omega
    have c4 := (h4.below (below_alloc W (.cells #[.int .i64 x1, .int .i64 x2] 50))).cell
    have HJ := Lib.hid hj
    have HF0 := Lib.hid hf
    have HB0 := Lib.hid hb
    have HE0 := Lib.hid hE
    have H4 := Lib.hid h4
    have H5 := Lib.hid h5
    clear hf hb hE h4 h5 hj
    cases sec
    · have hbx : Below W.heap.size W (W.alloc (.cells #[.int .i64 x2, .int .i64 x1] 50)) := below_alloc W _
      have hxa : XAt (W.alloc (.cells #[.int .i64 x2, .int .i64 x1] 50)) W.heap.size x2 x1 := XAt.new W x2 x1
      have hsx : (W.alloc (.cells #[.int .i64 x2, .int .i64 x1] 50)).heap.size = W.heap.size + 1 := by simp
      obtain ⟨A, n, m, A', m', w2, hv, hrun, hv2, hbf', hch, hnc⟩ := bf_append' (HF0.out.below hbx HE0.out) (by have := HE0.out; omega) (by rw [hpl]; omega) x2 x1 27
      rw [hpl] at hrun hbf' hch hnc
      rw [hsx] at hrun
      have d0 := hxa.c0
      have d1 := hxa.c1
      have c1 := hv.cell
      have c2 := hv2.cell
      have c3 := hv2.free
      have h5' := ((H5.out.below hbx).chg hch (fun h => by omega))
      have h4' := ((H4.out.below hbx).chg hch (fun h => by omega))
      have c5 := h5'.cell
      have c7 : (w2.setCell ⟨w.heap.size + 1 + 1, 0, none⟩ (.slice A' (k + 1) m')).cell? ⟨w.heap.size + 1 + 1, 0, none⟩ = some (.slice A' (k + 1) m') := Bx1.cell (t := 27) (heap_setCell_same w2 (w.heap.size + 1 + 1) 0 _ 27 _ hv2)
      have hkf : KeepsFrom E.heap.size W (w2.setCell ⟨w.heap.size + 1 + 1, 0, none⟩ (.slice A' (k + 1) m')) := kf_nc (nc_trans (nc_below hbx) hnc) (Nat.le_trans hbx.size hch.size)
      have hkc : Kc (fun k => k = w.heap.size + 1 + 1 ∨ E.heap.size ≤ k) W (w2.setCell ⟨w.heap.size + 1 + 1, 0, none⟩ (.slice A' (k + 1) m')) := (Kc.of_below hbx).trans (Kc.of_chg hch)
      have hbb : Below w.heap.size w (w2.setCell ⟨w.heap.size + 1 + 1, 0, none⟩ (.slice A' (k + 1) m')) := (HB0.out.trans (hbx.mono HB0.out.size)).trans (hch.below (Nat.le_trans HB0.out.size hbx.size) (fun i hi => by omega))
      have hEE : E.heap.size ≤ (w2.setCell ⟨w.heap.size + 1 + 1, 0, none⟩ (.slice A' (k + 1) m')).heap.size := Nat.le_trans (Nat.le_trans HE0.out hbx.size) hch.size
      have hbf2 : Bf E.heap.size (w.heap.size + 1 + 1) (ml.take (k + 1)) (w2.setCell ⟨w.heap.size + 1 + 1, 0, none⟩ (.slice A' (k + 1) m')) := by rw [HT.out]; exact hbf'
      have HALL := Lib.hid (And.intro hkf (And.intro hkc (And.intro hbf2 (And.intro hbb (And.intro hEE (And.intro h4' h5'))))))
      have HRUN := Lib.hid hrun
      clear hse hbx hxa hv hrun hv2 hbf' hch hnc h5' h4' hkf hkc hbb hEE hbf2
      by_cases hge : most ≤ (k : Int) + 1
      · have hd : decide (most ≤ (k : Int) + 1) = true := decide_eq_true hge
        gi_wp2_with (gi_at_builtin; refine wpListIn_append_run rfl (.tmp 22) (.tmp 24) 27 27 rfl _ _ _ w2 rfl rfl HRUN.out ?_)
        obtain ⟨q1, q2, q3, q4, q5, q6, q7⟩ := HALL.out
        have hjj : ∀ j : Nat, 1 ≤ j → j < k + 1 → (j : Int) < most := fun j h1 h2 => HJ.out j h1 (by omega)
        first
          | exact ⟨q1, rfl, q3, q4, q5, by omega, by omega, hjj⟩
          | exact ⟨q1, rfl, q3, q4, q5, by omega, hjj⟩
          | exact ⟨q1, rfl, q3, q4, q5, hjj⟩
      · have hd : decide (most ≤ (k : Int) + 1) = false := decide_eq_false hge
        gi_wp2_with (gi_at_builtin; refine wpListIn_append_run rfl (.tmp 22) (.tmp 24) 27 27 rfl _ _ _ w2 rfl rfl HRUN.out ?_)
        obtain ⟨q1, q2, q3, q4, q5, q6, q7⟩ := HALL.out
        exact ⟨q1, q2, q3, q4, q5, q6, q7, fun j h1 h2 => by
          rcases Nat.lt_or_ge j (k + 1) with h | h
          · exact HJ.out j h1 (by omega)
          · omega⟩
    · have hbx : Below W.heap.size W (W.alloc (.cells #[.int .i64 x1, .int .i64 x2] 50)) := below_alloc W _
      have hxa : XAt (W.alloc (.cells #[.int .i64 x1, .int .i64 x2] 50)) W.heap.size x1 x2 := XAt.new W x1 x2
      have hsx : (W.alloc (.cells #[.int .i64 x1, .int .i64 x2] 50)).heap.size = W.heap.size + 1 := by simp
      obtain ⟨A, n, m, A', m', w2, hv, hrun, hv2, hbf', hch, hnc⟩ := bf_append' (HF0.out.below hbx HE0.out) (by have := HE0.out; omega) (by rw [hpl]; omega) x1 x2 27
      rw [hpl] at hrun hbf' hch hnc
      rw [hsx] at hrun
      have d0 := hxa.c0
      have d1 := hxa.c1
      have c1 := hv.cell
      have c2 := hv2.cell
      have c3 := hv2.free
      have h5' := ((H5.out.below hbx).chg hch (fun h => by omega))
      have h4' := ((H4.out.below hbx).chg hch (fun h => by omega))
      have c5 := h5'.cell
      have c7 : (w2.setCell ⟨w.heap.size + 1 + 1, 0, none⟩ (.slice A' (k + 1) m')).cell? ⟨w.heap.size + 1 + 1, 0, none⟩ = some (.slice A' (k + 1) m') := Bx1.cell (t := 27) (heap_setCell_same w2 (w.heap.size + 1 + 1) 0 _ 27 _ hv2)
      have hkf : KeepsFrom E.heap.size W (w2.setCell ⟨w.heap.size + 1 + 1, 0, none⟩ (.slice A' (k + 1) m')) := kf_nc (nc_trans (nc_below hbx) hnc) (Nat.le_trans hbx.size hch.size)
      have hkc : Kc (fun k => k = w.heap.size + 1 + 1 ∨ E.heap.size ≤ k) W (w2.setCell ⟨w.heap.size + 1 + 1, 0, none⟩ (.slice A' (k + 1) m')) := (Kc.of_below hbx).trans (Kc.of_chg hch)
      have hbb : Below w.heap.size w (w2.setCell ⟨w.heap.size + 1 + 1, 0, none⟩ (.slice A' (k + 1) m')) := (HB0.out.trans (hbx.mono HB0.out.size)).trans (hch.below (Nat.le_trans HB0.out.size hbx.size) (fun i hi => by omega))
      have hEE : E.heap.size ≤ (w2.setCell ⟨w.heap.size + 1 + 1, 0, none⟩ (.slice A' (k + 1) m')).heap.size := Nat.le_trans (Nat.le_trans HE0.out hbx.size) hch.size
      have hbf2 : Bf E.heap.size (w.heap.size + 1 + 1) (ml.take (k + 1)) (w2.setCell ⟨w.heap.size + 1 + 1, 0, none⟩ (.slice A' (k + 1) m')) := by rw [HT.out]; exact hbf'
      have HALL := Lib.hid (And.intro hkf (And.intro hkc (And.intro hbf2 (And.intro hbb (And.intro hEE (And.intro h4' h5'))))))
      have HRUN := Lib.hid hrun
      clear hse hbx hxa hv hrun hv2 hbf' hch hnc h5' h4' hkf hkc hbb hEE hbf2
      by_cases hge : most ≤ (k : Int) + 1
      · have hd : decide (most ≤ (k : Int) + 1) = true := decide_eq_true hge
        gi_wp2_with (gi_at_builtin; refine wpListIn_append_run rfl (.tmp 22) (.tmp 24) 27 27 rfl _ _ _ w2 rfl rfl HRUN.out ?_)
        obtain ⟨q1, q2, q3, q4, q5, q6, q7⟩ := HALL.out
        have hjj : ∀ j : Nat, 1 ≤ j → j < k + 1 → (j : Int) < most := fun j h1 h2 => HJ.out j h1 (by omega)
        first
          | exact ⟨q1, rfl, q3, q4, q5, by omega, by omega, hjj⟩
          | exact ⟨q1, rfl, q3, q4, q5, by omega, hjj⟩
          | exact ⟨q1, rfl, q3, q4, q5, hjj⟩
      · have hd : decide (most ≤ (k : Int) + 1) = false := decide_eq_false hge
        gi_wp2_with (gi_at_builtin; refine wpListIn_append_run rfl (.tmp 22) (.tmp 24) 27 27 rfl _ _ _ w2 rfl rfl HRUN.out ?_)
        obtain ⟨q1, q2, q3, q4, q5, q6, q7⟩ := HALL.out
        exact ⟨q1, q2, q3, q4, q5, q6, q7, fun j h1 h2 => by
          rcases Nat.lt_or_ge j (k + 1) with h | h
          · exact HJ.out j h1 (by omega)
          · omega⟩
  case done =>
    rintro D W hD ⟨hf, hb, hE, h4, h5, hj⟩ hd
    rw [List.take_of_length_le (by simp), ← rdl_all hj] at hf
    obtain ⟨A, m, h1, h2, h3⟩ := bf_ent hf
    have c1 := h1.cell
    have HF := Lib.hid (show LisP w (rdl sec most l) (.returned (.slice A (rdl sec most l).length m)) (W.putObj D (.deferred none)) from ⟨_, rfl, ent_put h2 hd rfl, fun b hb => by have := h3 b hb; omega, below_put hb (by omega)⟩)
    clear hf hb h1 h2 h3 h4 h5 hj
    generalize (rdl sec most l).length = nn at *
    gi_wp2
    refine ⟨by simp, .inl ⟨_, _, rfl, run_takeDeferred hd, ?_⟩⟩
    refine ⟨_, results_tmp rfl _ _ _, ?_⟩
    show LisP w (rdl sec most l) (.returned (.slice A nn m)) _
    exact HF.out
  case stop =>
    rintro D c k W hD hk ⟨rfl, hf, hb, hE, hk1, hk2, hj⟩ hd
    rw [← rdl_some hk1 hk2 hj] at hf
    obtain ⟨A, m, h1, h2, h3⟩ := bf_ent hf
    have c1 := h1.cell
    have HF := Lib.hid (show LisP w (rdl sec most l) (.returned (.slice A (rdl sec most l).length m)) (W.putObj D (.deferred none)) from ⟨_, rfl, ent_put h2 hd rfl, fun b hb => by have := h3 b hb; omega, below_put hb (by omega)⟩)
    clear hf hb h1 h2 h3 hj
    generalize (rdl sec most l).length = nn at *
    gi_wp2
    refine ⟨by simp, .inl ⟨_, _, rfl, run_takeDeferred hd, ?_⟩⟩
    refine ⟨_, results_tmp rfl _ _ _, ?_⟩
    show LisP w (rdl sec most l) (.returned (.slice A nn m)) _
    exact HF.out
end Go.Proofs.Yteiemegkdnjpgaa
