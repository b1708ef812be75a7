/- Marks that loops over functions leave; the contract of restore. Conditions stand in each theorem. -/
import Derived.Test.YteiemegkdnjpgaaF
namespace Go.Proofs.Yteiemegkdnjpgaa
open Go.RowKit Go.Shelf
attribute [local go_sem] Oper.semAt_some
set_option linter.unusedVariables false
set_option maxHeartbeats 2000000
set_option maxRecDepth 100000
/-- The mark of a loop over a function, whose block is D. -/
def mrk (D : Nat) : Deferred := { target := .collected D, args := #[] }
/-- The blocks of the marks: new ones, each open and empty. -/
def Marks (n0 : Nat) (Ds : List Nat) (W : World) : Prop := Ds.Nodup ∧ ∀ D ∈ Ds, n0 ≤ D ∧ W.heap[D]? = some (.deferred (some []))
theorem Marks.nil (n0 : Nat) (W : World) : Marks n0 [] W := ⟨List.nodup_nil, fun D h => by cases h⟩
theorem Marks.lt {n0 : Nat} {Ds : List Nat} {W : World} (h : Marks n0 Ds W) {D : Nat} (hD : D ∈ Ds) : D < W.heap.size := (Array.getElem?_eq_some_iff.1 (h.2 D hD).2).1
theorem Marks.keep {n0 : Nat} {Ds : List Nat} {W W' : World} (h : Marks n0 Ds W) (hk : ∀ D ∈ Ds, W'.heap[D]? = W.heap[D]?) : Marks n0 Ds W' := ⟨h.1, fun D hD => ⟨(h.2 D hD).1, (hk D hD).trans (h.2 D hD).2⟩⟩
theorem Marks.below {n0 : Nat} {Ds : List Nat} {W W' : World} (h : Marks n0 Ds W) (hb : Below W.heap.size W W') : Marks n0 Ds W' := h.keep fun D hD => hb.block D (h.lt hD)
theorem Marks.chg {n0 : Nat} {Ds : List Nat} {W W' : World} {S : Nat → Prop} (h : Marks n0 Ds W) (hc : Chg S W W') (hS : ∀ k, S k → ∀ o, W.heap[k]? = some o → o.isCells = true) : Marks n0 Ds W' := h.keep fun D hD => hc.block D (h.lt hD) fun hs => by
  have := hS D hs _ (h.2 D hD).2
  cases this
theorem Marks.cons {n0 n1 : Nat} {Ds : List Nat} {W : World} {D : Nat} (h : Marks n0 Ds W) (hn : n0 ≤ n1) (hD : n1 ≤ D) (hlt : ∀ k ∈ Ds, k < n1) (hd : W.heap[D]? = some (.deferred (some []))) : Marks n0 (D :: Ds) W :=
  ⟨List.nodup_cons.2 ⟨fun hm => by have := hlt D hm; omega, h.1⟩, fun k hk => by
    rcases List.mem_cons.1 hk with rfl | hk
    · exact ⟨by omega, hd⟩
    · exact h.2 k hk⟩
theorem own_marks {β : Type} {n0 B : Nat} {Ds : List Nat} (hB : ∀ D ∈ Ds, D < B) : OwnFrom B (fun (_ : β) W => Marks n0 Ds W) := fun k X Y row hs hg hr =>
  hs.keep fun D hD => hg.block D (hs.lt hD) fun e => by have := (hr D e.symm).1; have := hB D hD; omega
/-- The world in which the marks' blocks are shut. -/
theorem leaves_marks {n n0 : Nat} {P : Program} {fn : Func} {tmps : Array Value} {R : Ending → World → Prop} : ∀ (Ds : List Nat) (W : World), Marks n0 Ds W →
    (∀ W', W'.heap.size = W.heap.size → W'.os = W.os → W'.tape = W.tape → W'.output = W.output → (∀ k, (n0 ≤ k → ∃ o, W.heap[k]? = some o ∧ o.isCells = true) → W'.heap[k]? = W.heap[k]?) → ∃ v, (results fn tmps).run P W' = .ok v W' ∧ R (.returned v) W') →
    LeavesInM Fence.wide n P fn tmps R (Ds.map mrk) .returning W
  | [], W, _, h => h W rfl rfl rfl rfl fun _ _ => rfl
  | D :: Ds, W, hm, h => by
    refine ⟨by simp, .inl ⟨D, _, rfl, run_takeDeferred (hm.2 D (by simp)).2, ?_⟩⟩
    have hnd := List.nodup_cons.1 hm.1
    refine leaves_marks (n0 := n0) Ds _ ⟨hnd.2, fun k hk => ⟨(hm.2 k (List.mem_cons_of_mem _ hk)).1, (World.putObj_heap_other (fun e => by subst e; exact hnd.1 hk)).trans (hm.2 k (List.mem_cons_of_mem _ hk)).2⟩⟩ fun W' h1 h2 h3 h4 h5 => h W' (by simpa using h1) h2 h3 h4 fun k hk => ?_
    have hkD : k ≠ D := by
      rintro rfl
      obtain ⟨o, ho, hc⟩ := hk (hm.2 k (by simp)).1
      rw [(hm.2 k (by simp)).2] at ho
      cases ho; cases hc
    exact (h5 k (fun hn => by
      obtain ⟨o, ho, hc⟩ := hk hn
      exact ⟨o, (World.putObj_heap_other hkD).trans ho, hc⟩)).trans (World.putObj_heap_other hkD)

theorem assign_any {w : World} {base bb m1 m2 g cap s b p : Nat} {L : List (Int × Int)} (h : Mg w base bb m1 m2 g cap s b p L) {q x : Int} (hr : reqE s b p L q x = 0) : Calls Try.prog 36 #[.pointer (some ⟨bb, 0, none⟩), .agg #[.int .i64 q, .int .i64 x]] w (AsgP w base bb m1 m2 g cap s b p (asg L q x)) := by
  cases hl : look L q with
  | none => exact assign_none h hr hl
  | some k => exact assign_some h hr hl
/-- What a round of restore starts with. -/
def ResAx (bb q0 : Nat) (l : List (Int × Int)) (v fv : Value) (r : Nat) (a' : Act) (W : World) : Prop :=
  ∃ (hr : r < l.length) (q : Nat), XAt W q l[l.length - 1 - r].1 l[l.length - 1 - r].2 ∧
    a' = { tmps := #[.pointer (some ⟨bb, 0, none⟩), v, .pointer (some ⟨q0, 0, none⟩), undef, undef, .pointer (some ⟨q, 0, none⟩), v, fv, .int .i64 ((l.length - 1 - r : Nat) : Int), .agg #[.int .i64 l[l.length - 1 - r].1, .int .i64 l[l.length - 1 - r].2], undef, undef, undef], defers := [] }
theorem own_resAx (bb q0 : Nat) (l : List (Int × Int)) (v fv : Value) (r : Nat) (a' : Act) (B : Nat) : OwnFrom B (fun (_ : Unit) W => ResAx bb q0 l v fv r a' W) := fun _ X Y row hs hg hr => by
  obtain ⟨hk, q, h1, h2⟩ := hs
  refine ⟨hk, q, (hg.block q (Array.getElem?_eq_some_iff.1 h1).1 (fun e => ?_)).trans h1, h2⟩
  obtain ⟨o, ho, hc⟩ := (hr q e.symm).2
  rw [show X.heap[q]? = _ from h1] at ho; cases ho; cases hc
/-- What restore leaves. -/
def ResP (w : World) (base bb m1 m2 g cap s b p : Nat) (L : List (Int × Int)) (e : Ending) (w' : World) : Prop := e = .returned (.tuple #[]) ∧ Mg w' base bb m1 m2 g cap s b p L ∧ Chg (Ft m1 m2 g) w w'
theorem mg_put {W : World} {base bb m1 m2 g cap s b p D : Nat} {L : List (Int × Int)} {o : Obj} (h : Mg W base bb m1 m2 g cap s b p L) (hD : m1 < D ∧ m2 < D) (hd : W.heap[D]? = some (.deferred (some []))) : Mg (W.putObj D o) base bb m1 m2 g cap s b p L := by
  have hc : ∀ t, t ≠ D → (W.putObj D o).heap[t]? = W.heap[t]? := fun t ht => World.putObj_heap_other ht
  have hb : bb ≠ D := by rintro rfl; have := h.blk; rw [hd] at this; cases this
  have hg : g ≠ D := by
    rintro rfl
    obtain ⟨cur, h1, _⟩ := h.row
    rw [hd] at h1; cases h1
  refine h.keep (hc _ hb) fun t ht => ?_
  rcases ht with rfl | rfl | rfl
  · exact hc _ (by omega)
  · exact hc _ (by omega)
  · exact hc _ hg
theorem chg_put {S : Nat → Prop} {w W : World} {D : Nat} {o : Obj} (h : Chg S w W) (hD : w.heap.size ≤ D) : Chg S w (W.putObj D o) :=
  ⟨h.os, h.tape, h.output, by simpa using h.size, fun k hk hn => (World.putObj_heap_other (by omega)).trans (h.block k hk hn)⟩
set_option maxHeartbeats 4000000 in
theorem restore_any {w : World} {base bb m1 m2 g cap s b p : Nat} {l : List (Int × Int)} {v : Value} (Ls : Nat → List (Int × Int)) (h : Mg w base bb m1 m2 g cap s b p (Ls l.length)) (hl : l.length ≤ 4096) (hv : Ent w v l) (hvg : ∀ k, v.ownBlock = some k → k ≠ g)
    (hs : ∀ k (hk : k < l.length), reqE s b p (Ls (k + 1)) l[k].1 l[k].2 = 0 ∧ asg (Ls (k + 1)) l[k].1 l[k].2 = Ls k) : Calls Try.prog 33 #[.pointer (some ⟨bb, 0, none⟩), v] w (ResP w base bb m1 m2 g cap s b p (Ls 0)) := by
  obtain ⟨A, c, rfl, _⟩ := hv.form
  have b1 := below_alloc w (.cells #[.pointer (some ⟨bb, 0, none⟩)] 23)
  have b2 : Below w.heap.size w ((w.alloc (.cells #[.pointer (some ⟨bb, 0, none⟩)] 23)).alloc (.cells #[.slice A l.length c] 27)) := b1.alloc (by simp) _
  have x1 : Bx1 ((w.alloc (.cells #[.pointer (some ⟨bb, 0, none⟩)] 23)).alloc (.cells #[.slice A l.length c] 27)) w.heap.size 23 (.pointer (some ⟨bb, 0, none⟩)) := (Bx1.new w 23 _).below (below_alloc _ _)
  have x2 : Bx1 ((w.alloc (.cells #[.pointer (some ⟨bb, 0, none⟩)] 23)).alloc (.cells #[.slice A l.length c] 27)) (w.heap.size + 1) 27 (.slice A l.length c) := by
    have := Bx1.new (w.alloc (.cells #[.pointer (some ⟨bb, 0, none⟩)] 23)) 27 (.slice A l.length c)
    rwa [World.size_alloc] at this
  have hse : ((w.alloc (.cells #[.pointer (some ⟨bb, 0, none⟩)] 23)).alloc (.cells #[.slice A l.length c] 27)).heap.size = w.heap.size + 2 := by simp
  have hM1 := h.map1.lt
  have hM2 := h.map2.lt
  have hG := h.row.lt
  have HM := Lib.hid (h.below b2)
  have HC := Lib.hid (Chg.of_below (S := Ft m1 m2 g) b2)
  have HV := Lib.hid (hv.below b2)
  have HVG := Lib.hid hvg
  have HS := Lib.hid hs
  have HX1 := Lib.hid x1
  have HX2 := Lib.hid x2
  have HSE := Lib.hid hse
  have HBW := Lib.hid (Backward_any A l.length c (w.alloc (.cells #[.pointer (some ⟨bb, 0, none⟩)] 23)))
  have HL := Lib.hid hl
  clear h hv hvg hs x1 x2 b1 b2 hse hl
  refine (callsIn_wide (n := 9)).1 ?_
  have f46 : Fence.wide.fn 46 := trivial
  have f36 : Fence.wide.fn 36 := trivial
  refine callsIn_of_wp_marks Try.func33 rfl trivial ?_ rfl
  simp only [Try.ntmps33, List.size_toArray, List.length_cons, List.length_nil, Nat.reduceAdd, Nat.reduceSub, Array.replicate_succ, Array.replicate_zero, List.push_toArray, List.append_toArray, List.nil_append, List.cons_append]
  gi_wp2_with (gi_at_call 46; refine (callsIn_wide.2 HBW.out).mono ?_; rintro e w' ⟨rfl, rfl⟩)
  generalize (w.alloc (.cells #[.pointer (some ⟨bb, 0, none⟩)] 23)).alloc (.cells #[.slice A l.length c] 27) = E at *
  refine range_list (gf := 54) rfl (enters_of Try.func54 (by kernel_rfl) rfl) (bw_yields (· = g) _ _ _ l E HL.out HVG.out (by have := HSE.out; simp; omega) HX2.out HV.out) (Below.refl _ _) (fun _ => rfl)
    (fun k W => Mg W base bb m1 m2 g cap s b p (Ls (l.length - k)) ∧ Chg (Ft m1 m2 g) w W ∧ Bx1 W w.heap.size 23 (.pointer (some ⟨bb, 0, none⟩))) (fun _ _ _ => False)
    (fun k X Y row hs hg hr => ⟨own_mg (by have := HSE.out; omega) () X Y row hs.1 hg hr, own_chg (by have := HSE.out; omega) () X Y row hs.2.1 hg hr, own_bx _ () X Y row hs.2.2 hg hr⟩)
    (fun c k X Y row hs hg hr => hs) ⟨HM.out, HC.out, HX1.out⟩
    (ResAx bb w.heap.size l (.slice A l.length c) (.func (.func 54) #[] #[.pointer (some ⟨w.heap.size + 1, 0, none⟩)])) (fun k a' => own_resAx _ _ _ _ _ _ _ _) ?assign ?body ?done ?stop
  case assign =>
    intro l' k hk W K ⟨hm, hc, hx⟩ hK
    rw [bwl_length] at hk
    rw [bwl_at hk]
    have hb := below_alloc W (.cells #[.int .i64 l[l.length - 1 - k].1, .int .i64 l[l.length - 1 - k].2] 50)
    have hfin := hK _ (W.alloc (.cells #[.int .i64 l[l.length - 1 - k].1, .int .i64 l[l.length - 1 - k].2] 50)) ((KeepsOthers.alloc _ _).from _) (Kc.of_below hb) ⟨hm.below hb, hc.then_below hb, hx.below hb⟩ ⟨hk, W.heap.size, heap_alloc_new W _, rfl⟩
    have HF := Lib.hid hfin
    clear hK hfin
    generalize l[l.length - 1 - k] = x at *
    generalize l.length - 1 - k = kk at *
    dsimp only [ev]
    gi_wp2
    exact HF.out
  case body =>
    rintro l' k hk a' W hl' ⟨hm, hc, hx⟩ ⟨hk', q, hxq, rfl⟩
    obtain ⟨h1, h2⟩ := HS.out (l.length - 1 - k) (by omega)
    rw [show l.length - 1 - k + 1 = l.length - k by omega] at h1 h2
    have c1 := hx.cell
    have c2 := hxq.c0
    have c3 := hxq.c1
    have ha := assign_any hm h1
    have e9 : Ls (l.length - 1 - k) = Ls (l.length - (k + 1)) := by congr 1; omega
    rw [h2, e9] at ha
    have HAS := Lib.hid ha
    have HCC := Lib.hid hc
    have HXX := Lib.hid hx
    have HMM := Lib.hid hm
    clear ha h1 h2 hm hc hx hxq e9
    generalize l[l.length - 1 - k] = x at *
    generalize l.length - 1 - k = kk at *
    gi_wp2_with (gi_at_call 36; refine (CallsIn.inRound l' (callsIn_wide.2 HAS.out)).mono ?_; rintro e w' ⟨rfl, hm', hc'⟩)
    have hsz := HSE.out
    have hfl : ∀ k, Ft m1 m2 g k → k < w.heap.size := fun k hk => by rcases hk with rfl | rfl | rfl <;> omega
    refine ⟨⟨hc'.size, fun t o hE ht _ => ?_⟩, ⟨hc'.size, fun t o ht hc hS => ?_⟩, hm', HCC.out.also hc', HXX.out.chg hc' (fun hf => by have := hfl _ hf; omega)⟩
    · exact (hc'.block t (Array.getElem?_eq_some_iff.1 ht).1 (fun hf => by have := hfl _ hf; omega)).trans ht
    · refine (hc'.block t (Array.getElem?_eq_some_iff.1 ht).1 (fun hf => ?_)).trans ht
      rcases hf with rfl | rfl | rfl
      · obtain ⟨es, cl, hb⟩ := HMM.out.map1.isMap
        rw [hb] at ht; cases ht; cases hc
      · obtain ⟨es, cl, hb⟩ := HMM.out.map2.isMap
        rw [hb] at ht; cases ht; cases hc
      · exact hS rfl
  case done =>
    rintro D W hD ⟨hm, hc, hx⟩ hd
    rw [bwl_length, Nat.sub_self] at hm
    have hsz := HSE.out
    have HF := Lib.hid (show ResP w base bb m1 m2 g cap s b p (Ls 0) (.returned (.tuple #[])) (W.putObj D (.deferred none)) from ⟨rfl, mg_put hm (by omega) hd, chg_put hc (by omega)⟩)
    clear hm hc hx
    gi_wp2
    refine ⟨by simp, .inl ⟨_, _, rfl, run_takeDeferred hd, ?_⟩⟩
    exact ⟨_, results_none rfl _ _ _, HF.out⟩
  case stop =>
    rintro D c k W _ _ hf
    exact hf.elim
end Go.Proofs.Yteiemegkdnjpgaa
