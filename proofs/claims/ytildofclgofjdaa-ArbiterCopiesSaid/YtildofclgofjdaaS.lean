/- The contract of Copy. Conditions stand in each theorem. -/
import Derived.Test.YtildofclgofjdaaR
namespace Go.Proofs.Ytildofclgofjdaa
open Go.RowKit Go.Shelf
attribute [local go_sem] Oper.semAt_some
set_option linter.unusedVariables false
set_option maxHeartbeats 400000
set_option maxRecDepth 100000
/-- Block m is a map of at most n entries that holds f. -/
def MpF (w : World) (m n : Nat) (f : Int → Option Int) : Prop :=
  ∃ D : DataW Unit, w.ownsMap Try.prog 3 (plainElem Try.prog 39) m n D ∧
    ∀ q : Int, Maps.has D (.int .i64 q) = (f q).isSome ∧ D.atKey (.int .i64 q) (.lit (.int .i64 0)) = .lit (.int .i64 ((f q).getD 0))
theorem MpF.kept {w w' : World} {m n : Nat} {f : Int → Option Int} (h : MpF w m n f) (hb : w'.heap[m]? = w.heap[m]?) : MpF w' m n f := by
  obtain ⟨D, ⟨es, c, hm, r⟩, hq⟩ := h
  exact ⟨D, ⟨es, c, hb.trans hm, r⟩, hq⟩
theorem MpF.lt {w : World} {m n : Nat} {f : Int → Option Int} (h : MpF w m n f) : m < w.heap.size := by
  obtain ⟨D, h, _⟩ := h
  exact h.lt
def putF (f : Int → Option Int) (q c : Int) (q' : Int) : Option Int := if q = q' then some c else f q'
theorem MpF.put {w : World} {m n : Nat} {f : Int → Option Int} (h : MpF w m n f) {q c : Int} (hq : I64 q) (hc : I64 c) (hl : n < maxLen) :
    ∃ w', (Instr.mapUpdate 68 (.map (some m)) (.int .i64 q) (.int .i64 c)).run Try.prog w = .ok () w' ∧ MpF w' m (n + 1) (putF f q c) ∧ w.grownBy w' (some m) := by
  obtain ⟨D, hown, hat⟩ := h
  obtain ⟨w', hrun, ho, hg⟩ := hown.update law Try.underlying68 hl (key_of hq) (plainElem_int Try.underlying39 (wf64 hc))
  refine ⟨w', hrun, ⟨_, ho, fun q' => ?_⟩, hg⟩
  unfold putF
  by_cases e : q = q'
  · subst e
    rw [if_pos rfl]
    exact ⟨Maps.has_put_same (k := .int .i64 q) hown.isMap trivial _, Maps.atKey_put_same (k := .int .i64 q) hown.isMap trivial _ _⟩
  · rw [if_neg e]
    have hne : (Lit.int .i64 q') ≠ .int .i64 q := by simp; omega
    exact ⟨(Maps.has_put_other hne _).trans (hat q').1, (Maps.atKey_put_other hne _ _).trans (hat q').2⟩
def foldF (l : List QC) : Int → Option Int := l.foldl (fun f x => putF f x.1.1 x.1.2) (fun _ => none)
theorem foldF_snoc (l : List QC) (x : QC) : foldF (l ++ [x]) = putF (foldF l) x.1.1 x.1.2 := by unfold foldF; rw [List.foldl_append]; rfl
theorem fold_aux : ∀ (l : List QC) (f0 : Int → Option Int) (q : Int), (l.map (·.1)).Pairwise (fun p q => p.1 < q.1) → l.foldl (fun f x => putF f x.1.1 x.1.2) f0 q = (look (l.map (·.1)) q).or (f0 q)
  | [], f0, q, _ => by simp [look_nil]
  | x :: r, f0, q, h => by
    rw [List.map_cons] at h ⊢
    have h1 := List.pairwise_cons.1 h
    rw [List.foldl_cons, fold_aux r _ q h1.2, look_cons]
    by_cases e : x.1.1 = q
    · rw [if_pos e]
      have : look (r.map (·.1)) q = none := look_none.2 fun p hp => by have := h1.1 p hp; omega
      rw [this]
      simp [putF, e]
    · rw [if_neg e]
      simp [putF, e]
theorem foldF_look {l : List QC} {L : List (Int × Int)} (h : l.map (·.1) = L) (hs : Srt L) : foldF l = look L := by
  funext q
  subst h
  unfold foldF
  rw [fold_aux l _ q hs.1]
  cases look (l.map (·.1)) q <;> rfl
/-- The cells of an arbiter in the state s with the map m. -/
def cellsOf (s : St) (m : Nat) : Array Value := #[.bool s.wt, .int .i64 s.bu, .int .i64 s.hi, .int .i64 s.me, .int .i64 s.lo, .map (some m), .int .i64 (s.last 0), .int .i64 (s.last 1), .int .i64 (s.last 2), .int .i64 (s.last 3), .int .i64 (s.cr 0), .int .i64 (s.cr 1), .int .i64 (s.cr 2), .int .i64 (s.cr 3)]
/-- Between two rounds of Copy. -/
def CpI (w : World) (s : St) (N : Nat) (pre : List QC) (W : World) : Prop := N ≤ W.heap.size ∧ W.heap[w.heap.size]? = some (.cells (cellsOf s (w.heap.size + 1)) 70 (0, 0)) ∧ MpF W (w.heap.size + 1) pre.length (foldF pre) ∧ Below w.heap.size w W
theorem CpI.own (w : World) (s : St) (N B : Nat) (hB : w.heap.size + 2 ≤ B) : OwnFrom B (CpI w s N) := fun pre W W' row ⟨h0, h1, h2, h3⟩ hg hr => by
  have hne : ∀ k, k < w.heap.size + 2 → some k ≠ row := fun k hk e => by have := (hr k e.symm).1; omega
  have l1 := (Array.getElem?_eq_some_iff.1 h1).1
  exact ⟨Nat.le_trans h0 hg.size, (hg.block _ l1 (hne _ (by omega))).trans h1, h2.kept (hg.block _ h2.lt (hne _ (by omega))), h3.grown hg h3.size (fun k e => by have := (hr k e).1; omega)⟩
def CpPost (w : World) (s : St) (e : Ending) (w' : World) : Prop := ∃ b m, e = .returned (.pointer (some ⟨b, 0, none⟩)) ∧ Arb w' b m s ∧ w.heap.size ≤ b ∧ w.heap.size ≤ m ∧ Below w.heap.size w w'
set_option maxHeartbeats 2000000 in
theorem Copy_any (b m : Nat) (s : St) (w : World) (h : Arb w b m s) (hs : Srt s.L) : Calls Try.prog 22 #[.pointer (some ⟨b, 0, none⟩)] w (CpPost w s) := by
  refine (callsIn_wide (n := 9)).1 ?_
  have hmm := @run_makeMap Try.prog
  have k0 := h.cWt
  have k1 := h.cBu
  have k2 := h.cHi
  have k3 := h.cMe
  have k4 := h.cLo
  have k5 := h.cMap
  have l0 := h.cLast 0 (by decide)
  have l1 := h.cLast 1 (by decide)
  have l2 := h.cLast 2 (by decide)
  have l3 := h.cLast 3 (by decide)
  have r0 := h.cCr 0 (by decide)
  have r1 := h.cCr 1 (by decide)
  have r2 := h.cCr 2 (by decide)
  have r3 := h.cCr 3 (by decide)
  simp only [Nat.reduceAdd] at l0 l1 l2 l3 r0 r1 r2 r3
  have hbl := h.lt
  have H := Lib.hid h
  have HS := Lib.hid hs
  clear h hs
  have f20 : Fence.wide.fn 20 := trivial
  have f30 : Fence.wide.fn 30 := trivial
  have HQ := Lib.hid (fun W (hW : Below w.heap.size w W) => Queues_any b m s W (H.out.below hW) HS.out)
  refine callsIn_of_wp_marks Try.func22 rfl trivial ?_ rfl
  simp only [Try.ntmps22, List.size_toArray, List.length_cons, List.length_nil, Nat.reduceAdd, Nat.reduceSub, Array.replicate_succ, Array.replicate_zero, List.push_toArray, List.append_toArray, List.nil_append, List.cons_append]
  gi_wp2_with (gi_at_call 30; refine (callsIn_wide.2 (missing_not _ m _ k5)).mono ?_; rintro e w' ⟨rfl, rfl⟩)
  have hblk : ((w.alloc (.cells (cellsOf s (w.heap.size + 1)) 70)).alloc (.map #[] 0)).heap[w.heap.size]? = some (.cells (cellsOf s (w.heap.size + 1)) 70 (0, 0)) := (Below.heap_alloc _ _ _ (by simp)).trans (heap_alloc_new w _)
  have hmp : MpF ((w.alloc (.cells (cellsOf s (w.heap.size + 1)) 70)).alloc (.map #[] 0)) (w.heap.size + 1) 0 (fun _ => none) := by
    have := World.ownsMap_made (w.alloc (.cells (cellsOf s (w.heap.size + 1)) 70)) Try.prog 3 (plainElem (H := Unit) Try.prog 39)
    rw [World.size_alloc] at this
    exact ⟨_, this, fun q => ⟨rfl, rfl⟩⟩
  have hsz : ((w.alloc (.cells (cellsOf s (w.heap.size + 1)) 70)).alloc (.map #[] 0)).heap.size = w.heap.size + 2 := by simp
  have hb2 : Below w.heap.size w ((w.alloc (.cells (cellsOf s (w.heap.size + 1)) 70)).alloc (.map #[] 0)) := ((Below.refl _ w).alloc (Nat.le_refl _) _).alloc (by simp) _
  have hq := HQ.out _ hb2
  unfold cellsOf at hblk hmp hsz hb2 hq
  generalize ((w.alloc (.cells #[.bool s.wt, .int .i64 s.bu, .int .i64 s.hi, .int .i64 s.me, .int .i64 s.lo, .map (some (w.heap.size + 1)), .int .i64 (s.last 0), .int .i64 (s.last 1), .int .i64 (s.last 2), .int .i64 (s.last 3), .int .i64 (s.cr 0), .int .i64 (s.cr 1), .int .i64 (s.cr 2), .int .i64 (s.cr 3)] 70)).alloc (.map #[] 0)) = w2 at *
  refine (callsIn_wide.2 hq).mono ?_
  rintro e w3 ⟨B4, B3, rfl, hIt, hB3⟩
  have HIT := Lib.hid hIt
  have HB3 := Lib.hid hB3
  have HK := Lib.hid hblk
  have HMP := Lib.hid hmp
  have HB2 := Lib.hid hb2
  have HSZ := Lib.hid hsz
  clear hIt hB3 hblk hmp hb2 hsz hq HQ
  gi_wp2
  have hs3 : w.heap.size + 2 ≤ w3.heap.size := by have := HB3.out.size; rw [HSZ.out] at this; exact this
  have hI0 : CpI w s w3.heap.size [] w3 := ⟨Nat.le_refl _, (HB3.out.block _ (by rw [HSZ.out]; omega)).trans HK.out, HMP.out.kept (HB3.out.block _ (by rw [HSZ.out]; omega)), HB2.out.trans (HB3.out.mono (by rw [HSZ.out]; omega))⟩
  have hIt2 : It w2.heap.size w3.heap.size w3 B4 B3 s.L := HIT.out
  have hlo : w2.heap.size = w.heap.size + 2 := HSZ.out
  have hlen := HS.out.len
  refine wpIn_rangeFunc_ownG rfl (by omega) (gf := 43) (lb := #[.pointer (some ⟨B4, 0, none⟩), .pointer (some ⟨B3, 0, none⟩)]) rfl trivial (enters_of Try.func43 (by kernel_rfl) rfl)
    (iter_stops 8 (by omega) B4 B3 w2.heap.size w3.heap.size s.L w3 hIt2 (Nat.le_refl _)) Kpt.trans (fun W l o o' hl hw ho _ k _ hk => World.putObj_heap_other (by omega)) (Below.refl _ _) (fun _ => rfl)
    (CpI w s w3.heap.size) (fun _ _ _ => False) (CpI.own w s _ _ hs3) (fun _ _ _ _ _ hs _ _ => hs) hI0
    (fun x => { tmps := #[.pointer (some ⟨b, 0, none⟩), undef, .pointer none, .pointer (some ⟨w.heap.size, 0, none⟩), .int .i64 x.1.1, .int .i64 x.1.2, .pointer (some ⟨b, 0, none⟩), .bool false, .pointer (some ⟨b, 0, none⟩), .pointer (some ⟨b, 0, none⟩), .agg (cellsOf s m), .map (some (w.heap.size + 1)), .pointer (some ⟨w.heap.size, 5, none⟩), .pointer (some ⟨b, 0, none⟩), .func (.func 43) #[] #[.pointer (some ⟨B4, 0, none⟩), .pointer (some ⟨B3, 0, none⟩)], .int .i64 x.1.1, .int .i64 x.1.2, undef, undef, undef, undef], defers := [] }) ?assign ?body ?done ?stop
  case assign =>
    intro l x W K hK
    gi_wp2
    exact hK
  case body =>
    rintro l pre x W ⟨hN, h1, h2, h3⟩ hlt
    have c5 : W.cell? ⟨w.heap.size, 5, none⟩ = some (.map (some (w.heap.size + 1))) := (cell_of_row W w.heap.size 5 _ 70 (0, 0) h1).trans rfl
    obtain ⟨w4, hrun, hm4, hg4⟩ := h2.put x.2.1 x.2.2 (by unfold maxLen; omega)
    have H1 := Lib.hid h1
    have H2 := Lib.hid h2
    have H3 := Lib.hid h3
    have HM4 := Lib.hid hm4
    have HG4 := Lib.hid hg4
    clear h1 h2 h3 hm4 hg4
    gi_wp2
    have l1 := (Array.getElem?_eq_some_iff.1 H1.out).1
    refine ⟨KeepsFrom.of_grownBy HG4.out (fun j e => by cases e; omega), fun k hk1 hk2 => HG4.out.block k (by omega) (fun e => by injection e with e; omega), Nat.le_trans hN HG4.out.size, (HG4.out.block _ l1 (fun e => by injection e with e; omega)).trans H1.out, by rw [foldF_snoc, List.length_append]; exact HM4.out, H3.out.grown HG4.out H3.out.size (fun k e => by cases e; omega)⟩
  case done =>
    rintro D ys W hD hS ⟨hN, h1, h2, h3⟩ hK
    have H1 := Lib.hid h1
    have H2 := Lib.hid h2
    have H3 := Lib.hid h3
    clear h1 h2 h3
    gi_wp2
    refine ⟨by simp, .inl ⟨_, _, rfl, run_takeDeferred hK, ?_⟩⟩
    have hne : ∀ k, k < w.heap.size + 2 → (W.putObj D (.deferred none)).heap[k]? = W.heap[k]? := fun k hk => World.putObj_heap_other (by omega)
    refine ⟨_, results_tmp rfl _ _ _, w.heap.size, w.heap.size + 1, rfl, ⟨(hne _ (by omega)).trans H1.out, ?_⟩, Nat.le_refl _, by omega, ?_⟩
    · have h2 := H2.out
      rw [foldF_look hS HS.out, show ys.length = s.L.length by rw [← hS]; simp] at h2
      exact h2.kept (hne _ (by omega))
    · exact H3.out.trans (belowK_b (w := w) (Nat.le_refl _) W D _ _ (by omega) hK rfl rfl)
  case stop =>
    rintro D c pre W _ _ h _
    exact h.elim
end Go.Proofs.Ytildofclgofjdaa
