/- What the iterator of Blocks needs; the state of PoolCopies. Conditions stand in each theorem. -/
import Derived.Test.YtpojgjbgbbnojaaVT
namespace Go.Proofs.Ytpojgjbgbbnojaa
open Go.RowKit Go.Shelf
attribute [local go_sem] Oper.semAt_some
set_option linter.unusedVariables false
set_option maxHeartbeats 4000000
set_option maxRecDepth 100000
/-- What Blocks leaves: an iterator that lies in new blocks. -/
def BlQ (w : World) (l : List Blk) (s : Int) (e : Ending) (w' : World) : Prop :=
  ∃ B5 B3, e = .returned (.func (.func 39) #[] #[.pointer (some ⟨B5, 0, none⟩), .pointer (some ⟨B3, 0, none⟩)]) ∧ Below w.heap.size w w' ∧ ∀ S B' W, w'.heap.size ≤ W.heap.size → (∀ k, w.heap.size ≤ k → k < w'.heap.size → W.heap[k]? = w'.heap[k]?) → (∀ k, S k → w'.heap.size ≤ k ∧ k < W.heap.size) → Yields Try.prog 39 #[.pointer (some ⟨B5, 0, none⟩), .pointer (some ⟨B3, 0, none⟩)] fe S B' (fl l s) W
theorem Blocks_new {w : World} {base b g cap : Nat} {l : List Blk} (h : Pl w base b g cap l) (s : Int) : Calls Try.prog 14 #[.pointer (some ⟨b, 0, none⟩), .int .i64 s] w (BlQ w l s) := by
  have b0 := below_alloc w (.cells #[.int .i64 s] 44)
  have x0 := Bx1.new w 44 (.int .i64 s)
  have HP := Lib.hid (h.below b0)
  have HC := Lib.hid (Clone_any (h.below b0).row h.fit.pos h.fit.len)
  have HL := Lib.hid h.fit.len
  have HB0 := Lib.hid b0
  have HX0 := Lib.hid x0
  clear h b0 x0
  refine (callsIn_wide (n := 9)).1 ?_
  have f38 : Fence.wide.fn 38 := trivial
  have f37 : Fence.wide.fn 37 := trivial
  refine callsIn_of_wp_marks Try.func14 rfl trivial ?_ rfl
  simp only [Try.ntmps14, List.size_toArray, List.length_cons, List.length_nil, Nat.reduceAdd, Nat.reduceSub, Array.replicate_succ, Array.replicate_zero, List.push_toArray, List.append_toArray, List.nil_append, List.cons_append]
  gi_wp2_with (first
    | (gi_at_call 38; refine (callsIn_wide.2 (all_any HP.out)).mono ?_; rintro e w' ⟨rfl, rfl⟩)
    | (gi_at_call 37; refine (callsIn_wide.2 HC.out).mono ?_; rintro e w2 ⟨g', cap', rfl, hg', hrow, hb2⟩; have HR2 := Lib.hid hrow; have HG2 := Lib.hid hg'; have HB2 := Lib.hid hb2; clear hrow hg' hb2))
  refine ⟨_, results_tmp rfl _ _ _, ?_⟩
  have hsz : (w.alloc (.cells #[.int .i64 s] 44)).heap.size = w.heap.size + 1 := by simp
  have hg := HG2.out
  have hs2 := HB2.out.size
  have b3 : Below w.heap.size w (w2.alloc (.cells #[.slice (some ⟨g', 0, none⟩) l.length cap'] 48)) := (HB0.out.trans (HB2.out.mono (by omega))).alloc (by omega) _
  have hgl := HR2.out.lt
  refine ⟨_, _, rfl, b3, fun S B' W hW hk hS => blocks_yields S B' _ _ g' cap' s l W HL.out (fun hk => ?_) (fun k hk => ⟨?_, ?_⟩) ((hk _ ?_ ?_).trans (Bx1.new w2 48 _)) ((hk _ ?_ ?_).trans ((HX0.out.below HB2.out).below (below_alloc _ _))) ((HR2.out.below (below_alloc _ _)).keep (hk _ ?_ ?_))⟩
  · have := hS _ hk; simp at this; omega
  · exact (hS _ hk).2
  · have := hS _ hk; simp at this; omega
  · omega
  · simp
  · omega
  · simp; omega
  · omega
  · simp; omega
/-- The state of PoolCopies in its last loop: two pools, their references, the list of free blocks. -/
structure CB (E : World) (b g cap b' g' cap' gx gy : Nat) (l1 l2 : List Blk) (q17 : Nat) (sl : Value) (xs : List Int) (W : World) : Prop where
  p1 : Pl W E.heap.size b g cap l1
  p2 : Pl W E.heap.size b' g' cap' l2
  r1 : Rf W gx l1
  r2 : Rf W gy l2
  be : Below E.heap.size E W
  x17 : Bx1 W q17 22 sl
  li : IntsB q17 W sl xs
section
variable {E W W' : World} {b g cap b' g' cap' gx gy q17 : Nat} {l1 l2 : List Blk} {sl : Value} {xs : List Int}
theorem CB.below (h : CB E b g cap b' g' cap' gx gy l1 l2 q17 sl xs W) (hb : Below W.heap.size W W') : CB E b g cap b' g' cap' gx gy l1 l2 q17 sl xs W' :=
  ⟨h.p1.below hb, h.p2.below hb, h.r1.below hb, h.r2.below hb, h.be.trans (hb.mono h.be.size), h.x17.below hb, h.li.below hb⟩
theorem CB.set (h : CB E b g cap b' g' cap' gx gy l1 l2 q17 sl xs W) {q : Nat} {v u : Value} (hq : Bx1 W q 3 v) (hqw : E.heap.size ≤ q) (hq2 : q17 < q) : CB E b g cap b' g' cap' gx gy l1 l2 q17 sl xs (W.setCell ⟨q, 0, none⟩ u) := by
  have key : ∀ {k : Nat} {cs : Array Value} {t : TypeId} {fr : Nat × Nat}, W.heap[k]? = some (.cells cs t fr) → t ≠ 3 → (W.setCell ⟨q, 0, none⟩ u).heap[k]? = W.heap[k]? := fun {k cs t fr} hk ht => Below.heap_setCell W ⟨q, 0, none⟩ u k (by
    intro e
    have e : k = q := e
    subst e
    rw [show W.heap[k]? = _ from hq] at hk
    injection hk with hk
    injection hk with _ hk
    exact ht hk.symm)
  obtain ⟨cur, hg1, _⟩ := h.p1.row
  obtain ⟨cur2, hg2, _⟩ := h.p2.row
  obtain ⟨cs, fr, hr1, _⟩ := h.r1
  obtain ⟨cs2, fr2, hr2, _⟩ := h.r2
  refine ⟨h.p1.keep fun k hk => ?_, h.p2.keep fun k hk => ?_, h.r1.keep (key hr1 (by decide)), h.r2.keep (key hr2 (by decide)), h.be.setCell hqw _, (key h.x17 (by decide)).trans h.x17, h.li.set (by omega)⟩
  · rcases hk with rfl | rfl
    · exact key h.p1.blk (by decide)
    · exact key hg1 (by decide)
  · rcases hk with rfl | rfl
    · exact key h.p2.blk (by decide)
    · exact key hg2 (by decide)
theorem own_cb {β : Type} {B : Nat} (hB : E.heap.size ≤ B) : OwnFrom B (fun (_ : β) W => CB E b g cap b' g' cap' gx gy l1 l2 q17 sl xs W) := fun k X Y row hs hg hr =>
  ⟨own_pl _ () X Y row hs.p1 hg hr, own_pl _ () X Y row hs.p2 hg hr, own_rf _ () X Y row hs.r1 hg hr, own_rf _ () X Y row hs.r2 hg hr, ownFrom_below (Nat.le_refl _) hB () X Y row hs.be hg hr, own_bx _ () X Y row hs.x17 hg hr, own_intsB _ () X Y row hs.li hg hr⟩
end
/-- The boxes of PoolCopies' arguments. -/
def cE (w : World) (e f : KA) (mny : Int) : World := ((w.alloc (.cells #[.int .i64 e.wh, .int .i64 e.bl, .int .i64 e.st, .int .i64 e.er, .int .i64 f.wh, .int .i64 f.bl, .int .i64 f.st, .int .i64 f.er] 40)).alloc (.cells #[.int .i64 mny] 3)).alloc (.cells #[.bool false] 4)
theorem cE_facts (w : World) (e f : KA) (mny : Int) : (cE w e f mny).heap.size = w.heap.size + 3 ∧ Below w.heap.size w (cE w e f mny) ∧ (cE w e f mny).heap[w.heap.size]? = some (.cells #[.int .i64 e.wh, .int .i64 e.bl, .int .i64 e.st, .int .i64 e.er, .int .i64 f.wh, .int .i64 f.bl, .int .i64 f.st, .int .i64 f.er] 40 (0, 0)) ∧ Bx1 (cE w e f mny) (w.heap.size + 1) 3 (.int .i64 mny) ∧ Bx1 (cE w e f mny) (w.heap.size + 2) 4 (.bool false) := by
  unfold cE
  have h1 := heap_alloc_new w (.cells #[.int .i64 e.wh, .int .i64 e.bl, .int .i64 e.st, .int .i64 e.er, .int .i64 f.wh, .int .i64 f.bl, .int .i64 f.st, .int .i64 f.er] 40)
  have b1 := below_alloc w (.cells #[.int .i64 e.wh, .int .i64 e.bl, .int .i64 e.st, .int .i64 e.er, .int .i64 f.wh, .int .i64 f.bl, .int .i64 f.st, .int .i64 f.er] 40)
  have z1 : (w.alloc (.cells #[.int .i64 e.wh, .int .i64 e.bl, .int .i64 e.st, .int .i64 e.er, .int .i64 f.wh, .int .i64 f.bl, .int .i64 f.st, .int .i64 f.er] 40)).heap.size = w.heap.size + 1 := World.size_alloc _ _
  generalize w.alloc (.cells #[.int .i64 e.wh, .int .i64 e.bl, .int .i64 e.st, .int .i64 e.er, .int .i64 f.wh, .int .i64 f.bl, .int .i64 f.st, .int .i64 f.er] 40) = W1 at *
  have x2 := Bx1.new W1 3 (.int .i64 mny)
  have b2 := below_alloc W1 (.cells #[.int .i64 mny] 3)
  have z2 : (W1.alloc (.cells #[.int .i64 mny] 3)).heap.size = W1.heap.size + 1 := World.size_alloc _ _
  generalize W1.alloc (.cells #[.int .i64 mny] 3) = W2 at *
  have x3 := Bx1.new W2 4 (.bool false)
  have b3 := below_alloc W2 (.cells #[.bool false] 4)
  have z3 : (W2.alloc (.cells #[.bool false] 4)).heap.size = W2.heap.size + 1 := World.size_alloc _ _
  generalize W2.alloc (.cells #[.bool false] 4) = W3 at *
  rw [z1] at x2
  rw [z2, z1] at x3
  refine ⟨by omega, (b1.trans (b2.mono (by omega))).trans (b3.mono (by omega)), (b3.block _ (by omega)).trans ((b2.block _ (by omega)).trans h1), x2.below b3, x3⟩
end Go.Proofs.Ytpojgjbgbbnojaa
