/- The walk of ArbiterNil. No condition. -/
import Derived.Test.YtildofclgofjdaaNA
namespace Go.Proofs.Ytildofclgofjdaa
open Go.RowKit Go.Shelf
attribute [local go_sem] Oper.semAt_some
set_option linter.unusedVariables false
set_option maxHeartbeats 400000
set_option maxRecDepth 100000
/-- A loop over an iterator that yields nothing. -/
theorem range_none {n : Nat} (hn : 2 ≤ n) {g : Operand} {ps : Array Tmp} {body : Code} {Q : Exit → Act → World → Prop} {a : Act} {w : World} {B4 B3 lo : Nat} (hg : a.eval g = .func (.func 43) #[] #[.pointer (some ⟨B4, 0, none⟩), .pointer (some ⟨B3, 0, none⟩)]) (hps : ps.size = 2)
    (hIt : It lo w.heap.size w B4 B3 []) (hdone : ∀ D W, w.heap.size ≤ D → Below w.heap.size w W → W.heap[D]? = some (.deferred (some [])) → Q .normal { a with defers := { target := .collected D, args := #[] } :: a.defers } W) :
    (Code.rangeFunc g ps Code.skip body).wpIn Fence.wide n Try.prog Q a w := by
  refine wpIn_rangeFunc_ownG rfl (by omega) (gf := 43) (lb := #[.pointer (some ⟨B4, 0, none⟩), .pointer (some ⟨B3, 0, none⟩)]) hg trivial (enters_of Try.func43 (by kernel_rfl) rfl)
    (iter_stops (n - 1) (by omega) B4 B3 lo w.heap.size [] w hIt (Nat.le_refl _)) Kpt.trans (fun W l o o' hl hw ho _ k _ hk => World.putObj_heap_other (by omega)) (Below.refl _ _) (fun _ => by rw [hps]; rfl)
    (fun _ W => Below w.heap.size w W) (fun _ _ _ => False) (fun pre W W' row h hg' hr => h.grown hg' h.size (fun k e => (hr k e).1)) (fun _ _ _ _ _ hs _ _ => hs) (Below.refl _ _)
    (fun x => { tmps := (ps.zip (qv x)).foldl (fun t (p, v) => t.setIfInBounds p v) a.tmps, defers := [] }) ?assign ?body ?done ?stop
  case assign =>
    intro l x W K hK
    first
      | exact hK
      | (gi_wp2; simpa [hps] using hK)
  case body =>
    intro l pre x W _ hlt
    exact absurd hlt (by simp)
  case done =>
    intro D xs W hD _ hB hK
    exact hdone D W hD hB hK
  case stop =>
    intro D c pre W _ _ h _
    exact h.elim
set_option maxHeartbeats 4000000 in
theorem nil_walk (kd q c : Int) (wt : Bool) (bu hi me lo : Int) (A : Option Addr) (n cap : Nat) (w : World) :
    Calls Try.prog 9 #[.agg #[.int .i64 kd, .int .i64 q, .int .i64 c, .bool wt, .int .i64 bu, .int .i64 hi, .int .i64 me, .int .i64 lo, .slice A n cap]] w (OkPost w) := by
  refine (callsIn_wide (n := 12)).1 ?_
  have f16 : Fence.wide.fn 16 := trivial
  have f17 : Fence.wide.fn 17 := trivial
  have f20 : Fence.wide.fn 20 := trivial
  have f21 : Fence.wide.fn 21 := trivial
  have f22 : Fence.wide.fn 22 := trivial
  have f24 : Fence.wide.fn 24 := trivial
  have f12 : Fence.wide.fn 12 := trivial
  have hqn := fun (W : World) (f : Fn) (x y : Array Value) => run_eql_func_nil (P := Try.prog) W 59 f x y Try.underlying59
  refine callsIn_of_wp_marks Try.func9 rfl trivial ?_ rfl
  simp only [Try.ntmps9, List.size_toArray, List.length_cons, List.length_nil, Nat.reduceAdd, Nat.reduceSub, Array.replicate_succ, Array.replicate_zero, List.push_toArray, List.append_toArray, List.nil_append, List.cons_append]
  gi_wp2
  refine wpIn_loop_rounds 3 ?_
  rw [roundsIn_succ]
  gi_wp2_with (first
    | (gi_at_call 17; refine (callsIn_wide.2 (Pick_miss _ _ _ (Miss.nil _))).mono ?_; rintro e w' ⟨rfl, rfl⟩)
    | (gi_at_call 16; refine (callsIn_wide.2 (Add_miss _ _ _ _ (Miss.nil _))).mono ?_; rintro e w' ⟨rfl, rfl⟩)
    | (gi_at_call 21; refine (callsIn_wide.2 (Remove_miss _ _ _ (Miss.nil _))).mono ?_; rintro e w' ⟨rfl, rfl⟩)
    | (gi_at_call 24; refine (callsIn_wide.2 (Configure_miss _ _ _ _ _ _ _ (Miss.nil _))).mono ?_; rintro e w1 ⟨rfl, hb1⟩; have HB1 := Lib.hid hb1; clear hb1)
    | (gi_at_call 22; refine (callsIn_wide.2 (Copy_miss _ _ (Miss.nil _))).mono ?_; rintro e w' ⟨rfl, rfl⟩)
    | (gi_at_call 20; refine (callsIn_wide.2 (Queues_none _ _ (Miss.nil _))).mono ?_; rintro e w2 ⟨B4, B3, rfl, hIt, hb2⟩; have HIT := Lib.hid hIt; have HB2 := Lib.hid hb2; clear hIt hb2))
  refine range_none (lo := w1.heap.size) (by omega) rfl rfl HIT.out ?_
  intro D1 w3 hD1 hb3 hK1
  have HB3 := Lib.hid hb3
  have HK1 := Lib.hid hK1
  clear hb3 hK1
  have hb13 : Below w1.heap.size w1 w3 := HB2.out.trans (HB3.out.mono HB2.out.size)
  have hb03 := HB1.out.trans (hb13.mono HB1.out.size)
  have HB03 := Lib.hid hb03
  obtain ⟨hc3, hf3⟩ := bcell hb03
  have hz3 := hb03.size
  simp at hz3
  have HZ : Miss w3 (some ⟨w.heap.size + 1 + 1, 0, none⟩) := Miss.zero w3 _ (by omega) ((hb03.cell (p := ⟨w.heap.size + 1 + 1, 5, none⟩) (by show w.heap.size + 1 + 1 < _; simp only [World.size_alloc]; omega)).trans (by simp [go_sem]))
  have HMZ := Lib.hid HZ
  clear hb13 hb03 HZ
  gi_wp2
  rw [roundsIn_succ]
  gi_wp2_with (first
    | (gi_at_call 17; refine (callsIn_wide.2 (Pick_miss _ _ _ HMZ.out)).mono ?_; rintro e w' ⟨rfl, rfl⟩)
    | (gi_at_call 16; refine (callsIn_wide.2 (Add_miss _ _ _ _ HMZ.out)).mono ?_; rintro e w' ⟨rfl, rfl⟩)
    | (gi_at_call 21; refine (callsIn_wide.2 (Remove_miss _ _ _ HMZ.out)).mono ?_; rintro e w' ⟨rfl, rfl⟩)
    | (gi_at_call 24; refine (callsIn_wide.2 (Configure_miss _ _ _ _ _ _ _ HMZ.out)).mono ?_; rintro e w4 ⟨rfl, hb4⟩; have HB4 := Lib.hid hb4; have HM4 := Lib.hid (HMZ.out.later hb4); clear hb4 HMZ)
    | (gi_at_call 22; refine (callsIn_wide.2 (Copy_miss _ _ HM4.out)).mono ?_; rintro e w' ⟨rfl, rfl⟩)
    | (gi_at_call 20; refine (callsIn_wide.2 (Queues_none _ _ HM4.out)).mono ?_; rintro e w5 ⟨B6, B5, rfl, hIt, hb5⟩; have HIT2 := Lib.hid hIt; have HB5 := Lib.hid hb5; clear hIt hb5))
  refine range_none (lo := w4.heap.size) (by omega) rfl rfl HIT2.out ?_
  intro D2 w6 hD2 hb6 hK2
  have hb46 : Below w4.heap.size w4 w6 := HB5.out.trans (hb6.mono HB5.out.size)
  have hb36 : Below w3.heap.size w3 w6 := HB4.out.trans (hb46.mono HB4.out.size)
  have hb06 := HB03.out.trans (hb36.mono HB03.out.size)
  have HB06 := Lib.hid hb06
  have HB36 := Lib.hid hb36
  have HK2 := Lib.hid hK2
  have hz6 := hb06.size
  simp at hz6
  clear hb6 hK2 hb46 hb36 hb06 hc3 hf3
  gi_wp2
  rw [roundsIn_succ]
  gi_wp2_with (gi_at_call 12; refine (callsIn_wide.2 (known_any _)).mono ?_; rintro e w7 ⟨rfl, hb7⟩; have HB7 := Lib.hid hb7; have hb07 := HB06.out.trans (hb7.mono (by simpa using hz6)); obtain ⟨hc7, hf7⟩ := bcell hb07; have HB07 := Lib.hid hb07; clear hb7 hb07)
  have l1 := (Array.getElem?_eq_some_iff.1 HK1.out).1
  have l2 := (Array.getElem?_eq_some_iff.1 HK2.out).1
  have s36 := HB36.out.size
  have s01 := HB1.out.size
  simp only [World.size_alloc] at s01
  have s12 := HB2.out.size
  have s45 := HB5.out.size
  have s34 := HB4.out.size
  have s67 := HB7.out.size
  have k2 : (w7.setCell ⟨w.heap.size + 1, 0, none⟩ (.bool true)).heap[D2]? = some (.deferred (some [])) := (Below.heap_setCell _ _ _ _ (by show D2 ≠ w.heap.size + 1; omega)).trans ((HB7.out.block _ l2).trans HK2.out)
  have k1 : ((w7.setCell ⟨w.heap.size + 1, 0, none⟩ (.bool true)).putObj D2 (.deferred none)).heap[D1]? = some (.deferred (some [])) := (World.putObj_heap_other (by omega)).trans ((Below.heap_setCell _ _ _ _ (by show D1 ≠ w.heap.size + 1; omega)).trans ((HB7.out.block _ (by omega)).trans ((HB36.out.block _ l1).trans HK1.out)))
  refine ⟨by simp, .inl ⟨_, _, rfl, run_takeDeferred k2, ⟨by simp, .inl ⟨_, _, rfl, run_takeDeferred k1, ?_⟩⟩⟩⟩
  have hne1 : D1 ≠ w.heap.size + 1 := by omega
  have hne2 : D2 ≠ w.heap.size + 1 := by omega
  have hB7 : Below w.heap.size w w7 := ((((below_alloc w _).alloc (by simp) _).alloc (by simp; omega) _).alloc (by simp; omega) _).trans (HB07.out.mono (by simp; omega))
  have hBf : Below w.heap.size w (((w7.setCell ⟨w.heap.size + 1, 0, none⟩ (.bool true)).putObj D2 (.deferred none)).putObj D1 (.deferred none)) :=
    ((hB7.setCell (p := ⟨w.heap.size + 1, 0, none⟩) (by show w.heap.size ≤ w.heap.size + 1; omega) _).trans (belowK_b (w := w) (Nat.le_refl _) _ D2 _ _ (by omega) k2 rfl rfl)).trans (belowK_b (w := w) (Nat.le_refl _) _ D1 _ _ (by omega) k1 rfl rfl)
  have hc7b : w7.cell? ⟨w.heap.size + 1, 0, none⟩ = some (.bool false) := (HB07.out.cell (p := ⟨w.heap.size + 1, 0, none⟩) (by show w.heap.size + 1 < _; simp only [World.size_alloc]; omega)).trans (by simp [go_sem])
  have hcell : (((w7.setCell ⟨w.heap.size + 1, 0, none⟩ (.bool true)).putObj D2 (.deferred none)).putObj D1 (.deferred none)).cell? ⟨w.heap.size + 1, 0, none⟩ = some (.bool true) := by
    rw [World.cell?_of_block (w := (w7.setCell ⟨w.heap.size + 1, 0, none⟩ (.bool true)).putObj D2 (.deferred none)) (World.putObj_heap_other (fun e => hne1 e.symm)), World.cell?_of_block (w := w7.setCell ⟨w.heap.size + 1, 0, none⟩ (.bool true)) (World.putObj_heap_other (fun e => hne2 e.symm))]
    exact World.cell?_setCell_same' _ _ _ (by rw [hc7b]; rfl)
  exact ⟨.bool true, by simp [results, Try.results9, go_sem, hcell], rfl, hBf⟩
end Go.Proofs.Ytildofclgofjdaa
