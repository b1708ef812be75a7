/- Copy of a device. Conditions stand in each theorem. -/
import Derived.Test.YtddejcoagcaidaaK
import Derived.Test.YtddejcoagcaidaaDK
import Derived.Test.YtddejcoagcaidaaO
import Derived.Deep.RegionWith
import Derived.Shelf.SlMaps.Clone
import Derived.Test.YtddejcoagcaidaaDS
namespace Go.Proofs.Ytddejcoagcaidaa
section
open Go.RowKit
set_option linter.unusedVariables false
set_option maxHeartbeats 4000000
set_option maxRecDepth 100000
theorem info91c : (Try.prog.info? 91).map (·.size) = some 3 := by kernel_rfl
theorem own_cap {w : World} {base : Nat} {A : Option Addr} {n c : Nat} {xs : List Value} (h : w.ownsRow base 5 1 (.slice A n c) n xs) : n ≤ c := by
  rcases h.2 with ⟨e, h1⟩ | ⟨g, cap, cur, e, hb, _, hnc, _⟩
  · simp only [Value.slice.injEq] at e
    omega
  · simp only [Value.slice.injEq] at e
    omega
theorem pc_fin {lb : Nat} {w w2 : World} {x y : List UInt8} {st0 : Int} {A1 A2 : Option Addr} {n1 c1 n2 c2 : Nat} {a b : Value} (st : Int) (h1 : BytT lb w2 (.slice A1 n1 c1) x) (h2 : BytT lb w2 (.slice A2 n2 c2) y) (hb : Below w.heap.size w w2) (hx : w2.heap[w.heap.size]? = some (.cells #[a, b, .int .i64 st0] 91 (0, 0))) (hr : w2.heap[w.heap.size + 1]? = some (.cells #[.slice none 0 0, .slice none 0 0, .int .i64 0] 91 (0, 0))) :
    PagePost lb w ⟨st, x, y⟩ (.returned (.agg #[.slice A1 n1 c1, .slice A2 n2 c2, .int .i64 st])) (((((w2.setCell ⟨w.heap.size, 0, none⟩ (.slice A1 n1 c1)).setCell ⟨w.heap.size, 1, none⟩ (.slice A2 n2 c2)).setCell ⟨w.heap.size + 1, 0, none⟩ (.slice A1 n1 c1)).setCell ⟨w.heap.size + 1, 1, none⟩ (.slice A2 n2 c2)).setCell ⟨w.heap.size + 1, 2, none⟩ (.int .i64 st)) ∧
    (((((w2.setCell ⟨w.heap.size, 0, none⟩ (.slice A1 n1 c1)).setCell ⟨w.heap.size, 1, none⟩ (.slice A2 n2 c2)).setCell ⟨w.heap.size + 1, 0, none⟩ (.slice A1 n1 c1)).setCell ⟨w.heap.size + 1, 1, none⟩ (.slice A2 n2 c2)).setCell ⟨w.heap.size + 1, 2, none⟩ (.int .i64 st)).heap[w.heap.size + 1]? = some (.cells #[.slice A1 n1 c1, .slice A2 n2 c2, .int .i64 st] 91 (0, 0)) := by
  have hc : Chg (fun k => k = w.heap.size ∨ k = w.heap.size + 1) w2 (((((w2.setCell ⟨w.heap.size, 0, none⟩ (.slice A1 n1 c1)).setCell ⟨w.heap.size, 1, none⟩ (.slice A2 n2 c2)).setCell ⟨w.heap.size + 1, 0, none⟩ (.slice A1 n1 c1)).setCell ⟨w.heap.size + 1, 1, none⟩ (.slice A2 n2 c2)).setCell ⟨w.heap.size + 1, 2, none⟩ (.int .i64 st)) :=
    (((((Chg.refl (fun k => k = w.heap.size ∨ k = w.heap.size + 1) w2).setCell (.inl rfl) _).setCell (.inl rfl) _).setCell (.inr rfl) _).setCell (.inr rfl) _).setCell (.inr rfl) _
  have hn : NoBytes (fun k => k = w.heap.size ∨ k = w.heap.size + 1) w2 := fun k hk e cs fr e2 => by
    rcases e with e | e
    · subst e
      rw [hx] at e2
      injection e2 with e2
      injection e2 with _ e2
      exact absurd e2 (by decide)
    · subst e
      rw [hr] at e2
      injection e2 with e2
      injection e2 with _ e2
      exact absurd e2 (by decide)
  refine ⟨⟨_, _, _, _, _, _, rfl, h1.chg hc hn, h2.chg hc hn, hb.trans (hc.below hb.size (fun i hi => by omega))⟩, ?_⟩
  have e0 : ((w2.setCell ⟨w.heap.size, 0, none⟩ (.slice A1 n1 c1)).setCell ⟨w.heap.size, 1, none⟩ (.slice A2 n2 c2)).heap[w.heap.size + 1]? = some (.cells #[.slice none 0 0, .slice none 0 0, .int .i64 0] 91 (0, 0)) :=
    (heap_setCell_other _ ⟨w.heap.size, 1, none⟩ _ _ (by simp)).trans ((heap_setCell_other _ ⟨w.heap.size, 0, none⟩ _ _ (by simp)).trans hr)
  exact heap_setCell_same _ _ 2 _ 91 _ (heap_setCell_same _ _ 1 _ 91 _ (heap_setCell_same _ _ 0 _ 91 _ e0))
/-- A page is copied. -/
theorem pcopy_any {lb : Nat} (v0 v1 : Value) (x y : List UInt8) (st : Int) (w : World) (hlb : lb ≤ w.heap.size) (h0 : Byt w v0 x) (h1 : Byt w v1 y) (hx : x.length ≤ 100000) (hy : y.length ≤ 100000) :
    Calls Try.prog 61 #[.agg #[v0, v1, .int .i64 st]] w (PagePost lb w ⟨st, x, y⟩) := by
  have hl : (x ++ y).length = x.length + y.length := List.length_append
  obtain ⟨W0, hW0⟩ : ∃ W0, W0 = (w.alloc (.cells #[v0, v1, .int .i64 st] 91)).alloc (.cells #[.slice none 0 0, .slice none 0 0, .int .i64 0] 91) := ⟨_, rfl⟩
  have hb0 : Below w.heap.size w W0 := by rw [hW0]; exact (below_alloc w _).alloc (by simp) _
  have hbx : W0.heap[w.heap.size]? = some (.cells #[v0, v1, .int .i64 st] 91 (0, 0)) := by rw [hW0]; exact heap_alloc2_old w _ _
  have hrx : W0.heap[w.heap.size + 1]? = some (.cells #[.slice none 0 0, .slice none 0 0, .int .i64 0] 91 (0, 0)) := by rw [hW0]; exact heap_alloc2_new w _ _
  have hs0 : W0.heap.size = w.heap.size + 1 + 1 := by rw [hW0]; simp
  have hbd : Below W0.heap.size W0 (W0.drew.alloc (.cells #[v0, v1] 41)) := ((Below.refl _ _).drew).alloc (Nat.le_refl _) _
  have HC : Hid (Calls Try.prog 63 #[.slice (some ⟨W0.heap.size, 0, none⟩) 2 2] (W0.drew.alloc (.cells #[v0, v1] 41)) (NewBytes _ (x ++ y))) :=
    Lib.hid (Concat_any W0.heap.size v0 v1 x y _ (cell_of_row _ _ 0 _ 41 (0, 0) (heap_alloc_new W0.drew (.cells #[v0, v1] 41))) (cell_of_row _ _ 1 _ 41 (0, 0) (heap_alloc_new W0.drew (.cells #[v0, v1] 41))) (h0.below (hb0.trans (hbd.mono hb0.size))) (h1.below (hb0.trans (hbd.mono hb0.size))) hx hy)
  have HSP := Lib.hid (fun A c W (h : BytT lb W (.slice A (x ++ y).length c) (x ++ y)) (hc : (x ++ y).length ≤ c) => split_any A (x ++ y).length c x.length x y W h rfl hc)
  have e0 := hbd.block w.heap.size (by omega)
  obtain ⟨A0, k0, rfl, _, _⟩ := h0
  obtain ⟨A1, k1, rfl, _, _⟩ := h1
  obtain ⟨c0, c1, c2, f0, f1, f2⟩ := three_cells hbx
  obtain ⟨d0, d1, d2, g0, g1, g2⟩ := three_cells (w := (W0.alloc (.cells #[.slice A0 x.length k0, .slice A1 y.length k1] 41))) ((show (W0.alloc (.cells #[.slice A0 x.length k0, .slice A1 y.length k1] 41)).heap[w.heap.size]? = _ from e0).trans hbx)
  have HBX := Lib.hid hbx
  have HRX := Lib.hid hrx
  have HB0 := Lib.hid hb0
  have HBD := Lib.hid hbd
  have HW := Lib.hid hW0
  have HS0 := Lib.hid hs0
  have HLB := Lib.hid hlb
  obtain ⟨L, hL⟩ : ∃ L, L = (x ++ y).length := ⟨_, rfl⟩
  rw [← hL] at HSP
  unfold NewBytes at HC
  rw [← hL] at HC
  have HLE := Lib.hid hL
  clear e0 hl hb0 hbx hrx hW0 hs0 hbd hlb hL hx hy
  go_enter Try.func61, Try.ntmps61
  go_upto_region 1 with fail
  rw [← HW.out]
  go_region_law (first
    | (refine step_callR (f := 63) rfl _ _ rfl HC.out (by go_simp) ?_; rintro e w1 ⟨⟨A, c, rfl, ho⟩, hb⟩; have hbb := HBD.out.trans (hb.mono HBD.out.size); have HB1 := Lib.hid hbb; have HBX1 : Hid (w1.heap[w.heap.size]? = some (.cells #[.slice A0 x.length k0, .slice A1 y.length k1, .int .i64 st] 91 (0, 0))) := Lib.hid ((hbb.block _ (by have := HS0.out; omega)).trans HBX.out); have HRX1 : Hid (w1.heap[w.heap.size + 1]? = some (.cells #[.slice none 0 0, .slice none 0 0, .int .i64 0] 91 (0, 0))) := Lib.hid ((hbb.block _ (by have := HS0.out; omega)).trans HRX.out); obtain ⟨y0, y1, y2, z0, z1, z2⟩ := three_cells HBX1.out; have HS1 := Lib.hid (HSP.out A c w1 (by rw [HLE.out] at ho ⊢; exact BytT.of_own ho (Nat.le_trans HLB.out (by have := HB0.out.size; simp <;> omega))) (own_cap ho)); clear ho hb hbb; refine ⟨_, rfl, ?_⟩)
    | (refine step_callR (f := 62) rfl _ _ rfl HS1.out (by go_simp) ?_; rintro e w2 ⟨P1, n1, d1, P2, n2, d2, rfl, hp1, hp2, hb⟩; have HP1 := Lib.hid hp1; have HP2 := Lib.hid hp2; have HB2 := Lib.hid (HB1.out.trans (hb.mono HB1.out.size)); have HBX2 : Hid (w2.heap[w.heap.size]? = some (.cells #[.slice A0 x.length k0, .slice A1 y.length k1, .int .i64 st] 91 (0, 0))) := Lib.hid ((hb.block _ (Array.getElem?_eq_some_iff.1 HBX1.out).1).trans HBX1.out); have HRX2 : Hid (w2.heap[w.heap.size + 1]? = some (.cells #[.slice none 0 0, .slice none 0 0, .int .i64 0] 91 (0, 0))) := Lib.hid ((hb.block _ (Array.getElem?_eq_some_iff.1 HRX1.out).1).trans HRX1.out); obtain ⟨x0, x1, x2, u0, u1, u2⟩ := three_cells HBX2.out; obtain ⟨r0, r1, r2, q0, q1, q2⟩ := three_cells HRX2.out; clear hp1 hp2 hb; refine ⟨_, rfl, ?_⟩))
  all_goals
    go_wp2
    (try simp only [Exit.inBlock, Exit.then])
    refine bodyPost_ret (v := .agg #[.slice P1 n1 d1, .slice P2 n2 d2, .int .i64 st]) ?_ rfl ?_
    · exact results_cell_row (P := Try.prog) (p := 2) (ty := 91) rfl _ _ (w.heap.size + 1) 91 #[.slice P1 n1 d1, .slice P2 n2 d2, .int .i64 st] (0, 0) _ rfl (pc_fin st HP1.out HP2.out (HB0.out.trans (HB2.out.mono HB0.out.size)) HBX2.out HRX2.out).2 Try.underlying91 rfl info91
    · exact (pc_fin st HP1.out HP2.out (HB0.out.trans (HB2.out.mono HB0.out.size)) HBX2.out HRX2.out).1
end
section
open Go.RowKit Go.Shelf
set_option linter.unusedVariables false
set_option maxHeartbeats 4000000
set_option maxRecDepth 100000
def cloneA_ren : Go.Shelf.Ren := ⟨fun | 5 => 49 | 7 => 64 | n => n, fun | 23 => 60 | 25 => 3 | 3 => 4 | 4 => 4 | 20 => 20 | n => n, fun | n => n⟩
theorem cloneA : Go.Proofs.SlLaysW.n5 Try.prog cloneA_ren := {
  mixed := by kernel_rfl
  f5 := ⟨Try.f49.name, by decide, Try.func49.trans (congrArg some (by kernel_rfl))⟩
  f7 := Try.func64.trans (congrArg some (by kernel_rfl))
  t4 := Try.underlying4
  a4 := Try.isAgg4
  z4 := Try.sizeOf4
  v4 := Try.zeroValue4
  t20 := Try.underlying20
  a20 := Try.isAgg20
  z20 := Try.sizeOf20
  v20 := Try.zeroValue20
  t23 := Try.underlying60
  a23 := Try.isAgg60
  z23 := Try.sizeOf60
  v23 := Try.zeroValue60 }
theorem clone_any {w : World} {m : Nat} {F : List Int} (h : Seen w m F) : Calls Try.prog 49 #[.map (some m)] w fun e w' => e = .returned (.map (some w.heap.size)) ∧ Seen w' w.heap.size F ∧ Below w.heap.size w w' := by
  obtain ⟨es, c, hb⟩ := h.isMap
  refine (show Calls Try.prog 49 _ _ _ from AnyW.maps_Clone cloneA m es c w hb).mono fun e w' ⟨h1, h2⟩ => ?_
  subst h2
  obtain ⟨D, ⟨es', c', hm, r⟩, hq⟩ := h
  refine ⟨h1, ⟨D, ⟨es', c', ?_, r⟩, hq⟩, (Below.refl _ _).alloc (Nat.le_refl _) _⟩
  rw [heap_alloc_new, ← hm, hb]
end
section
open Go.RowKit
set_option linter.unusedVariables false
set_option maxHeartbeats 4000000
set_option maxRecDepth 100000
theorem info91z : (Try.prog.info? 91).map (fun i => (i.zero, i.size, i.bytes)) = some (some (.agg #[.slice none 0 0, .slice none 0 0, .int .i64 0]), 3, 56) := by kernel_rfl
def zp (n : Nat) : Array Value := madeCells #[.slice none 0 0, .slice none 0 0, .int .i64 0] (n * 3)
theorem zp_size (n : Nat) : (zp n).size = n * 3 := size_madeCells _ _
theorem make_pages92 (n : Nat) (hn : n ≤ 512) (W : World) : (Instr.makeSlice 92 (.int .i64 (n : Int)) (.int .i64 (n : Int))).run Try.prog W = .ok (.slice (some ⟨W.heap.size, 0, none⟩) n n) (W.alloc (.cells (zp n) 91)) := by
  obtain ⟨i0, hi0, hz0, hz1, hz2⟩ := info_parts info91z
  have hr := run_makeSlice (P := Try.prog) W 92 91 i0 _ Try.underlying92 hi0 hz0 .i64 .i64 n n (by omega) (Int.le_refl _) (by rw [hz1]; omega) (by rw [hz2]; omega) (by omega)
  rw [hr, hz1]
  simp [Value.cells, zp]
/-- The first k of n pages are written. -/
def Pc (lb : Nat) (W : World) (g n : Nat) (ps : List Pg) (k : Nat) : Prop := ∃ (cur : Array Value) (xs : List Value), W.heap[g]? = some (.cells cur 91 (0, 0)) ∧ cur.size = n * 3 ∧ xs.length = k * 3 ∧ (∀ j, j < k * 3 → cur[j]? = xs[j]?) ∧ Rws lb W xs (ps.take k)
theorem Pc.set {lb : Nat} {W : World} {g n k : Nat} {ps : List Pg} (h : Pc lb W g n ps k) (hk : k < n) (hp : ps.length = n) {a b : Value} (ha : BytT lb W a (ps[k]'(by omega)).d) (hb : BytT lb W b (ps[k]'(by omega)).s) :
    Pc lb (((W.setCell ⟨g, k * 3, none⟩ a).setCell ⟨g, k * 3 + 1, none⟩ b).setCell ⟨g, k * 3 + 2, none⟩ (.int .i64 (ps[k]'(by omega)).st)) g n ps (k + 1) := by
  obtain ⟨cur, xs, h1, h2, h3, h4, h5⟩ := h
  have hc : Chg (fun j => j = g) W (((W.setCell ⟨g, k * 3, none⟩ a).setCell ⟨g, k * 3 + 1, none⟩ b).setCell ⟨g, k * 3 + 2, none⟩ (.int .i64 (ps[k]'(by omega)).st)) := (((Chg.refl (fun j => j = g) W).setCell rfl _).setCell rfl _).setCell rfl _
  have hn : NoBytes (fun j => j = g) W := fun q hq e cs fr e2 => by
    subst e
    rw [h1] at e2
    injection e2 with e2
    injection e2 with _ e2
    exact absurd e2 (by decide)
  have hlt : k < ps.length := by omega
  refine ⟨((cur.setIfInBounds (k * 3) a).setIfInBounds (k * 3 + 1) b).setIfInBounds (k * 3 + 2) (.int .i64 (ps[k]'(by omega)).st), xs ++ [a, b, .int .i64 (ps[k]'(by omega)).st], heap_setCell_same _ _ _ _ 91 _ (heap_setCell_same _ _ _ _ 91 _ (heap_setCell_same _ _ _ _ 91 _ h1)), by simp [h2], by simp [h3]; omega, fun j hj => ?_, ?_⟩
  · simp only [Array.getElem?_setIfInBounds, Array.size_setIfInBounds]
    by_cases e2 : k * 3 + 2 = j
    · subst e2
      rw [if_pos rfl, if_pos (by omega), List.getElem?_append_right (by omega), h3, show k * 3 + 2 - k * 3 = 2 by omega]; rfl
    · rw [if_neg e2]
      by_cases e1 : k * 3 + 1 = j
      · subst e1
        rw [if_pos rfl, if_pos (by omega), List.getElem?_append_right (by omega), h3, show k * 3 + 1 - k * 3 = 1 by omega]; rfl
      · rw [if_neg e1]
        by_cases e0 : k * 3 = j
        · subst e0
          rw [if_pos rfl, if_pos (by omega), List.getElem?_append_right (by omega), h3, Nat.sub_self]; rfl
        · rw [if_neg e0, List.getElem?_append_left (by omega)]
          exact h4 j (by omega)
  · rw [List.take_add_one, List.getElem?_eq_getElem hlt]
    exact Rws.snoc (ha.chg hc hn) (hb.chg hc hn) _ _ (Rws.chg hc hn _ _ h5)
theorem Pc.end {lb : Nat} {W : World} {g n base : Nat} {ps : List Pg} (h : Pc lb W g n ps n) (hp : ps.length = n) (hn : n ≤ 512) (hg : base ≤ g) : ∃ xs, W.ownsRow base 91 3 (.slice (some ⟨g, 0, none⟩) n n) n xs ∧ Rws lb W xs ps := by
  obtain ⟨cur, xs, h1, h2, h3, h4, h5⟩ := h
  refine ⟨xs, ⟨h3, .inr ⟨g, n, cur, rfl, hg, h1, Nat.le_refl _, Nat.le_trans hn (by decide), h2, ?_⟩⟩, by rw [List.take_of_length_le (by omega)] at h5; exact h5⟩
  apply List.ext_getElem?
  intro j
  rw [List.getElem?_take]
  by_cases hj : j < n * 3
  · rw [if_pos hj, ← h4 j hj]; simp
  · rw [if_neg hj, List.getElem?_eq_none (by omega)]
theorem Pc.below {lb : Nat} {W W' : World} {g n k : Nat} {ps : List Pg} (h : Pc lb W g n ps k) (hb : Below W.heap.size W W') : Pc lb W' g n ps k := by
  obtain ⟨cur, xs, h1, h2, h3, h4, h5⟩ := h
  exact ⟨cur, xs, (hb.block _ (Array.getElem?_eq_some_iff.1 h1).1).trans h1, h2, h3, h4, Rws.chg (S := fun _ => False) (Chg.of_below hb) (fun _ _ hf => hf.elim) _ _ h5⟩
/-- What a copy of pages leaves. -/
def PsPost (lb : Nat) (w : World) (ps : List Pg) (e : Ending) (w' : World) : Prop := ∃ g, e = .returned (.slice (some ⟨g, 0, none⟩) ps.length ps.length) ∧ w.heap.size ≤ g ∧ (∃ xs, w'.ownsRow w.heap.size 91 3 (.slice (some ⟨g, 0, none⟩) ps.length ps.length) ps.length xs ∧ Rws lb w' xs ps) ∧ Below w.heap.size w w'
theorem page_at {lb base n c k : Nat} {w : World} {A : Option Addr} {xs : List Value} {ps : List Pg} (ho : w.ownsRow base 91 3 (.slice A n c) n xs) (hr : Rws lb w xs ps) (hp : ps.length = n) (hk : k < n) :
    ∃ q dv sv, A = some ⟨q, 0, none⟩ ∧ w.cell? ⟨q, k * 3, none⟩ = some dv ∧ w.cell? ⟨q, k * 3 + 1, none⟩ = some sv ∧ w.cell? ⟨q, k * 3 + 2, none⟩ = some (.int .i64 (ps[k]'(by omega)).st) ∧ BytT lb w dv (ps[k]'(by omega)).d ∧ BytT lb w sv (ps[k]'(by omega)).s := by
  obtain ⟨q, c', e, hnc, _⟩ := ho.form (by omega)
  obtain ⟨x, y, h1, h2, h3, h4, h5⟩ := hr.at xs _ k (by omega)
  simp only [Value.slice.injEq] at e
  obtain ⟨rfl, _, rfl⟩ := e
  have hc : ∀ j u, xs[j]? = some u → w.cell? ⟨q, j, none⟩ = some u := fun j u hu => by
    have := ho.cells (g := q) rfl j u hu
    rwa [add_plain, Nat.zero_add] at this
  exact ⟨q, x, y, rfl, hc _ _ h1, hc _ _ h2, hc _ _ h3, h4, h5⟩
theorem Pc.row {lb : Nat} {W : World} {g n k : Nat} {ps : List Pg} (h : Pc lb W g n ps k) (hk : k < n) : (∃ u, W.cell? ⟨g, k * 3, none⟩ = some u) ∧ (∃ u, W.cell? ⟨g, k * 3 + 1, none⟩ = some u) ∧ (∃ u, W.cell? ⟨g, k * 3 + 2, none⟩ = some u) ∧ W.frozen? ⟨g, k * 3, none⟩ = false ∧ W.frozen? ⟨g, k * 3 + 1, none⟩ = false ∧ W.frozen? ⟨g, k * 3 + 2, none⟩ = false := by
  obtain ⟨cur, xs, h1, h2, _⟩ := h
  have e : ∀ j, j < n * 3 → ∃ u, W.cell? ⟨g, j, none⟩ = some u := fun j hj => ⟨_, (cell_of_row _ _ j _ _ _ h1).trans (Array.getElem?_eq_getElem (by omega))⟩
  exact ⟨e _ (by omega), e _ (by omega), e _ (by omega), frozen_of_row _ _ _ _ _ h1, frozen_of_row _ _ _ _ _ h1, frozen_of_row _ _ _ _ _ h1⟩
theorem collect60_any {lb base n : Nat} {w : World} {v : Value} {xs : List Value} (ps : List Pg) (hv : w.ownsRow base 91 3 v n xs) (hr : Rws lb w xs ps) (hp : ps.length = n) (hn : n ≤ 512) (hl : ∀ p ∈ ps, p.d.length ≤ 100000 ∧ p.s.length ≤ 100000) (hlb : lb ≤ w.heap.size) :
    Calls Try.prog 60 #[v, .func (.func 61) #[] #[]] w (PsPost lb w ps) := by
  have hmk := make_pages92 n hn w
  have hz : Pc lb (w.alloc (.cells (zp n) 91)) w.heap.size n ps 0 := ⟨zp n, [], heap_alloc_new w _, zp_size n, by simp, fun j hj => absurd hj (by omega), by rw [List.take_zero]; trivial⟩
  have HZ := Lib.hid hz
  have HV := Lib.hid hv
  have HR := Lib.hid hr
  have HP := Lib.hid hp
  have HL := Lib.hid hl
  have HLB := Lib.hid hlb
  have hvs : ∃ A c, v = .slice A n c := by
    rcases hv.2 with ⟨rfl, rfl⟩ | ⟨q, cap, cur, rfl, _⟩
    · exact ⟨_, _, rfl⟩
    · exact ⟨_, _, rfl⟩
  obtain ⟨A, c, rfl⟩ := hvs
  have HN := Lib.hid hn
  clear hz hv hr hp hl hlb hn
  go_enter Try.func60, Try.ntmps60
  have hni : (n : Int) ≤ 512 := by have := HN.out; omega
  go_wp2
  go_loopw [13] (fun a wr => ∃ k : Nat, k ≤ n ∧ a = .int .i64 (k : Int) ∧ Hid (Pc lb wr w.heap.size n ps k) ∧ Hid (Below w.heap.size w wr)) (fun a _ => n - (RowKit.intOf a).toNat)
  case atStart => exact ⟨0, Nat.zero_le _, rfl, HZ, Lib.hid (balloc w _)⟩
  case round =>
    obtain ⟨k, hk, rfl, HQ, HB⟩ := hrel
    clear HZ hmk
    by_cases hlt : k < n
    · have hk0 : (0 : Int) ≤ (k : Int) := by omega
      have hk1 : (k : Int) < (n : Int) := by omega
      obtain ⟨q, dv, sv, rfl, e0, e1, e2, hd, hs⟩ := page_at HV.out HR.out HP.out hlt
      have d0 := (HB.out.cell (World.block_lt_of_cell? w _ e0)).trans e0
      have d1 := (HB.out.cell (World.block_lt_of_cell? w _ e1)).trans e1
      have d2 := (HB.out.cell (World.block_lt_of_cell? w _ e2)).trans e2
      have hk2 : k < ps.length := by have := HP.out; omega
      obtain ⟨st, hst⟩ : ∃ st, st = (ps[k]'hk2).st := ⟨_, rfl⟩
      have HC := Lib.hid (fun W (hW : Below wr.heap.size wr W) => (show Calls Try.prog 61 #[.agg #[dv, sv, .int .i64 st]] W (PagePost lb W (ps[k]'hk2)) from by
        rw [hst]
        exact pcopy_any dv sv _ _ _ W (Nat.le_trans HLB.out (HB.out.trans (hW.mono HB.out.size)).size) ((hd.below HB.out).below hW).1 ((hs.below HB.out).below hW).1 (HL.out _ (List.getElem_mem hk2)).1 (HL.out _ (List.getElem_mem hk2)).2))
      rw [← hst] at d2
      have HST := Lib.hid hst
      obtain ⟨nd, hnd⟩ : ∃ nd, nd = (ps[k]'hk2).d.length := ⟨_, rfl⟩
      obtain ⟨ns, hns⟩ : ∃ ns, ns = (ps[k]'hk2).s.length := ⟨_, rfl⟩
      obtain ⟨AD, kD, hvd, _, _⟩ := hd.1
      obtain ⟨AS, kS, hvs, _, _⟩ := hs.1
      rw [← hnd] at hvd
      rw [← hns] at hvs
      subst hvd hvs
      clear e0 e1 e2 hd hs hst hnd hns
      obtain ⟨x0, x1, x2, g0, g1, g2⟩ := three_cells (heap_alloc_new wr (.cells #[.slice none 0 0, .slice none 0 0, .int .i64 0] 91))
      go_wp2_with ((go_at_call 61; with_reducible refine (HC.out _ (balloc wr (.cells #[.slice AD nd kD, .slice AS ns kS, .int .i64 st] 91))).mono ?_); rintro e w2 ⟨A1, n1, k1, A2, n2, k2, rfl, hp1, hp2, hb2⟩; have hb3 := (balloc wr (.cells #[.slice AD nd kD, .slice AS ns kS, .int .i64 st] 91)).trans (hb2.mono (balloc wr (.cells #[.slice AD nd kD, .slice AS ns kS, .int .i64 st] 91)).size); have HQ2 := Lib.hid (HQ.out.below hb3); have HB2 := Lib.hid (HB.out.trans (hb3.mono HB.out.size)); have HP1 := Lib.hid hp1; have HP2 := Lib.hid hp2; obtain ⟨⟨u0, r0⟩, ⟨u1, r1⟩, ⟨u2, r2⟩, f0, f1, f2⟩ := HQ2.out.row hlt; rw [← HST.out]; clear hp1 hp2 hb2 hb3)
      go_roundw
      case rel =>
        refine ⟨k + 1, by omega, by go_num, Lib.hid ?_, Lib.hid (((HB2.out.setCell (p := ⟨w.heap.size, k * 3, none⟩) (Nat.le_refl _) _).setCell (p := ⟨w.heap.size, k * 3 + 1, none⟩) (Nat.le_refl _) _).setCell (p := ⟨w.heap.size, k * 3 + 2, none⟩) (Nat.le_refl _) _)⟩
        have h := HQ2.out.set hlt HP.out HP1.out HP2.out
        rw [← HST.out] at h
        exact h
      case measure => simp [RowKit.intOf]; omega
    · obtain rfl : k = n := by omega
      go_wp2
      go_ret
      have h := HP.out
      subst h
      exact ⟨_, rfl, Nat.le_refl _, HQ.out.end rfl HN.out (Nat.le_refl _), HB.out⟩
end
section
open Go.RowKit
set_option linter.unusedVariables false
set_option maxHeartbeats 4000000
set_option maxRecDepth 100000
theorem info94s : (Try.prog.info? 94).map (·.size) = some 2 := by kernel_rfl
theorem two_cells {w : World} {b : Nat} {x y : Value} {t : TypeId} (h : w.heap[b]? = some (.cells #[x, y] t (0, 0))) :
    w.cell? ⟨b, 0, none⟩ = some x ∧ w.cell? ⟨b, 1, none⟩ = some y ∧ w.frozen? ⟨b, 0, none⟩ = false ∧ w.frozen? ⟨b, 1, none⟩ = false := by
  have e := fun k => cell_of_row w b k _ t (0, 0) h
  have f := fun k => frozen_of_row w b k _ t h
  exact ⟨e 0, e 1, f 0, f 1⟩
theorem own_chg {S : Nat → Prop} {w w' : World} {base sz n : Nat} {ty : TypeId} {v : Value} {xs : List Value} (h : w.ownsRow base ty sz v n xs) (hc : Chg S w w') (hS : ∀ k, v.ownBlock = some k → ¬ S k) : w'.ownsRow base ty sz v n xs := by
  refine ⟨h.1, ?_⟩
  rcases h.2 with h0 | ⟨p, cap, cur, e, hp, hh, r⟩
  · exact .inl h0
  · exact .inr ⟨p, cap, cur, e, hp, (hc.block p (Array.getElem?_eq_some_iff.1 hh).1 (hS p (by rw [e]; rfl))).trans hh, r⟩
theorem own_below {w w' : World} {base sz n : Nat} {ty : TypeId} {v : Value} {xs : List Value} (h : w.ownsRow base ty sz v n xs) (hb : Below w.heap.size w w') : w'.ownsRow base ty sz v n xs :=
  own_chg (S := fun _ => False) h (Chg.of_below hb) (fun _ _ hf => hf)
theorem rws_below {lb : Nat} {w w' : World} {xs : List Value} {ps : List Pg} (h : Rws lb w xs ps) (hb : Below w.heap.size w w') : Rws lb w' xs ps := Rws.chg (S := fun _ => False) (Chg.of_below hb) (fun _ _ hf => hf.elim) _ _ h
/-- The bytes of a device's pages fit. -/
def Len (s : Dev) : Prop := ∀ i, i < s.nb → ∀ p ∈ (s.bk i).pg, p.d.length ≤ 100000 ∧ p.s.length ≤ 100000
theorem Len.put {s : Dev} (h : Len s) (i : Nat) (k : Bk) (hk : i < s.nb → ∀ p ∈ k.pg, p.d.length ≤ 100000 ∧ p.s.length ≤ 100000) : Len (s.put i k) := by
  intro j hj p hp
  have hp2 : p ∈ (upd s.bk i k j).pg := hp
  by_cases e : j = i
  · subst e
    rw [upd_same] at hp2
    exact hk hj p hp2
  · rw [upd_ne _ _ e] at hp2
    exact h j hj p hp2
theorem Len.exS {s : Dev} (h : Len s) (i : Nat) (kc kf ks : Bk) (hc : i < s.nb → ∀ p ∈ kc.pg, p.d.length ≤ 100000 ∧ p.s.length ≤ 100000) (hf : i < s.nb → ∀ p ∈ kf.pg, p.d.length ≤ 100000 ∧ p.s.length ≤ 100000) (hs : i < s.nb → ∀ p ∈ ks.pg, p.d.length ≤ 100000 ∧ p.s.length ≤ 100000) : Len (s.exS i kc kf ks) := by
  unfold Dev.exS
  split
  · exact Len.put (s := s.cut) h i kc hc
  · split
    · exact Len.put (s := s.go) h i kf hf
    · exact Len.put (s := s.go) h i ks hs
theorem wr_len (x y : List UInt8) (n : Nat) : (wr x y n).d.length ≤ x.length ∧ (wr x y n).s.length = y.length := by
  constructor
  · show ((ffAll (x ++ y) n).take x.length).length ≤ x.length
    rw [List.length_take]; omega
  · show ((ffAll (x ++ y) n).drop x.length).length = y.length
    rw [List.length_drop, ffAll_length, List.length_append]; omega
theorem len_act {s : Dev} (h : Len s) (X : KA) (hx : X.x.length ≤ 100000) (hy : X.y.length ≤ 100000) : Len (actS s X) := by
  unfold actS
  have snoc : ∀ (i n : Nat), i < s.nb → ∀ p ∈ (s.bk i).pg ++ [wr X.x X.y n], p.d.length ≤ 100000 ∧ p.s.length ≤ 100000 := fun i n hi p hp => by
    rcases List.mem_append.1 hp with hp | hp
    · exact h i hi p hp
    · rw [List.mem_singleton.1 hp]
      have := wr_len X.x X.y n
      omega
  split
  · unfold Dev.prS
    split
    · refine h.exS _ _ _ _ (snoc _ _) (fun hi p hp => ?_) (snoc _ _)
      rcases List.mem_append.1 hp with hp | hp
      · exact h _ hi p hp
      · rw [List.mem_singleton.1 hp]; exact ⟨Nat.zero_le _, Nat.zero_le _⟩
    · exact h
  · split
    · unfold Dev.erS
      split
      · have h1 : Len (s.e1 X.bl.toNat) := h.put _ _ (fun hi p hp => h _ hi p hp)
        have rp : ∀ p ∈ List.replicate s.np (⟨5, [], []⟩ : Pg), p.d.length ≤ 100000 ∧ p.s.length ≤ 100000 := fun p hp => by
          rw [List.eq_of_mem_replicate hp]; exact ⟨Nat.zero_le _, Nat.zero_le _⟩
        exact h1.exS _ _ _ _ (fun _ => rp) (fun _ => rp) (fun _ p hp => absurd hp (List.not_mem_nil))
      · exact h
    · split
      · exact h
      · split
        · unfold Dev.cuS
          split
          · exact h
          · exact h
        · exact h
/-- What a copy of a block leaves. -/
def BlPost (lb : Nat) (w : World) (er : Int) (ps : List Pg) (e : Ending) (w' : World) : Prop := ∃ g, e = .returned (.agg #[.int .i64 er, .slice (some ⟨g, 0, none⟩) ps.length ps.length]) ∧ w.heap.size ≤ g ∧ (∃ xs, w'.ownsRow w.heap.size 91 3 (.slice (some ⟨g, 0, none⟩) ps.length ps.length) ps.length xs ∧ Rws lb w' xs ps) ∧ Below w.heap.size w w'
theorem copied_any {lb base n : Nat} {w : World} {A : Option Addr} {c : Nat} {xs : List Value} (er : Int) (ps : List Pg) (hv : w.ownsRow base 91 3 (.slice A n c) n xs) (hr : Rws lb w xs ps) (hp : ps.length = n) (hn : n ≤ 512) (hl : ∀ p ∈ ps, p.d.length ≤ 100000 ∧ p.s.length ≤ 100000) (hlb : lb ≤ w.heap.size) :
    Calls Try.prog 48 #[.agg #[.int .i64 er, .slice A n c]] w (BlPost lb w er ps) := by
  have hb0 : Below w.heap.size w ((w.alloc (.cells #[.int .i64 er, .slice A n c] 94)).alloc (.cells #[.int .i64 0, .slice none 0 0] 94)) := (balloc w _).alloc (by simp) _
  have hbx := heap_alloc2_old w (.cells #[.int .i64 er, .slice A n c] 94) (.cells #[.int .i64 0, .slice none 0 0] 94)
  have hrx := heap_alloc2_new w (.cells #[.int .i64 er, .slice A n c] 94) (.cells #[.int .i64 0, .slice none 0 0] 94)
  have hs0 : ((w.alloc (.cells #[.int .i64 er, .slice A n c] 94)).alloc (.cells #[.int .i64 0, .slice none 0 0] 94)).heap.size = w.heap.size + 1 + 1 := by simp
  obtain ⟨W0, hW0⟩ : ∃ W0, W0 = (w.alloc (.cells #[.int .i64 er, .slice A n c] 94)).alloc (.cells #[.int .i64 0, .slice none 0 0] 94) := ⟨_, rfl⟩
  rw [← hW0] at hb0 hbx hrx hs0
  have HC := Lib.hid (collect60_any (w := W0) ps (own_below hv hb0) (rws_below hr hb0) hp hn hl (Nat.le_trans hlb hb0.size))
  obtain ⟨c0, c1, f0, f1⟩ := two_cells hbx
  have HB0 := Lib.hid hb0
  have HBX := Lib.hid hbx
  have HRX := Lib.hid hrx
  have HS0 := Lib.hid hs0
  have HW := Lib.hid hW0
  clear hb0 hbx hrx hs0 hW0 hv hr hp hn hl hlb
  go_enter Try.func48, Try.ntmps48
  go_upto_region 1 with fail
  rw [← HW.out]
  go_wp2_with ((go_at_call 60; with_reducible refine HC.out.mono ?_); rintro e w1 ⟨g, rfl, hg, ⟨ys, ho, hr⟩, hb⟩; have HG := Lib.hid hg; have HO := Lib.hid ho; have HR := Lib.hid hr; have HB1 := Lib.hid hb; have HBX1 := Lib.hid ((hb.block _ (by have := HS0.out; omega)).trans HBX.out); have HRX1 := Lib.hid ((hb.block _ (by have := HS0.out; omega)).trans HRX.out); obtain ⟨d0, d1, g0, g1⟩ := two_cells HBX1.out; obtain ⟨e0, e1, h0, h1⟩ := two_cells HRX1.out; clear hg ho hr hb)
  (try simp only [Exit.inBlock, Exit.then])
  have hc : Chg (fun k => k = w.heap.size ∨ k = w.heap.size + 1) w1 (((w1.setCell ⟨w.heap.size, 1, none⟩ (.slice (some ⟨g, 0, none⟩) ps.length ps.length)).setCell ⟨w.heap.size + 1, 0, none⟩ (.int .i64 er)).setCell ⟨w.heap.size + 1, 1, none⟩ (.slice (some ⟨g, 0, none⟩) ps.length ps.length)) :=
    (((Chg.refl (fun k => k = w.heap.size ∨ k = w.heap.size + 1) w1).setCell (.inl rfl) _).setCell (.inr rfl) _).setCell (.inr rfl) _
  have hnb : NoBytes (fun k => k = w.heap.size ∨ k = w.heap.size + 1) w1 := fun k hk e cs fr e2 => by
    rcases e with e | e
    · subst e
      rw [HBX1.out] at e2
      injection e2 with e2
      injection e2 with _ e2
      exact absurd e2 (by decide)
    · subst e
      rw [HRX1.out] at e2
      injection e2 with e2
      injection e2 with _ e2
      exact absurd e2 (by decide)
  have hg := HG.out
  have hs0 := HS0.out
  have hb := HB0.out.trans (HB1.out.mono HB0.out.size)
  refine bodyPost_ret (v := .agg #[.int .i64 er, .slice (some ⟨g, 0, none⟩) ps.length ps.length]) ?_ rfl ?_
  · exact results_cell_row (P := Try.prog) (p := 2) (ty := 94) rfl _ _ (w.heap.size + 1) 94 #[.int .i64 er, .slice (some ⟨g, 0, none⟩) ps.length ps.length] (0, 0) _ rfl (heap_setCell_same _ _ 1 _ 94 _ (heap_setCell_same _ _ 0 _ 94 _ ((heap_setCell_other _ ⟨w.heap.size, 1, none⟩ _ _ (by simp)).trans HRX1.out))) Try.underlying94 rfl info94s
  · refine ⟨g, rfl, by omega, ⟨ys, own_chg (own_base HO.out (by omega)) hc ?_, Rws.chg hc hnb _ _ HR.out⟩, hb.trans (hc.below hb.size (fun i hi => by omega))⟩
    intro k hk
    simp only [Value.ownBlock, Option.some.injEq] at hk
    omega
/-- The first k blocks are written. -/
structure Gc (lb : Nat) (W : World) (base g : Nat) (s : Dev) (k : Nat) (V : Nat → Value) : Prop where
  grid : ∃ G : Array Value, W.heap[g]? = some (.cells G 94 (0, 0)) ∧ G.size = s.nb * 2 ∧ ∀ i, i < k → G[i * 2]? = some (.int .i64 (s.bk i).er) ∧ G[i * 2 + 1]? = some (V i)
  row : ∀ i, i < k → ∃ xs, W.ownsRow base 91 3 (V i) (s.bk i).pg.length xs ∧ Rws lb W xs (s.bk i).pg
  apart : ∀ i j, i < k → j < k → i ≠ j → (V i).ownBlock = none ∨ (V i).ownBlock ≠ (V j).ownBlock
theorem Gc.below {lb : Nat} {W W' : World} {base g k : Nat} {s : Dev} {V : Nat → Value} (h : Gc lb W base g s k V) (hb : Below W.heap.size W W') : Gc lb W' base g s k V := by
  refine ⟨?_, fun i hi => ?_, h.apart⟩
  · obtain ⟨G, h1, r⟩ := h.grid
    exact ⟨G, (hb.block _ (Array.getElem?_eq_some_iff.1 h1).1).trans h1, r⟩
  · obtain ⟨xs, h1, h2⟩ := h.row i hi
    exact ⟨xs, own_below h1 hb, rws_below h2 hb⟩
theorem Gc.base {lb : Nat} {W : World} {base base' g k : Nat} {s : Dev} {V : Nat → Value} (h : Gc lb W base g s k V) (hb : base' ≤ base) : Gc lb W base' g s k V :=
  ⟨h.grid, fun i hi => by obtain ⟨xs, h1, h2⟩ := h.row i hi; exact ⟨xs, own_base h1 hb, h2⟩, h.apart⟩
theorem Gc.put {lb : Nat} {W : World} {base g k q j : Nat} {s : Dev} {V : Nat → Value} {cs : Array Value} (h : Gc lb W base g s k V) (hq : W.heap[q]? = some (.cells cs 64 (0, 0))) (v : Value) : Gc lb (W.setCell ⟨q, j, none⟩ v) base g s k V := by
  have hc : Chg (fun j => j = q) W (W.setCell ⟨q, j, none⟩ v) := (Chg.refl (fun j => j = q) W).setCell rfl _
  have hnb : NoBytes (fun j => j = q) W := fun q' hq' e cs fr e2 => by
    subst e
    rw [hq] at e2
    injection e2 with e2
    injection e2 with _ e2
    exact absurd e2 (by decide)
  refine ⟨?_, fun i hi => ?_, h.apart⟩
  · obtain ⟨G, h1, r⟩ := h.grid
    exact ⟨G, (hc.block _ (Array.getElem?_eq_some_iff.1 h1).1 (fun e => by subst e; exact absurd (ty_ne h1 hq) (by decide))).trans h1, r⟩
  · obtain ⟨xs, h1, h2⟩ := h.row i hi
    refine ⟨xs, own_chg h1 hc (fun p hp e => ?_), Rws.chg hc hnb _ _ h2⟩
    subst e
    rcases h1.2 with ⟨e0, _⟩ | ⟨p', cap, cur, e0, _, hp', _⟩
    · rw [e0] at hp; cases hp
    · rw [e0] at hp
      simp only [Value.ownBlock, Option.some.injEq] at hp
      subst hp
      exact absurd (ty_ne hp' hq) (by decide)
theorem Gc.set {lb : Nat} {W : World} {base g k : Nat} {s : Dev} {V : Nat → Value} (h : Gc lb W base g s k V) (hk : k < s.nb) {v : Value} (hv : ∃ xs, W.ownsRow base 91 3 v (s.bk k).pg.length xs ∧ Rws lb W xs (s.bk k).pg) (hn : ∀ i, i < k → (V i).ownBlock = none ∨ (V i).ownBlock ≠ v.ownBlock) :
    Gc lb ((W.setCell ⟨g, k * 2, none⟩ (.int .i64 (s.bk k).er)).setCell ⟨g, k * 2 + 1, none⟩ v) base g s (k + 1) (upd V k v) := by
  obtain ⟨G, h1, h2, h3⟩ := h.grid
  have hc : Chg (fun j => j = g) W ((W.setCell ⟨g, k * 2, none⟩ (.int .i64 (s.bk k).er)).setCell ⟨g, k * 2 + 1, none⟩ v) := ((Chg.refl (fun j => j = g) W).setCell rfl _).setCell rfl _
  have hnb : NoBytes (fun j => j = g) W := fun q hq e cs fr e2 => by
    subst e
    rw [h1] at e2
    injection e2 with e2
    injection e2 with _ e2
    exact absurd e2 (by decide)
  have hne : ∀ {u : Value} {n : Nat} {xs : List Value}, W.ownsRow base 91 3 u n xs → ∀ q, u.ownBlock = some q → ¬ q = g := fun ho q hq e => by
    subst e
    rcases ho.2 with ⟨e0, _⟩ | ⟨p, cap, cur, e0, _, hp, _⟩
    · rw [e0] at hq; cases hq
    · rw [e0] at hq
      simp only [Value.ownBlock, Option.some.injEq] at hq
      subst hq
      exact absurd (ty_ne hp h1) (by decide)
  refine ⟨⟨(G.setIfInBounds (k * 2) (.int .i64 (s.bk k).er)).setIfInBounds (k * 2 + 1) v, heap_setCell_same _ _ _ _ 94 _ (heap_setCell_same _ _ _ _ 94 _ h1), by simp [h2], fun i hi => ?_⟩, fun i hi => ?_, fun i j hi hj hij => ?_⟩
  · obtain ⟨a1, a2⟩ := set_cells (G.setIfInBounds (k * 2) (.int .i64 (s.bk k).er)) s.nb k hk (by simp [h2]) v i (by omega)
    obtain ⟨a3, a4⟩ := set_cells0 G s.nb k hk h2 (.int .i64 (s.bk k).er) i (by omega)
    rw [a1, a2, a3, a4]
    by_cases e : i = k
    · subst e
      rw [if_pos rfl, if_pos rfl, upd_same]
      exact ⟨rfl, rfl⟩
    · rw [if_neg e, if_neg e, upd_ne _ _ e]
      exact h3 i (by omega)
  · by_cases e : i = k
    · subst e
      rw [upd_same]
      obtain ⟨xs, o1, o2⟩ := hv
      exact ⟨xs, own_chg o1 hc (hne o1), Rws.chg hc hnb _ _ o2⟩
    · rw [upd_ne _ _ e]
      obtain ⟨xs, o1, o2⟩ := h.row i (by omega)
      exact ⟨xs, own_chg o1 hc (hne o1), Rws.chg hc hnb _ _ o2⟩
  · by_cases e : i = k
    · subst e
      have hj2 : j < i := by omega
      rw [upd_same, upd_ne _ _ (by omega)]
      rcases hn j hj2 with h0 | h0
      · by_cases hz : v.ownBlock = none
        · exact .inl hz
        · exact .inr (by rw [h0]; exact hz)
      · exact .inr (fun e2 => h0 e2.symm)
    · rw [upd_ne _ _ e]
      by_cases e' : j = k
      · subst e'
        rw [upd_same]
        exact hn i (by omega)
      · rw [upd_ne _ _ e']
        exact h.apart i j (by omega) (by omega) hij
theorem Gc.cells {lb : Nat} {W : World} {base g k : Nat} {s : Dev} {V : Nat → Value} (h : Gc lb W base g s k V) (hk : k < s.nb) : (∃ u, W.cell? ⟨g, k * 2, none⟩ = some u) ∧ (∃ u, W.cell? ⟨g, k * 2 + 1, none⟩ = some u) ∧ W.frozen? ⟨g, k * 2, none⟩ = false ∧ W.frozen? ⟨g, k * 2 + 1, none⟩ = false := by
  obtain ⟨G, h1, h2, _⟩ := h.grid
  have e : ∀ j, j < s.nb * 2 → ∃ u, W.cell? ⟨g, j, none⟩ = some u := fun j hj => ⟨_, (cell_of_row _ _ j _ _ _ h1).trans (Array.getElem?_eq_getElem (by omega))⟩
  exact ⟨e _ (by omega), e _ (by omega), frozen_of_row _ _ _ _ _ h1, frozen_of_row _ _ _ _ _ h1⟩
/-- What a copy of the grid leaves. -/
def GcPost (w : World) (s : Dev) (e : Ending) (w' : World) : Prop := ∃ g V, e = .returned (.slice (some ⟨g, 0, none⟩) s.nb s.nb) ∧ w.heap.size ≤ g ∧ Gc s.lo w' w.heap.size g s s.nb V ∧ Below w.heap.size w w'
theorem collect47_any {w : World} {base b g m : Nat} {V : Nat → Value} {s : Dev} (h : Dv w base b g m V s) (hG : Gd s) (hLn : Len s) :
    Calls Try.prog 47 #[.slice (some ⟨g, 0, none⟩) s.nb s.nb, .func (.func 48) #[] #[]] w (GcPost w s) := by
  have hmk := make_blocks s.nb hG.nb.2 w
  obtain ⟨N, hN⟩ : ∃ N, N = s.nb := ⟨_, rfl⟩
  have hz : Gc s.lo (w.alloc (.cells (zb N) 94)) w.heap.size w.heap.size s 0 V := ⟨⟨zb N, heap_alloc_new w _, by rw [zb_size, hN], fun j hj => absurd hj (by omega)⟩, fun j hj => absurd hj (by omega), fun j _ hj => absurd hj (by omega)⟩
  have HZ := Lib.hid hz
  have HD := Lib.hid h
  have HG := Lib.hid hG
  have HLN := Lib.hid hLn
  have hn := hG.nb.2
  have HLB := Lib.hid h.lowle
  have HN := Lib.hid hN
  rw [← hN] at hmk hn ⊢
  clear hz h hG hN hLn
  go_enter Try.func47, Try.ntmps47
  have hni : (N : Int) ≤ 4096 := by omega
  go_wp2
  go_loopw [13] (fun a wr => ∃ (k : Nat) (V' : Nat → Value), k ≤ N ∧ a = .int .i64 (k : Int) ∧ Hid (Gc s.lo wr w.heap.size w.heap.size s k V') ∧ Hid (Below w.heap.size w wr)) (fun a _ => N - (RowKit.intOf a).toNat)
  case atStart => exact ⟨0, V, Nat.zero_le _, rfl, HZ, Lib.hid (balloc w _)⟩
  case round =>
    obtain ⟨k, V', hk, rfl, HQ, HB⟩ := hrel
    clear HZ hmk
    by_cases hlt : k < N
    · have hk0 : (0 : Int) ≤ (k : Int) := by omega
      have hk1 : (k : Int) < (N : Int) := by omega
      have hlt2 : k < s.nb := by have := HN.out; omega
      obtain ⟨G, hGr, _, hGc⟩ := (HD.out.below HB.out).grid
      have d0 := (cell_of_row _ _ (k * 2) _ _ _ hGr).trans (hGc k hlt2).1
      have d1 := (cell_of_row _ _ (k * 2 + 1) _ _ _ hGr).trans (hGc k hlt2).2
      obtain ⟨xs, ho, hr⟩ := (HD.out.below HB.out).row k hlt2
      obtain ⟨np, hnp⟩ : ∃ np, np = (s.bk k).pg.length := ⟨_, rfl⟩
      obtain ⟨A, c, hvf⟩ := own_form ho
      obtain ⟨er, her⟩ : ∃ er, er = (s.bk k).er := ⟨_, rfl⟩
      rw [← hnp] at hvf
      rw [hvf] at d1 ho
      rw [← hnp] at ho
      rw [← her] at d0
      have HL := Lib.hid (fun p hp => show p.d.length ≤ 100000 ∧ p.s.length ≤ 100000 from HLN.out k hlt2 p hp)
      have HC := Lib.hid (fun W (hW : Below wr.heap.size wr W) => copied_any (w := W) er (s.bk k).pg (own_below ho hW) (rws_below hr hW) hnp.symm (by have := HG.out.pg k hlt2; have := HG.out.np; omega) HL.out (Nat.le_trans HLB.out (HB.out.trans (hW.mono HB.out.size)).size))
      have HER := Lib.hid her
      have HNP := Lib.hid hnp
      clear hGr hGc ho hr hnp hvf her
      obtain ⟨x0, x1, g0, g1⟩ := two_cells (heap_alloc_new wr (.cells #[.int .i64 0, .slice none 0 0] 94))
      have bal : Below wr.heap.size wr (wr.alloc (.cells #[.int .i64 er, .slice A np c] 94)) := balloc wr _
      go_wp2_with ((go_at_call 48; with_reducible refine (HC.out _ bal).mono ?_); rintro e w2 ⟨gp, rfl, hgp, ho2, hb2⟩; have hb3 := bal.trans (hb2.mono bal.size); have HQ2 := Lib.hid (HQ.out.below hb3); have HB2 := Lib.hid (HB.out.trans (hb3.mono HB.out.size)); obtain ⟨xs2, ho2, hr2⟩ := ho2; have HO2 := Lib.hid (And.intro (own_base (base' := w.heap.size) ho2 (Nat.le_trans HB.out.size bal.size)) hr2); have HGP := Lib.hid (Nat.le_trans bal.size hgp); obtain ⟨⟨u0, r0⟩, ⟨u1, r1⟩, f0, f1⟩ := HQ2.out.cells hlt2; rw [← HNP.out]; clear ho2 hr2 hgp hb2 hb3)
      go_roundw
      case rel =>
        refine ⟨k + 1, upd V' k (.slice (some ⟨gp, 0, none⟩) np np), by omega, by go_num, Lib.hid ?_, Lib.hid ((HB2.out.setCell (p := ⟨w.heap.size, k * 2, none⟩) (Nat.le_refl _) _).setCell (p := ⟨w.heap.size, k * 2 + 1, none⟩) (Nat.le_refl _) _)⟩
        rw [HER.out]
        refine HQ2.out.set hlt2 ⟨xs2, by rw [HNP.out]; exact HO2.out.1, HO2.out.2⟩ (fun i hi => .inr (fun e => ?_))
        obtain ⟨ys, hy, _⟩ := HQ.out.row i hi
        have := (hy.lt gp (by rw [e]; rfl)).2
        have := HGP.out
        omega
      case measure => simp [RowKit.intOf]; omega
    · obtain rfl : k = N := by omega
      go_wp2
      go_ret
      have h := HN.out
      subst h
      exact ⟨_, V', rfl, Nat.le_refl _, HQ.out, HB.out⟩
/-- What Copy leaves. -/
def CpPost (w : World) (base b g m : Nat) (V : Nat → Value) (s : Dev) (e : Ending) (w' : World) : Prop := ∃ b' g' m' V', e = .returned (.pointer (some ⟨b', 0, none⟩)) ∧ Dv w' w.heap.size b' g' m' V' s ∧ Dv w' base b g m V s ∧ Below w.heap.size w w'
theorem cp_dv {w W : World} {base b g m b' g' m' : Nat} {V V' : Nat → Value} {s : Dev} (h : Dv w base b g m V s) (hc : Gc s.lo W w.heap.size g' s s.nb V') (hb : w.heap.size ≤ b') (hg : w.heap.size ≤ g') (hm : w.heap.size ≤ m') (hk : W.heap[b']? = some (.cells (devCells s g' m') 64 (0, 0))) (hs : Seen W m' s.F) : Dv W w.heap.size b' g' m' V' s :=
  ⟨hk, hb, hg, hm, hc.grid, hc.row, hc.apart, hs, h.lowle⟩
theorem Copy_any {w : World} {base b g m : Nat} {V : Nat → Value} {s : Dev} (h : Dv w base b g m V s) (hG : Gd s) (hLn : Len s) :
    Calls Try.prog 19 #[.pointer (some ⟨b, 0, none⟩)] w (CpPost w base b g m V s) := by
  have HD := Lib.hid h
  have HG := Lib.hid hG
  have HLN := Lib.hid hLn
  have hblk := h.blk
  have hbl := (Array.getElem?_eq_some_iff.1 hblk).1
  have HBL := Lib.hid hbl
  unfold devCells at hblk
  have c4 := cell_of_row w b 4 _ 64 (0, 0) hblk
  have c0 := cell_of_row w b 0 _ 64 (0, 0) hblk
  have c1 := cell_of_row w b 1 _ 64 (0, 0) hblk
  have c2 := cell_of_row w b 2 _ 64 (0, 0) hblk
  have c3 := cell_of_row w b 3 _ 64 (0, 0) hblk
  have c5 := cell_of_row w b 5 _ 64 (0, 0) hblk
  have c6 := cell_of_row w b 6 _ 64 (0, 0) hblk
  have c7 := cell_of_row w b 7 _ 64 (0, 0) hblk
  have c8 := cell_of_row w b 8 _ 64 (0, 0) hblk
  have c9 := cell_of_row w b 9 _ 64 (0, 0) hblk
  have HM := Lib.hid (missing_not b g s.nb w c4)
  have HBK := Lib.hid hblk
  have bal : Below w.heap.size w (w.alloc (.cells #[.int .i64 (s.nb : Int), .int .i64 (s.np : Int), .int .i64 (s.sz : Int), .int .i64 s.en, .slice (some ⟨g, 0, none⟩) s.nb s.nb, .map (some m), .int .i64 s.po, .int .i64 s.pb, .int .i64 s.n, .bool s.off] 64)) := balloc w _
  have hx1 := heap_alloc_new w (.cells #[.int .i64 (s.nb : Int), .int .i64 (s.np : Int), .int .i64 (s.sz : Int), .int .i64 s.en, .slice (some ⟨g, 0, none⟩) s.nb s.nb, .map (some m), .int .i64 s.po, .int .i64 s.pb, .int .i64 s.n, .bool s.off] 64)
  have hs1 : (w.alloc (.cells #[.int .i64 (s.nb : Int), .int .i64 (s.np : Int), .int .i64 (s.sz : Int), .int .i64 s.en, .slice (some ⟨g, 0, none⟩) s.nb s.nb, .map (some m), .int .i64 s.po, .int .i64 s.pb, .int .i64 s.n, .bool s.off] 64)).heap.size = w.heap.size + 1 := by simp
  have d4 := (bal.cell (p := ⟨b, 4, none⟩) hbl).trans c4
  obtain ⟨W1, hW1⟩ : ∃ W1, W1 = w.alloc (.cells #[.int .i64 (s.nb : Int), .int .i64 (s.np : Int), .int .i64 (s.sz : Int), .int .i64 s.en, .slice (some ⟨g, 0, none⟩) s.nb s.nb, .map (some m), .int .i64 s.po, .int .i64 s.pb, .int .i64 s.n, .bool s.off] 64) := ⟨_, rfl⟩
  rw [← hW1] at bal hx1 hs1 d4
  have HX1 := Lib.hid hx1
  have HS1 := Lib.hid hs1
  have HB1 := Lib.hid bal
  have HW1 := Lib.hid hW1
  have HC := Lib.hid (collect47_any (h.below bal) hG hLn)
  clear h hG hLn hblk hbl bal hx1 hs1 hW1
  go_enter Try.func19, Try.ntmps19
  go_upto_region 4 with ((go_at_call 46; with_reducible refine HM.out.mono ?_); rintro e w1 ⟨rfl, rfl⟩)
  rw [← HW1.out]
  clear c0 c1 c2 c3 c4 c5 c6 c7 c8 c9
  go_upto_region 5 with ((go_at_call 47; with_reducible refine HC.out.mono ?_); rintro e W2 ⟨g2, V2, rfl, hg2, hc2, hb2⟩; have HG2 := Lib.hid hg2; have HC2 := Lib.hid hc2; have HB2 := Lib.hid (HB1.out.trans (hb2.mono HB1.out.size)); have HX2 := Lib.hid ((hb2.block _ (Array.getElem?_eq_some_iff.1 HX1.out).1).trans HX1.out); have y4 := cell_of_row W2 w.heap.size 4 _ 64 (0, 0) HX2.out; have f4 := frozen_of_row W2 w.heap.size 4 _ 64 HX2.out; clear hg2 hc2 hb2)
  have hc3 := HC2.out.put (j := 4) HX2.out (.slice (some ⟨g2, 0, none⟩) s.nb s.nb)
  have hb3 := HB2.out.setCell (p := ⟨w.heap.size, 4, none⟩) (Nat.le_refl _) (.slice (some ⟨g2, 0, none⟩) s.nb s.nb)
  have hx3 := heap_setCell_same W2 w.heap.size 4 _ 64 (.slice (some ⟨g2, 0, none⟩) s.nb s.nb) HX2.out
  obtain ⟨W3, hW3⟩ : ∃ W3, W3 = W2.setCell ⟨w.heap.size, 4, none⟩ (.slice (some ⟨g2, 0, none⟩) s.nb s.nb) := ⟨_, rfl⟩
  rw [← hW3] at hc3 hb3 hx3 ⊢
  have hk3 := (hb3.block _ HBL.out).trans HBK.out
  have k5 := cell_of_row W3 b 5 _ 64 (0, 0) hk3
  have HCL := Lib.hid (clone_any (HD.out.flt.kept (hb3.block _ HD.out.flt.lt)))
  have HX3 := Lib.hid hx3
  have HC3 := Lib.hid hc3
  have HB3 := Lib.hid hb3
  clear hc3 hb3 hx3 hk3 d4 y4 f4 hW3
  go_wp2_with ((go_at_call 49; with_reducible refine HCL.out.mono ?_); rintro e W4 ⟨rfl, hs4, hb4⟩; have HS4 := Lib.hid hs4; have HB4 := Lib.hid hb4; have HX4 := Lib.hid ((hb4.block _ (Array.getElem?_eq_some_iff.1 HX3.out).1).trans HX3.out); have y5 := cell_of_row W4 w.heap.size 5 _ 64 (0, 0) HX4.out; have f5 := frozen_of_row W4 w.heap.size 5 _ 64 HX4.out; clear hs4 hb4)
  go_ret
  have hX := HB3.out.size
  have hY := (Array.getElem?_eq_some_iff.1 HX3.out).1
  have hb5 := (HB3.out.trans (HB4.out.mono HB3.out.size)).setCell (p := ⟨w.heap.size, 5, none⟩) (Nat.le_refl _) (.map (some W3.heap.size))
  refine ⟨w.heap.size, g2, W3.heap.size, V2, rfl, cp_dv HD.out (((HC3.out.below HB4.out).put HX4.out _).base HB1.out.size) (Nat.le_refl _) (by have := HG2.out; have := HS1.out; omega) hX ?_ (HS4.out.kept (heap_setCell_other _ _ _ _ (by show W3.heap.size ≠ w.heap.size; omega))), HD.out.below hb5, hb5⟩
  exact heap_setCell_same W4 w.heap.size 5 _ 64 _ HX4.out
end
end Go.Proofs.Ytddejcoagcaidaa
