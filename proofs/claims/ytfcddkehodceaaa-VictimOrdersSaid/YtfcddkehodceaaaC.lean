/- Rows of ranked candidates in memory; the filter of rank. Conditions stand in each theorem. -/
import Derived.Test.YtfcddkehodceaaaBP
import Derived.Laws.OwnMore
import Derived.Laws.MakeOwn
import Derived.Deep.AppendSrc
import Derived.Lib.AppendZeros
import Derived.Lib.SliceRun
namespace Go.Proofs.Ytfcddkehodceaaa
open Go.RowKit
set_option linter.unusedVariables false
set_option maxHeartbeats 4000000
set_option maxRecDepth 100000
def Cd.row (c : Cd) : Array Value := #[.int .i64 c.bl, .int .i64 c.va, .int .i64 c.pa, .int .i64 c.ag]
/-- The cells of ranked candidates, as a row. -/
def fl7 (L : List Rk) : List Value := L.flatMap Rk.cells
theorem fl7_length (L : List Rk) : (fl7 L).length = L.length * 7 := by
  unfold fl7
  induction L with
  | nil => rfl
  | cons e r ih => rw [List.flatMap_cons, List.length_append, ih]; simp [Rk.cells]; omega
theorem fl7_snoc (L : List Rk) (r : Rk) : fl7 (L ++ [r]) = fl7 L ++ r.cells := by simp [fl7]
theorem fl7_at (L : List Rk) (i j : Nat) (hi : i < L.length) (hj : j < 7) : (fl7 L)[i * 7 + j]? = L[i].cells[j]? := by
  induction L generalizing i with
  | nil => cases hi
  | cons e r ih =>
    have hc : e.cells.length = 7 := rfl
    show (e.cells ++ fl7 r)[i * 7 + j]? = _
    cases i with
    | zero =>
      rw [List.getElem?_append_left (by rw [hc]; omega)]
      simp
    | succ i =>
      rw [List.getElem?_append_right (by rw [hc]; omega), hc, show (i + 1) * 7 + j - 7 = i * 7 + j by omega, ih i (by simpa using hi)]
      simp
/-- The first k elements of block g, of n, are those of L. -/
structure AllAt (W : World) (g n k : Nat) (L : List Rk) : Prop where
  row : ∃ cur, W.heap[g]? = some (.cells cur 52 (0, 0)) ∧ cur.size = n * 7
  le : k ≤ L.length
  el : ∀ i (h : i < L.length), i < k → RkAt W g (i * 7) L[i]
theorem AllAt.lt {W : World} {g n k : Nat} {L : List Rk} (h : AllAt W g n k L) : g < W.heap.size := by
  obtain ⟨cur, h1, _⟩ := h.row
  exact (Array.getElem?_eq_some_iff.1 h1).1
theorem RkAt.same {W W' : World} {g o : Nat} {r : Rk} (h : RkAt W g o r) (hk : W'.heap[g]? = W.heap[g]?) : RkAt W' g o r := by
  have e : ∀ j, W'.cell? ⟨g, j, none⟩ = W.cell? ⟨g, j, none⟩ := fun j => World.cell?_of_block (w := W) hk
  exact ⟨(e _).trans h.c0, (e _).trans h.c1, (e _).trans h.c2, (e _).trans h.c3, (e _).trans h.c4, (e _).trans h.c5, (e _).trans h.c6⟩
theorem AllAt.same {W W' : World} {g n k : Nat} {L : List Rk} (h : AllAt W g n k L) (hk : W'.heap[g]? = W.heap[g]?) : AllAt W' g n k L := by
  obtain ⟨cur, h1, h2⟩ := h.row
  exact ⟨⟨cur, hk.trans h1, h2⟩, h.le, fun i hi hik => (h.el i hi hik).same hk⟩
theorem AllAt.below {W W' : World} {g n k B : Nat} {L : List Rk} (h : AllAt W g n k L) (hb : Below B W W') (hg : g < B) : AllAt W' g n k L := h.same (hb.block g hg)
/-- The slice of those that were chosen: none yet, or a row of its own. -/
def Own7 (W : World) (base : Nat) (v : Value) (L : List Rk) : Prop := (L = [] ∧ ∃ a, v = .slice a 0 0) ∨ (L ≠ [] ∧ W.ownsRow base 52 7 v L.length (fl7 L))
theorem info52 : (Try.prog.info? 52).map (fun i => (i.zero, i.size, i.bytes)) = some (some (.agg #[.int .i64 0, .int .i64 0, .int .i64 0, .int .i64 0, .int .i64 0, .int .i64 0, .int .i64 0]), 7, 56) := by kernel_rfl
theorem info_parts {e : TypeId} {z : Option Value} {s b : Nat} (h : (Try.prog.info? e).map (fun i => (i.zero, i.size, i.bytes)) = some (z, s, b)) : ∃ i, Try.prog.info? e = some i ∧ i.zero = z ∧ i.size = s ∧ i.bytes = b := by
  cases hi : Try.prog.info? e with
  | none => rw [hi] at h; cases h
  | some i => rw [hi] at h; simp only [Option.map_some, Option.some.injEq, Prod.mk.injEq] at h; exact ⟨i, rfl, h.1, h.2.1, h.2.2⟩
theorem rk_one (r : Rk) : ∀ u ∈ r.cells, u.oneCell' = true := by
  intro u hu
  simp only [Rk.cells, List.mem_cons, List.mem_nil_iff, or_false] at hu
  rcases hu with rfl | rfl | rfl | rfl | rfl | rfl | rfl <;> rfl
theorem RkAt.cells {W : World} {b o : Nat} {r : Rk} (h : RkAt W b o r) : ∀ j u, r.cells[j]? = some u → W.cell? ((⟨b, o, none⟩ : Addr).add j) = some u := by
  intro j u hu
  have e : ((⟨b, o, none⟩ : Addr).add j) = ⟨b, o + j, none⟩ := by unfold Addr.add; split <;> simp_all
  rw [e]
  have hj : j < 7 := (List.getElem?_eq_some_iff.1 hu).1
  have : j = 0 ∨ j = 1 ∨ j = 2 ∨ j = 3 ∨ j = 4 ∨ j = 5 ∨ j = 6 := by omega
  rcases this with rfl | rfl | rfl | rfl | rfl | rfl | rfl <;> (simp only [Rk.cells, List.getElem?_cons_succ, List.getElem?_cons_zero, Option.some.injEq] at hu; subst hu)
  · exact h.c0
  · exact h.c1
  · exact h.c2
  · exact h.c3
  · exact h.c4
  · exact h.c5
  · exact h.c6
/-- One ranked candidate is appended. -/
theorem app7 {W : World} {base b : Nat} {v : Value} {L : List Rk} {r : Rk} (ho : Own7 W base v L) (hb : base ≤ W.heap.size) (hl : L.length < 5000) (hr : RkAt W b 0 r) :
    ∃ v' W', (Builtin.append_ #[46, 46] 46 #[v, .slice (some ⟨b, 0, none⟩) 1 1]).run Try.prog W = .ok v' W' ∧ Own7 W' base v' (L ++ [r]) ∧ Below base W W' := by
  obtain ⟨i, hi, hz0, hz1, hz2⟩ := info_parts info52
  rcases ho with ⟨rfl, a, rfl⟩ | ⟨hne, ho⟩
  · have hsrc : Src Try.prog i.size 46 (.slice (some ⟨b, 0, none⟩) 1 1) 1 r.cells W := Src.ofSlice W Try.underlying46 ⟨b, 0, none⟩ 1 1 r.cells (by rw [hz1]; rfl) hr.cells (rk_one r)
    have hg := run_append_grow_src (P := Try.prog) W 46 46 46 52 i _ Try.underlying46 hi hz0 a 0 0 [] (by cases a <;> simp [Builtin.firstCells, loadCells, loadCellsFrom]) (.slice (some ⟨b, 0, none⟩) 1 1) 1 r.cells hsrc (by omega) (by omega) (by rw [hz2]; decide)
    refine ⟨_, _, hg, .inr ⟨by simp, ?_⟩, ?_⟩
    · have hge := grownCap_ge W (0 + 1) 0 52
      have hcm : grownCap W (0 + 1) 0 52 ≤ maxLen := grownCap_le_maxLen W (0 + 1) 0 52 (by unfold maxLen; omega)
      refine ⟨by simp [fl7, Rk.cells], .inr ⟨W.heap.size, grownCap W (0 + 1) 0 52, _, rfl, hb, heap_alloc_new W.drew _, by simpa using hge, hcm, ?_, ?_⟩⟩
      · simp only [Array.size_append, List.size_toArray, size_zeroCells, List.nil_append]
        show 7 + (grownCap W (0 + 1) 0 52 - (0 + 1)) * 7 = _
        omega
      · simp [fl7, Rk.cells]
    · exact ((Below.refl _ _).drew).alloc hb _
  · obtain ⟨v', W', h1, h2, h3, _⟩ := run_append_own (P := Try.prog) W base 46 46 52 i _ 7 56 Try.underlying46 hi hz0 hz1 hz2 rfl (by decide) v L.length (fl7 L) ho ⟨b, 0, none⟩ 1 1 r.cells rfl hr.cells (rk_one r) (by unfold maxLen; omega) (by omega) hb
    refine ⟨v', W', h1, .inr ⟨by simp, ?_⟩, ?_⟩
    · rw [fl7_snoc, List.length_append]; exact h2
    · exact ⟨h3.os, h3.tape, h3.output, h3.size, fun k hk => h3.block k (by omega) (fun e => by have := (ho.lt k e.symm).1; omega)⟩
/-- The useful ones among the first k. -/
def useK (L : List Rk) (k : Nat) : List Rk := (L.take k).filter fun r => decide (r.c.va < r.c.pa)
theorem useK_succ (L : List Rk) (k : Nat) (h : k < L.length) : useK L (k + 1) = useK L k ++ if L[k].c.va < L[k].c.pa then [L[k]] else [] := by
  unfold useK
  rw [List.take_add_one, List.getElem?_eq_getElem h, List.filter_append]
  congr 1
  simp only [Option.toList, List.filter_cons, List.filter_nil]
  by_cases h2 : L[k].c.va < L[k].c.pa <;> simp [h2]
theorem useK_le (L : List Rk) (k : Nat) : (useK L k).length ≤ k := by
  unfold useK
  have h1 := List.length_filter_le (fun r : Rk => decide (r.c.va < r.c.pa)) (L.take k)
  have h2 : (L.take k).length ≤ k := by simp; omega
  omega
/-- What those leaves. -/
def ThPost (w : World) (L : List Rk) (e : Ending) (w' : World) : Prop := ∃ v, e = .returned v ∧ Own7 w' w.heap.size v (useK L L.length) ∧ Below w.heap.size w w'
theorem Own7.later {W W' : World} {base : Nat} {v : Value} {L : List Rk} (h : Own7 W base v L) (hb : Below W.heap.size W W') : Own7 W' base v L := by
  rcases h with h | ⟨h1, h2⟩
  · exact .inl h
  · exact .inr ⟨h1, h2.kept (row := none) ⟨hb.os, hb.tape, hb.output, hb.size, fun k hk _ => hb.block k hk⟩ (by cases e : v.ownBlock <;> simp)⟩
theorem those_any (W : World) (g n : Nat) (L : List Rk) (hA : AllAt W g n L.length L) (hn : n = L.length) (hl : n < 5000) : Calls Try.prog 27 #[.slice (some ⟨g, 0, none⟩) n n, .func (.func 28) #[] #[]] W (ThPost W L) := by
  subst hn
  have hg := hA.lt
  have HA := Lib.hid hA
  have hlen : (L.length : Int) < 5000 := by omega
  clear hA
  go_enter Try.func27, Try.ntmps27
  go_wp2
  go_loopw [5, 12] (fun v i wr => ∃ k : Nat, k ≤ L.length ∧ i = .int .i64 k ∧ Hid (Own7 wr W.heap.size v (useK L k)) ∧ Hid (Below W.heap.size W wr)) (fun v i _ => L.length - (RowKit.intOf i).toNat)
  case atStart => exact ⟨0, Nat.zero_le _, rfl, .inl ⟨by simp [useK], _, rfl⟩, Below.refl _ _⟩
  case round =>
    obtain ⟨k, hk, rfl, HO, HB⟩ := hrel
    have hkz : (k : Int) ≤ (L.length : Int) := by omega
    by_cases hlt : k < L.length
    · have hltz : (k : Int) < (L.length : Int) := by omega
      have hr := (HA.out.below HB.out hg).el k hlt hlt
      have hu := useK_succ L k hlt
      have hle := useK_le L k
      obtain ⟨r, hrr⟩ : ∃ r, r = L[k] := ⟨_, rfl⟩
      rw [← hrr] at hr hu
      clear hrr
      have c0 := hr.c0; have c1 := hr.c1; have c2 := hr.c2; have c3 := hr.c3; have c4 := hr.c4; have c5 := hr.c5; have c6 := hr.c6
      have hW1 : Below W.heap.size W (wr.alloc (.cells r.row 52)) := HB.out.alloc HB.out.size _
      have HU := Lib.hid hu
      have HF : Hid (∀ w', Calls Try.prog 28 #[r.v] w' (Ret w' (.bool (decide (r.c.va < r.c.pa))))) := fun w' => useful1_any r w'
      have HOV := Lib.hid (HO.out.later ((Below.refl _ _).alloc (Nat.le_refl _) (.cells r.row 52)))
      have HW1 := Lib.hid hW1
      clear hr hu hW1
      obtain ⟨r0, hr0⟩ : ∃ r0, r0 = r := ⟨_, rfl⟩
      rw [← hr0] at HU
      have HN : Hid (RkAt (wr.alloc (.cells r.row 52)) wr.heap.size 0 r0) := by rw [hr0]; exact RkAt.new wr r 52
      have HNR : Hid (∀ w' : World, RkAt (w'.alloc (.cells r.row 52)) w'.heap.size 0 r0) := by rw [hr0]; exact fun w' => RkAt.new w' r 52
      have HR0 := Lib.hid hr0
      clear hr0
      by_cases hlv : r.c.va < r.c.pa
      · have hlv0 : r0.c.va < r0.c.pa := by rw [HR0.out]; exact hlv
        rw [if_pos hlv0] at HU
        rw [decide_eq_true hlv] at HF
        clear hlv hlv0
        have HR1 : Hid (r.row = r0.row) := by show _ = _; rw [HR0.out]
        clear HR0
        obtain ⟨⟨bl, va, pa, ag⟩, pl⟩ := r
        generalize hn : Cd.num ⟨bl, va, pa, ag⟩ = nn at *
        generalize hd : Cd.den ⟨bl, va, pa, ag⟩ = dd at *
        simp only [Rk.v, Rk.row, hn, hd] at *
        clear hn hd
        obtain ⟨w1, hw1⟩ : ∃ w1 : World, w1 = wr.alloc (.cells #[.int .i64 bl, .int .i64 va, .int .i64 pa, .int .i64 ag, .int .i64 pl, .int .i64 nn, .int .i64 dd] 52) := ⟨_, rfl⟩
        rw [← hw1] at HN HOV HW1
        have HH := Lib.hid hw1
        have f0 := HN.out.c0; have f1 := HN.out.c1; have f2 := HN.out.c2; have f3 := HN.out.c3; have f4 := HN.out.c4; have f5 := HN.out.c5; have f6 := HN.out.c6
        simp only [Nat.zero_add] at f0 f1 f2 f3 f4 f5 f6
        have HR2 := Lib.hid HR1.out
        simp only [Array.mk.injEq, List.cons.injEq, and_true, Value.int.injEq, true_and] at HR1
        obtain ⟨q0, q1, q2, q3, q4, q5, q6⟩ := HR1
        rw [← q0] at f0; rw [← q1] at f1; rw [← q2] at f2; rw [← q3] at f3; rw [← q4] at f4; rw [← q5] at f5; rw [← q6] at f6
        clear q0 q1 q2 q3 q4 q5 q6 HR2
        clear hw1
        go_upto_region 6 with (go_at_call 28; rw [← HH.out]; (with_reducible refine (HF.out _).mono ?_); rintro e w2 ⟨rfl, hg2⟩; have HG2 := Lib.hid hg2; clear hg2)
        have d0 := HG2.out.cell f0; have d1 := HG2.out.cell f1; have d2 := HG2.out.cell f2; have d3 := HG2.out.cell f3; have d4 := HG2.out.cell f4; have d5 := HG2.out.cell f5; have d6 := HG2.out.cell f6
        clear f0 f1 f2 f3 f4 f5 f6 c0 c1 c2 c3 c4 c5 c6
        obtain ⟨v3, w3, hrun, ho3, hb3⟩ := app7 (base := W.heap.size) ((HOV.out.later HG2.out.below).later ((Below.refl _ w2).alloc (Nat.le_refl _) (.cells #[.int .i64 bl, .int .i64 va, .int .i64 pa, .int .i64 ag, .int .i64 pl, .int .i64 nn, .int .i64 dd] 52))) (by rw [World.size_alloc]; have := HW1.out.size; have := HG2.out.below.size; omega) (by omega) (HNR.out w2)
        have HRUN := Lib.hid hrun
        have HO3 := Lib.hid ho3
        have HB3 := Lib.hid hb3
        clear hrun ho3 hb3
        go_wp2_with (at_builtin; refine Lib.wpList_append_run _ rfl (.tmp 19) (.tmp 21) 46 46 rfl _ _ rfl rfl v3 w3 HRUN.out ?_)
        go_roundw
        case rel =>
          refine ⟨k + 1, by omega, by go_num, ?_, ?_⟩
          · show Own7 _ _ _ _
            rw [HU.out]; exact HO3.out
          · exact ((HW1.out.trans (HG2.out.below.mono HW1.out.size)).alloc (by have := HW1.out.size; have := HG2.out.below.size; omega) _).trans HB3.out
        case measure => simp [RowKit.intOf]; omega
      · have hlv0 : ¬ r0.c.va < r0.c.pa := by rw [HR0.out]; exact hlv
        rw [if_neg hlv0] at HU
        rw [decide_eq_false hlv] at HF
        clear hlv hlv0 HR0 HNR HN
        obtain ⟨⟨bl, va, pa, ag⟩, pl⟩ := r
        generalize hn : Cd.num ⟨bl, va, pa, ag⟩ = nn at *
        generalize hd : Cd.den ⟨bl, va, pa, ag⟩ = dd at *
        simp only [Rk.v, Rk.row, hn, hd] at *
        clear hn hd
        go_wp2_with (go_at_call 28; (with_reducible refine (HF.out _).mono ?_); rintro e w2 ⟨rfl, hg2⟩; have HG2 := Lib.hid hg2; clear hg2)
        go_roundw
        case rel =>
          refine ⟨k + 1, by omega, by go_num, ?_, ?_⟩
          · show Own7 _ _ _ _
            rw [HU.out, List.append_nil]; exact HOV.out.later HG2.out.below
          · exact HW1.out.trans (HG2.out.below.mono HW1.out.size)
        case measure => simp [RowKit.intOf]; omega
    · have hkl : k = L.length := by omega
      subst hkl
      go_wp2
      go_ret
      exact ⟨_, rfl, HO.out, HB.out⟩
end Go.Proofs.Ytfcddkehodceaaa
