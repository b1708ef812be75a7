/- The contract of Decode. Condition: the table lies as the program's text lays it. -/
import Derived.Test.YtcebockdfkjoiaaDoorI
import Derived.Test.YtcebockdfkjoiaaDoorQ
import Derived.Test.YtcebockdfkjoiaaDoorB
import Derived.Laws.Cover1
import Derived.Laws.Rows
namespace Go.Proofs.YtcebockdfkjoiaaDoor
open Go.RowKit
set_option linter.unusedVariables false
set_option maxHeartbeats 1000000
set_option maxRecDepth 100000

theorem results_row1 {P : Program} {fn : Func} {a b : Tmp} {ty : TypeId} (h : fn.results = #[.cell a ty, .tmp b]) (tmps : Array Value) (w : World) (g : Nat) (t : TypeId) (cs : Array Value) (fr : Nat × Nat) (d : TypeDesc) (ha : tmps.getD a undef = .pointer (some ⟨g, 0, none⟩)) (hg : w.heap[g]? = some (.cells cs t fr))
    (hu : P.underlying ty = some d) (hd : (match d with | .struct _ | .array _ _ => true | _ => false) = true) (hi : (P.info? ty).map (·.size) = some cs.size) : (results fn tmps).run P w = .ok (.tuple #[.agg cs, tmps.getD b undef]) w := by
  have e := run_loadVar_row (P := P) w g t ty cs fr d hg hu hd hi
  have ha2 : tmps[a]?.getD undef = .pointer (some ⟨g, 0, none⟩) := by simpa using ha
  simp [results, h, ha2, asAddr, e]
theorem info25 : (Tryd.prog.info? 25).map (·.size) = some 6 := by kernel_rfl
theorem sub_byt2 {w : World} {l : List UInt8} {A : Option Addr} {c lo hi : Nat} (h : Byt w (.slice A l.length c) l) (h1 : lo ≤ hi) (h2 : hi ≤ l.length) : Byt w (sliced A lo hi c 1) ((l.take hi).drop lo) := by
  obtain ⟨A', c', e, hc, hr⟩ := h
  simp only [Value.slice.injEq, true_and] at e
  obtain ⟨rfl, rfl⟩ := e
  have hlen : ((l.take hi).drop lo).length = hi - lo := by simp; omega
  refine ⟨_, _, by unfold sliced; rw [hlen], by rw [hlen]; omega, fun h0 => ?_⟩
  rw [hlen] at h0
  obtain ⟨g, o, rfl, hg, hcell⟩ := hr (by omega)
  refine ⟨g, o + lo, ?_, hg, fun j hj => ?_⟩
  · rw [if_neg (by omega)]
    simp [add_plain]
  · rw [hlen] at hj
    rw [Nat.add_assoc, hcell (lo + j) (by omega)]
    simp
theorem slice_lh {w : World} {l : List UInt8} {A : Option Addr} {c lo hi : Nat} (h : Byt w (.slice A l.length c) l) (h1 : lo ≤ hi) (h2 : hi ≤ l.length) (hc : l.length ≤ c) :
    ∃ V, (∀ W : World, (Instr.slice 26 (.slice A l.length c) (some (.int .i64 lo)) (some (.int .i64 hi)) none).run Tryd.prog W = .ok V W) ∧ Byt w V ((l.take hi).drop lo) := by
  refine ⟨_, fun W => ?_, sub_byt2 h h1 h2⟩
  obtain ⟨i0, hi0, hz0, hz1, hz2⟩ := info_parts u8_info
  rw [run_slice_lh (P := Tryd.prog) (w := W) (t := 26) (a := A) (len := l.length) (cap := c) (ht := by rw [Tryd.underlying26]; rfl) .i64 .i64 lo hi (by omega) (by omega) (by omega)]
  simp [sizeOf, typeInfo, show Tryd.prog.elem 26 = 5 by kernel_rfl, hi0, hz1]
theorem slice_h {w : World} {l : List UInt8} {A : Option Addr} {c hi : Nat} (h : Byt w (.slice A l.length c) l) (h2 : hi ≤ l.length) (hc : l.length ≤ c) :
    ∃ V, (∀ W : World, (Instr.slice 26 (.slice A l.length c) none (some (.int .i64 hi)) none).run Tryd.prog W = .ok V W) ∧ Byt w V (l.take hi) := by
  have h3 := sub_byt2 h (Nat.zero_le hi) h2
  rw [List.drop_zero] at h3
  refine ⟨_, fun W => ?_, h3⟩
  obtain ⟨i0, hi0, hz0, hz1, hz2⟩ := info_parts u8_info
  rw [run_slice_h (P := Tryd.prog) (w := W) (t := 26) (a := A) (len := l.length) (cap := c) (ht := by rw [Tryd.underlying26]; rfl) .i64 hi (by omega) (by omega)]
  simp [sizeOf, typeInfo, show Tryd.prog.elem 26 = 5 by kernel_rfl, hi0, hz1]
theorem slice_l {w : World} {l : List UInt8} {A : Option Addr} {c lo : Nat} (h : Byt w (.slice A l.length c) l) (h1 : lo ≤ l.length) (hc : l.length ≤ c) :
    ∃ V, (∀ W : World, (Instr.slice 26 (.slice A l.length c) (some (.int .i64 lo)) none none).run Tryd.prog W = .ok V W) ∧ Byt w V (l.drop lo) := by
  have h3 := sub_byt2 h h1 (Nat.le_refl _)
  rw [List.take_length] at h3
  refine ⟨_, fun W => ?_, h3⟩
  obtain ⟨i0, hi0, hz0, hz1, hz2⟩ := info_parts u8_info
  rw [run_slice_l (P := Tryd.prog) (w := W) (t := 26) (a := A) (len := l.length) (cap := c) (ht := by rw [Tryd.underlying26]; rfl) .i64 lo (by omega) (by omega)]
  simp [sizeOf, typeInfo, show Tryd.prog.elem 26 = 5 by kernel_rfl, hi0, hz1]
/-- What Decode leaves. -/
def DecPost (w : World) (b data : List UInt8) (e : Ending) (w' : World) : Prop := e = .returned (.tuple #[(Sp.dec b data).1.val, .int .i64 (Sp.dec b data).2]) ∧ Below w.heap.size w w'
theorem Decode_len (v1 v2 : Value) (b data : List UInt8) (w : World) (h : Byt w v1 b) (hb : b.length ≤ maxLen) (hl : b.length ≠ 64) : Calls Tryd.prog 16 #[v1, v2] w (DecPost w b data) := by
  have He := Lib.hid (show Sp.dec b data = (Sp.zero, 2) by unfold Sp.dec; rw [if_pos hl])
  obtain ⟨A, c, rfl, -, -⟩ := h
  unfold maxLen at hb
  have hl2 : ¬ (b.length : Int) = 64 := by omega
  generalize b.length = n at *
  clear hl
  go_enter Tryd.func16, Tryd.ntmps16
  go_wp2
  (try simp only [Exit.inBlock, Exit.then])
  refine bodyPost_ret (results_row1 (a := 4) (b := 5) (ty := 25) rfl _ _ w.heap.size 25 #[.int .u8 0, .int .i64 0, .int .u64 0, .int .u64 0, .int .i64 0, .int .i64 0] (0, 0) _ rfl ?_ Tryd.underlying25 rfl info25) rfl ?_
  · exact heap_alloc_new w _
  · exact ⟨by rw [He.out]; rfl, below_alloc w _⟩
theorem Get_four (v : Value) (l : List UInt8) (w : World) (h : Byt w v l) (hl : l.length = 4) : Calls Tryd.prog 27 #[v] w fun e w' => e = .returned (.tuple #[.int .u64 (getV l : Nat), .int .i64 0]) ∧ w = w' := by
  have hg := Get_any v l w h (by omega)
  have e1 : getZ l = (getV l : Int) := by unfold getZ; rw [if_neg (by omega)]
  have e2 : getE l = 0 := by unfold getE; rw [if_neg (by omega)]
  rwa [e1, e2] at hg
theorem zero_row {w W : World} (hb : Below (w.alloc (.cells #[.int .u8 0, .int .i64 0, .int .u64 0, .int .u64 0, .int .i64 0, .int .i64 0] 25)).heap.size (w.alloc (.cells #[.int .u8 0, .int .i64 0, .int .u64 0, .int .u64 0, .int .i64 0, .int .i64 0] 25)) W) :
    W.heap[w.heap.size]? = some (.cells #[.int .u8 0, .int .i64 0, .int .u64 0, .int .u64 0, .int .i64 0, .int .i64 0] 25 (0, 0)) := (hb.block _ (by simp)).trans (heap_alloc_new w _)
theorem store_six {W : World} {n : Nat} {t : TypeId} {a0 a1 a2 a3 a4 a5 : Value} (u0 u1 u2 u3 u4 u5 : Value) (h : W.heap[n]? = some (.cells #[a0, a1, a2, a3, a4, a5] t (0, 0))) :
    ((((((W.setCell ⟨n, 0, none⟩ u0).setCell ⟨n, 1, none⟩ u1).setCell ⟨n, 2, none⟩ u2).setCell ⟨n, 3, none⟩ u3).setCell ⟨n, 4, none⟩ u4).setCell ⟨n, 5, none⟩ u5).heap[n]? = some (.cells #[u0, u1, u2, u3, u4, u5] t (0, 0)) :=
  set_row _ n 5 _ _ u5 (set_row _ n 4 _ _ u4 (set_row _ n 3 _ _ u3 (set_row _ n 2 _ _ u2 (set_row _ n 1 _ _ u1 (set_row W n 0 _ _ u0 h)))))
theorem below_six {w W : World} {n : Nat} (u0 u1 u2 u3 u4 u5 : Value) (h : Below n w W) : Below n w ((((((W.setCell ⟨n, 0, none⟩ u0).setCell ⟨n, 1, none⟩ u1).setCell ⟨n, 2, none⟩ u2).setCell ⟨n, 3, none⟩ u3).setCell ⟨n, 4, none⟩ u4).setCell ⟨n, 5, none⟩ u5) :=
  (((((h.setCell (p := ⟨n, 0, none⟩) (Nat.le_refl _) u0).setCell (p := ⟨n, 1, none⟩) (Nat.le_refl _) u1).setCell (p := ⟨n, 2, none⟩) (Nat.le_refl _) u2).setCell (p := ⟨n, 3, none⟩) (Nat.le_refl _) u3).setCell (p := ⟨n, 4, none⟩) (Nat.le_refl _) u4).setCell (p := ⟨n, 5, none⟩) (Nat.le_refl _) u5
theorem Decode_64 (v1 v2 : Value) (b data : List UInt8) (w : World) (hT : Tabs w) (h : Byt w v1 b) (h2 : Byt w v2 data) (hn : data.length ≤ maxLen) (hl : b.length = 64) : Calls Tryd.prog 16 #[v1, v2] w (DecPost w b data) := by
  obtain ⟨R, hR⟩ : ∃ R, R = Sp.dec b data := ⟨_, rfl⟩
  have hR0 := hR
  unfold Sp.dec at hR
  rw [if_neg (by omega)] at hR
  have hfin : ∀ w', Below w.heap.size w w' → DecPost w b data (.returned (.tuple #[R.1.val, .int .i64 R.2])) w' := fun w' hb => ⟨by rw [hR0], hb⟩
  have Hfin := Lib.hid hfin; clear hfin hR0
  generalize hD : DecPost w b data = D at *
  clear hD
  obtain ⟨A, c, rfl, hc, hr⟩ := h
  have hB : Byt w (.slice A b.length c) b := ⟨A, c, rfl, hc, hr⟩
  obtain ⟨V1, e1, h1⟩ := slice_l (lo := 60) hB (by omega) hc
  obtain ⟨V2, e2, h3⟩ := slice_h (hi := 60) hB (by omega) hc
  have l4 : (b.drop 60).length = 4 := by rw [List.length_drop]; omega
  have l60 : (b.take 60).length = 60 := by rw [List.length_take]; omega
  generalize b.drop 60 = tail at *
  generalize b.take 60 = body at *
  rw [hl] at e1 e2 ⊢
  replace e1 : ∀ W : World, (Instr.slice 26 (.slice A 64 c) (some (.int .i64 60)) none none).run Tryd.prog W = .ok V1 W := e1
  replace e2 : ∀ W : World, (Instr.slice 26 (.slice A 64 c) none (some (.int .i64 60)) none).run Tryd.prog W = .ok V2 W := e2
  clear hB hr hc hl
  have H1 := Lib.hid (h1.below (below_alloc w (.cells #[.int .u8 0, .int .i64 0, .int .u64 0, .int .u64 0, .int .i64 0, .int .i64 0] 25)))
  have H2 := Lib.hid (h2.below (below_alloc w (.cells #[.int .u8 0, .int .i64 0, .int .u64 0, .int .u64 0, .int .i64 0, .int .i64 0] 25)))
  have H3 := Lib.hid (h3.below (below_alloc w (.cells #[.int .u8 0, .int .i64 0, .int .u64 0, .int .u64 0, .int .i64 0, .int .i64 0] 25)))
  have HT := Lib.hid (hT.below (below_alloc w (.cells #[.int .u8 0, .int .i64 0, .int .u64 0, .int .u64 0, .int .i64 0, .int .i64 0] 25)))
  have Hn := Lib.hid hn; have L4 := Lib.hid l4; have L60 := Lib.hid l60
  have HR := Lib.hid hR
  clear h1 h2 h3 hT hn l4 l60 hR
  have hx := getV_lt tail
  rw [L4.out] at hx
  have hy := crc32_lt (data ++ body)
  go_enter Tryd.func16, Tryd.ntmps16
  go_wp2_with fail
  refine (Get_four V1 tail _ H1.out L4.out).mono ?_
  rintro e w' ⟨rfl, rfl⟩
  obtain ⟨X, hX⟩ : ∃ X : Int, X = (getV tail : Nat) := ⟨_, rfl⟩
  rw [← hX]
  have HX := Lib.hid hX; clear hX
  go_wp2_with fail
  refine (checksum_any v2 V2 data body _ HT.out H2.out H3.out Hn.out (by rw [L60.out]; decide)).mono ?_
  rintro e W1 ⟨rfl, hb⟩
  obtain ⟨Y, hY⟩ : ∃ Y : Int, Y = (crc32 (data ++ body) : Nat) := ⟨_, rfl⟩
  rw [← hY]
  have HY := Lib.hid hY; clear hY
  have Hb := Lib.hid hb
  have hrow := zero_row hb
  clear hb
  by_cases hXY : X = Y
  · subst hXY
    have hm : getV tail = crc32 (data ++ body) := by have := HX.out; have := HY.out; omega
    have Hm := Lib.hid hm; clear hm hx hy HX HY
    go_wp2_with fail
    refine (parse_any V2 body W1 (H3.out.below Hb.out) L60.out).mono ?_
    rintro e W2 ⟨rfl, hb⟩
    have hrow2 : W2.heap[w.heap.size]? = some (.cells #[.int .u8 0, .int .i64 0, .int .u64 0, .int .u64 0, .int .i64 0, .int .i64 0] 25 (0, 0)) := (hb.block _ (Array.getElem?_eq_some_iff.1 hrow).1).trans hrow
    have HB2 := Lib.hid (((below_alloc w (.cells #[.int .u8 0, .int .i64 0, .int .u64 0, .int .u64 0, .int .i64 0, .int .i64 0] 25)).trans (Hb.out.mono (by simp))).trans (hb.mono (by have := Hb.out.size; simp at this; omega)))
    have HRow := Lib.hid hrow2
    clear hb hrow
    have c0 : W2.cell? ⟨w.heap.size, 0, none⟩ = some (.int .u8 0) := cell_of_row W2 w.heap.size 0 _ 25 (0, 0) hrow2
    have f0 : W2.frozen? ⟨w.heap.size, 0, none⟩ = false := frozen_of_row W2 w.heap.size 0 _ 25 hrow2
    have c1 : W2.cell? ⟨w.heap.size, 1, none⟩ = some (.int .i64 0) := cell_of_row W2 w.heap.size 1 _ 25 (0, 0) hrow2
    have f1 : W2.frozen? ⟨w.heap.size, 1, none⟩ = false := frozen_of_row W2 w.heap.size 1 _ 25 hrow2
    have c2 : W2.cell? ⟨w.heap.size, 2, none⟩ = some (.int .u64 0) := cell_of_row W2 w.heap.size 2 _ 25 (0, 0) hrow2
    have f2 : W2.frozen? ⟨w.heap.size, 2, none⟩ = false := frozen_of_row W2 w.heap.size 2 _ 25 hrow2
    have c3 : W2.cell? ⟨w.heap.size, 3, none⟩ = some (.int .u64 0) := cell_of_row W2 w.heap.size 3 _ 25 (0, 0) hrow2
    have f3 : W2.frozen? ⟨w.heap.size, 3, none⟩ = false := frozen_of_row W2 w.heap.size 3 _ 25 hrow2
    have c4 : W2.cell? ⟨w.heap.size, 4, none⟩ = some (.int .i64 0) := cell_of_row W2 w.heap.size 4 _ 25 (0, 0) hrow2
    have f4 : W2.frozen? ⟨w.heap.size, 4, none⟩ = false := frozen_of_row W2 w.heap.size 4 _ 25 hrow2
    have c5 : W2.cell? ⟨w.heap.size, 5, none⟩ = some (.int .i64 0) := cell_of_row W2 w.heap.size 5 _ 25 (0, 0) hrow2
    have f5 : W2.frozen? ⟨w.heap.size, 5, none⟩ = false := frozen_of_row W2 w.heap.size 5 _ 25 hrow2
    clear hrow2
    obtain ⟨E, hE⟩ : ∃ E : Int, E = if Sp.fine body then 0 else 6 := ⟨_, rfl⟩
    obtain ⟨S, hS⟩ : ∃ S : Sp, S = if Sp.fine body then Sp.raw body else Sp.zero := ⟨_, rfl⟩
    rw [← hE, ← hS]
    have HE := Lib.hid hE; have HS := Lib.hid hS
    have Hfin2 : Hid (R.1 = S ∧ R.2 = E) := Lib.hid (by
      have := HR.out
      rw [if_neg (by rw [Hm.out]; simp)] at this
      rw [this, hE, hS]
      by_cases hf : Sp.fine body
      · rw [if_pos hf, if_pos hf, if_pos hf]; exact ⟨rfl, rfl⟩
      · rw [if_neg hf, if_neg hf, if_neg hf]; exact ⟨rfl, rfl⟩)
    clear hE hS
    clear HE HS
    unfold Sp.val at *
    go_wp2
    (try simp only [Exit.inBlock, Exit.then])
    refine bodyPost_ret (results_row1 (a := 4) (b := 5) (ty := 25) rfl _ _ w.heap.size 25 #[.int .u8 (S.kind : Int), .int .i64 S.sector, .int .u64 (S.seq : Int), .int .u64 (S.prev : Int), .int .i64 S.index, .int .i64 S.length] (0, 0) _ rfl (store_six _ _ _ _ _ _ HRow.out) Tryd.underlying25 rfl info25) rfl ?_
    have hf := Hfin.out _ (below_six (.int .u8 (S.kind : Int)) (.int .i64 S.sector) (.int .u64 (S.seq : Int)) (.int .u64 (S.prev : Int)) (.int .i64 S.index) (.int .i64 S.length) HB2.out)
    rw [Hfin2.out.1, Hfin2.out.2] at hf
    exact hf
  · have hxy : (X == Y) = false := by simpa using hXY
    have HRow := Lib.hid hrow
    have HB2 := Lib.hid ((below_alloc w (.cells #[.int .u8 0, .int .i64 0, .int .u64 0, .int .u64 0, .int .i64 0, .int .i64 0] 25)).trans (Hb.out.mono (by simp)))
    have c0 : W1.cell? ⟨w.heap.size, 0, none⟩ = some (.int .u8 0) := cell_of_row W1 w.heap.size 0 _ 25 (0, 0) hrow
    have f0 : W1.frozen? ⟨w.heap.size, 0, none⟩ = false := frozen_of_row W1 w.heap.size 0 _ 25 hrow
    have c1 : W1.cell? ⟨w.heap.size, 1, none⟩ = some (.int .i64 0) := cell_of_row W1 w.heap.size 1 _ 25 (0, 0) hrow
    have f1 : W1.frozen? ⟨w.heap.size, 1, none⟩ = false := frozen_of_row W1 w.heap.size 1 _ 25 hrow
    have c2 : W1.cell? ⟨w.heap.size, 2, none⟩ = some (.int .u64 0) := cell_of_row W1 w.heap.size 2 _ 25 (0, 0) hrow
    have f2 : W1.frozen? ⟨w.heap.size, 2, none⟩ = false := frozen_of_row W1 w.heap.size 2 _ 25 hrow
    have c3 : W1.cell? ⟨w.heap.size, 3, none⟩ = some (.int .u64 0) := cell_of_row W1 w.heap.size 3 _ 25 (0, 0) hrow
    have f3 : W1.frozen? ⟨w.heap.size, 3, none⟩ = false := frozen_of_row W1 w.heap.size 3 _ 25 hrow
    have c4 : W1.cell? ⟨w.heap.size, 4, none⟩ = some (.int .i64 0) := cell_of_row W1 w.heap.size 4 _ 25 (0, 0) hrow
    have f4 : W1.frozen? ⟨w.heap.size, 4, none⟩ = false := frozen_of_row W1 w.heap.size 4 _ 25 hrow
    have c5 : W1.cell? ⟨w.heap.size, 5, none⟩ = some (.int .i64 0) := cell_of_row W1 w.heap.size 5 _ 25 (0, 0) hrow
    have f5 : W1.frozen? ⟨w.heap.size, 5, none⟩ = false := frozen_of_row W1 w.heap.size 5 _ 25 hrow
    have Hne : Hid (R = (Sp.zero, 10)) := Lib.hid (by
      have h1 := HR.out
      rw [if_pos (by intro e; apply hXY; have := HX.out; have := HY.out; omega)] at h1
      exact h1)
    clear HX HY hx hy hrow HR
    go_wp2
    (try simp only [Exit.inBlock, Exit.then])
    refine bodyPost_ret (results_row1 (a := 4) (b := 5) (ty := 25) rfl _ _ w.heap.size 25 #[.int .u8 0, .int .i64 0, .int .u64 0, .int .u64 0, .int .i64 0, .int .i64 0] (0, 0) _ rfl (store_six _ _ _ _ _ _ HRow.out) Tryd.underlying25 rfl info25) rfl ?_
    have hf := Hfin.out _ (below_six (.int .u8 0) (.int .i64 0) (.int .u64 0) (.int .u64 0) (.int .i64 0) (.int .i64 0) HB2.out)
    rw [Hne.out] at hf
    exact hf
theorem Decode_any (v1 v2 : Value) (b data : List UInt8) (w : World) (hT : Tabs w) (h : Byt w v1 b) (h2 : Byt w v2 data) (hb : b.length ≤ maxLen) (hn : data.length ≤ maxLen) : Calls Tryd.prog 16 #[v1, v2] w (DecPost w b data) := by
  by_cases hl : b.length = 64
  · exact Decode_64 v1 v2 b data w hT h h2 hn hl
  · exact Decode_len v1 v2 b data w h hb hl
end Go.Proofs.YtcebockdfkjoiaaDoor
