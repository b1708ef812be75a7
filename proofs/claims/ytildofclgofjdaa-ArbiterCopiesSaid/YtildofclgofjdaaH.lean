/- The contract of byClass. Conditions stand in the theorem. -/
import Derived.Test.YtildofclgofjdaaG
import Derived.Deep.RegionLaw
import Derived.Test.YtildofclgofjdaaLay
namespace Go.Proofs.Ytildofclgofjdaa
open Go.RowKit
set_option linter.unusedVariables false
set_option maxHeartbeats 400000
set_option maxRecDepth 100000
/-- The cells of loads. -/
def lv : List (Int × Int) → List Value
  | [] => []
  | p :: r => .int .i64 p.1 :: .int .i64 p.2 :: lv r
theorem lv_length (l : List (Int × Int)) : (lv l).length = l.length * 2 := by
  induction l with
  | nil => rfl
  | cons p r ih => simp [lv, ih]; omega
theorem lv_append (a b : List (Int × Int)) : lv (a ++ b) = lv a ++ lv b := by
  induction a with
  | nil => rfl
  | cons p r ih => simp [lv, ih]
theorem lv_at (l : List (Int × Int)) (j : Nat) (h : j < l.length) : (lv l)[j * 2]? = some (.int .i64 l[j].1) ∧ (lv l)[j * 2 + 1]? = some (.int .i64 l[j].2) := by
  induction l generalizing j with
  | nil => cases h
  | cons p r ih =>
    cases j with
    | zero => exact ⟨rfl, rfl⟩
    | succ j =>
      have := ih j (by simpa using h)
      rw [show (j + 1) * 2 = j * 2 + 1 + 1 by omega]
      simpa [lv] using this
/-- The loads of the class c that wait. -/
def St.wait (s : St) (l : List (Int × Int)) (c : Nat) : List (Int × Int) := l.filter fun p => decide (0 < p.2) && (s.cls p.1 == (c : Int))
theorem wait_succ (s : St) (l : List (Int × Int)) (k : Nat) (h : k < l.length) (c : Nat) : s.wait (l.take (k + 1)) c = s.wait (l.take k) c ++ (if 0 < l[k].2 ∧ s.cls l[k].1 = (c : Int) then [l[k]] else []) := by
  unfold St.wait
  rw [List.take_succ_eq_append_getElem h, List.filter_append]
  congr 1
  by_cases h1 : 0 < l[k].2 ∧ s.cls l[k].1 = (c : Int)
  · simp [h1]
  · rw [if_neg h1]
    simp
    intro h2 h3
    exact h1 ⟨h2, h3⟩
theorem add_plain (g o j : Nat) : (⟨g, o, none⟩ : Addr).add j = ⟨g, o + j, none⟩ := by unfold Addr.add; split <;> simp_all
/-- Block B holds four rows of loads, each in a block of its own from base on. -/
structure Four (w : World) (base B : Nat) (V : Nat → Value) (F : Nat → List (Int × Int)) : Prop where
  blk : w.heap[B]? = some (.cells #[V 0, V 1, V 2, V 3] 84 (0, 0))
  own : ∀ i, i < 4 → w.ownsRow base 48 2 (V i) (F i).length (lv (F i))
  apart : ∀ i j, i < 4 → j < 4 → i ≠ j → (V i).ownBlock = none ∨ (V i).ownBlock ≠ (V j).ownBlock
theorem Four.lt {w : World} {base B : Nat} {V : Nat → Value} {F : Nat → List (Int × Int)} (h : Four w base B V F) : B < w.heap.size := (Array.getElem?_eq_some_iff.1 h.blk).1
theorem Four.grown {w w' : World} {base B : Nat} {V : Nat → Value} {F : Nat → List (Int × Int)} (h : Four w base B V F) (hg : Below w.heap.size w w') : Four w' base B V F :=
  ⟨(hg.block B h.lt).trans h.blk, fun i hi => (h.own i hi).kept (row := none) ⟨hg.os, hg.tape, hg.output, hg.size, fun k hk _ => hg.block k hk⟩ (by cases (V i).ownBlock <;> simp), h.apart⟩
theorem Four.cell {w : World} {base B : Nat} {V : Nat → Value} {F : Nat → List (Int × Int)} (h : Four w base B V F) (c : Nat) (hc : c < 4) : w.cell? ⟨B, c, none⟩ = some (V c) := by
  rw [cell_of_row w B c _ 84 (0, 0) h.blk]
  match c, hc with
  | 0, _ => rfl
  | 1, _ => rfl
  | 2, _ => rfl
  | 3, _ => rfl
theorem Four.free {w : World} {base B : Nat} {V : Nat → Value} {F : Nat → List (Int × Int)} (h : Four w base B V F) (c : Nat) : w.frozen? ⟨B, c, none⟩ = false := frozen_of_row w B c _ 84 h.blk
theorem Four.ne {w : World} {base B : Nat} {V : Nat → Value} {F : Nat → List (Int × Int)} (h : Four w base B V F) (c : Nat) (hc : c < 4) : (V c).ownBlock ≠ some B := by
  rcases (h.own c hc).2 with ⟨e, _⟩ | ⟨g, cap, cur, e, _, hh, _⟩
  · rw [e]; simp [Value.ownBlock]
  · rw [e]
    intro he
    have : g = B := by simpa [Value.ownBlock] using he
    subst this
    rw [h.blk] at hh
    injection hh with hh
    injection hh with _ ht
    exact absurd ht (by decide)
def upd {α : Type} (V : Nat → α) (c : Nat) (v : α) (i : Nat) : α := if i = c then v else V i
theorem Four.made (w : World) (base : Nat) : Four (w.alloc (.cells #[.slice none 0 0, .slice none 0 0, .slice none 0 0, .slice none 0 0] 84)) base w.heap.size (fun _ => .slice none 0 0) (fun _ => []) :=
  ⟨heap_alloc_new w _, fun i hi => World.ownsRow_nil _ _ _ _, fun i j _ _ _ => .inl rfl⟩
/-- One row has grown by a load. -/
theorem Four.put {w w1 w2 : World} {base B : Nat} {V : Nat → Value} {F : Nat → List (Int × Int)} (h : Four w base B V F) (hb : Below w.heap.size w w1) (c : Nat) (hc : c < 4) {g cap : Nat} {p : Int × Int}
    (ho : w2.ownsRow base 48 2 (.slice (some ⟨g, 0, none⟩) ((F c).length + 1) cap) ((F c).length + 1) (lv (F c) ++ [.int .i64 p.1, .int .i64 p.2])) (hg : w1.grownBy w2 (V c).ownBlock) (hl : (V c).ownBlock = some g ∨ g = w1.heap.size) :
    Four (w2.setCell ⟨B, c, none⟩ (.slice (some ⟨g, 0, none⟩) ((F c).length + 1) cap)) base B (upd V c (.slice (some ⟨g, 0, none⟩) ((F c).length + 1) cap)) (upd F c (F c ++ [p])) := by
  have h1 := h.grown hb
  have hB2 : w2.heap[B]? = some (.cells #[V 0, V 1, V 2, V 3] 84 (0, 0)) := (hg.block B h1.lt (fun e => h1.ne c hc e.symm)).trans h1.blk
  have hrow : ∀ i, i < 4 → i ≠ c → w2.ownsRow base 48 2 (V i) (F i).length (lv (F i)) := fun i hi hne => (h1.own i hi).kept hg (h1.apart i c hi hc hne)
  have hgB : g ≠ B := by
    rintro rfl
    rcases hl with e | e
    · exact h1.ne c hc e
    · have := h1.lt; omega
  have hset : ∀ (v : Value) (n : Nat) (xs : List Value), w2.ownsRow base 48 2 v n xs → v.ownBlock ≠ some B → (w2.setCell ⟨B, c, none⟩ (.slice (some ⟨g, 0, none⟩) ((F c).length + 1) cap)).ownsRow base 48 2 v n xs := fun v n xs hv hne =>
    hv.kept (row := some B) ⟨rfl, rfl, rfl, by simp [World.setCell], fun k hk hkb => Below.heap_setCell w2 _ _ k (fun e => hkb (by rw [e]))⟩ (by cases e : v.ownBlock; exact .inl rfl; right; rw [← e]; exact hne)
  refine ⟨?_, fun i hi => ?_, fun i j hi hj hij => ?_⟩
  · rw [heap_setCell_same w2 B c _ 84 _ hB2]
    match c, hc with
    | 0, _ => rfl
    | 1, _ => rfl
    | 2, _ => rfl
    | 3, _ => rfl
  · by_cases e : i = c
    · subst e
      simp only [upd, if_true, List.length_append, List.length_cons, List.length_nil, lv_append]
      exact hset _ _ _ ho (by simpa [Value.ownBlock] using hgB)
    · simp only [upd, if_neg e]
      exact hset _ _ _ (hrow i hi e) (h1.ne i hi)
  · have hfar : ∀ i, i < 4 → i ≠ c → (V i).ownBlock ≠ some g := by
      intro i hi hne e
      rcases hl with e' | e'
      · rcases h1.apart i c hi hc hne with h0 | h0
        · rw [e] at h0; cases h0
        · exact h0 (by rw [e, e'])
      · have := ((h1.own i hi).lt g e).2
        omega
    by_cases e1 : i = c <;> by_cases e2 : j = c
    · omega
    · simp only [upd, if_pos e1, if_neg e2]
      right
      intro e
      exact hfar j hj e2 (by rw [← e]; rfl)
    · simp only [upd, if_neg e1, if_pos e2]
      right
      intro e
      exact hfar i hi e1 (by rw [e]; rfl)
    · simp only [upd, if_neg e1, if_neg e2]
      exact h1.apart i j hi hj hij
theorem info48 : (Try.prog.info? 48).map (fun i => (i.zero, i.size, i.bytes)) = some (some (.agg #[.int .i64 0, .int .i64 0]), 2, 16) := by kernel_rfl
theorem upd_same {α : Type} (V : Nat → α) (c : Nat) (v : α) : upd V c v c = v := by simp [upd]
theorem upd_wait (s : St) (l : List (Int × Int)) (k : Nat) (h : k < l.length) (c : Nat) (hc : s.cls l[k].1 = (c : Int)) (hn : 0 < l[k].2) : upd (s.wait (l.take k)) c (s.wait (l.take k) c ++ [l[k]]) = s.wait (l.take (k + 1)) := by
  funext i
  rw [wait_succ s l k h i]
  unfold upd
  by_cases e : i = c
  · subst e; rw [if_pos rfl, if_pos ⟨hn, hc⟩]
  · rw [if_neg e, if_neg (by rintro ⟨_, h2⟩; rw [hc] at h2; omega), List.append_nil]
theorem same_wait (s : St) (l : List (Int × Int)) (k : Nat) (h : k < l.length) (hn : ¬ 0 < l[k].2) : s.wait (l.take k) = s.wait (l.take (k + 1)) := by
  funext i
  rw [wait_succ s l k h i, if_neg (fun h => hn h.1), List.append_nil]
theorem wait_le (s : St) (l : List (Int × Int)) (k c : Nat) : (s.wait (l.take k) c).length ≤ l.length := by
  unfold St.wait
  have h1 := List.length_filter_le (fun p : Int × Int => decide (0 < p.2) && (s.cls p.1 == (c : Int))) (l.take k)
  simp at h1 ⊢
  omega
theorem cell_two_new (w : World) (x y : Value) (t : TypeId) : ∀ j u, [x, y][j]? = some u → (w.alloc (.cells #[x, y] t)).cell? ((⟨w.heap.size, 0, none⟩ : Addr).add j) = some u := by
  intro j u h
  rw [add_plain]
  match j, h with
  | 0, h => simp at h; subst h; simp
  | 1, h => simp at h; subst h; simp
theorem Four.after {w w2 : World} {base B : Nat} {V : Nat → Value} {F : Nat → List (Int × Int)} (h : Four w base B V F) (c : Nat) (hc : c < 4) (hg : w.grownBy w2 (V c).ownBlock) : w2.cell? ⟨B, c, none⟩ = some (V c) ∧ w2.frozen? ⟨B, c, none⟩ = false := by
  have hB : w2.heap[B]? = w.heap[B]? := hg.block B h.lt (fun e => h.ne c hc e.symm)
  exact ⟨(World.cell?_of_block (w := w) hB).trans (h.cell c hc), (World.frozen?_of_block (w := w) hB).trans (h.free c)⟩
theorem own_form {w : World} {base e sz n : Nat} {v : Value} {xs : List Value} (h : w.ownsRow base e sz v n xs) : ∃ A c, v = .slice A n c := by
  rcases h.2 with ⟨rfl, h0⟩ | ⟨g, cap, cur, rfl, _⟩
  · exact ⟨none, 0, by rw [h0]⟩
  · exact ⟨_, _, rfl⟩
theorem below_alloc (w : World) (o : Obj) : Below w.heap.size w (w.alloc o) := (Below.refl _ _).alloc (Nat.le_refl _) o
def ByPost (w : World) (s : St) (l : List (Int × Int)) (e : Ending) (w' : World) : Prop :=
  ∃ V : Nat → Value, e = .returned (.agg #[V 0, V 1, V 2, V 3]) ∧ (∀ i, i < 4 → w'.ownsRow w.heap.size 48 2 (V i) (s.wait l i).length (lv (s.wait l i))) ∧ Below w.heap.size w w'
set_option maxHeartbeats 2000000 in
theorem byClass_any (b m : Nat) (s : St) (w : World) (h : Arb w b m s) (hs : Srt s.L) (v : Value) (l : List (Int × Int)) (hl : Lds w v l) (hR : Rng l) (hm : l.length ≤ 1000000000) :
    Calls Try.prog 35 #[.pointer (some ⟨b, 0, none⟩), v] w (ByPost w s l) := by
  obtain ⟨A, c, rfl, hc, hr⟩ := hl
  have HR := Lib.hid hr
  have HG := Lib.hid hR
  have H := Lib.hid h
  have HSR := Lib.hid hs
  clear hr hR h hs
  obtain ⟨i48, hi48, hz0, hz1, hz2⟩ := info_parts info48
  go_enter Try.func35, Try.ntmps35
  go_wp2
  go_loopw [11] (fun i wr => ∃ (k : Nat) (V : Nat → Value), k ≤ l.length ∧ i = .int .i64 k ∧ Hid (Four wr (w.heap.size + 1) (w.heap.size + 1) V (s.wait (l.take k))) ∧ Hid (Below w.heap.size w wr) ∧ Hid (wr.heap[w.heap.size]? = some (.cells #[.slice none 0 0, .slice none 0 0, .slice none 0 0, .slice none 0 0] 84 (0, 0)))) (fun i _ => l.length - (RowKit.intOf i).toNat)
  case atStart => exact ⟨0, fun _ => .slice none 0 0, Nat.zero_le _, rfl, by have := Four.made (w.alloc (.cells #[.slice none 0 0, .slice none 0 0, .slice none 0 0, .slice none 0 0] 84)) (w.heap.size + 1); rw [World.size_alloc] at this; exact this, ((Below.refl _ _).alloc (Nat.le_refl _) _).alloc (by simp) _, (Below.heap_alloc _ _ _ (by simp)).trans (heap_alloc_new w _)⟩
  case round =>
    obtain ⟨k, V, hk, rfl, HF, HB, HZ⟩ := hrel
    have hzl : w.heap.size < wr.heap.size := (Array.getElem?_eq_some_iff.1 HZ.out).1
    by_cases hlt : k < l.length
    · obtain ⟨g, o, rfl, hg, hcell⟩ := HR.out (by omega)
      have c1 : wr.cell? ⟨g, o + k * 2, none⟩ = some (.int .i64 l[k].1) := (HB.out.cell (by exact hg)).trans (hcell k hlt).1
      have c2 : wr.cell? ⟨g, o + k * 2 + 1, none⟩ = some (.int .i64 l[k].2) := (HB.out.cell (by exact hg)).trans (hcell k hlt).2
      have hrng := HG.out _ (List.getElem_mem hlt)
      have HU := Lib.hid (upd_wait s l k hlt)
      have HV := Lib.hid (same_wait s l k hlt)
      have HL := Lib.hid (wait_le s l k)
      generalize l[k] = p at *
      obtain ⟨q, n⟩ := p
      simp only at c1 c2 hrng
      obtain ⟨cl, hcl⟩ := Int.eq_ofNat_of_zero_le (show 0 ≤ s.cls q by unfold St.cls; split; exact (look_cls HSR.out q).1; omega)
      have hcl4 : cl < 4 := by
        have : s.cls q ≤ 3 := by unfold St.cls; split; exact (look_cls HSR.out q).2; omega
        omega
      have HA := Lib.hid (H.out.below HB.out)
      have HQ := Lib.hid hrng
      have HCL := Lib.hid hcl
      have hrs := HB.out.size
      clear hrng hcell hcl
      by_cases hn : 0 < n
      · go_wp2_with (first
          | ((go_at_call 34; with_reducible refine (waits_any _ _ _).mono ?_); rintro e w1 ⟨rfl, hb1⟩; have HB1 := Lib.hid ((((Below.refl wr.heap.size wr).alloc (Nat.le_refl _) (.cells #[.int .i64 q, .int .i64 n] 48))).trans (hb1.mono (by simp)))
             have d0 : w1.cell? ⟨wr.heap.size, 0, none⟩ = some (.int .i64 q) := (hb1.cell (by simp)).trans (by simp)
             have d1 : w1.cell? ⟨wr.heap.size, 1, none⟩ = some (.int .i64 n) := (hb1.cell (by simp)).trans (by simp)
             have hF1 := HF.out.grown HB1.out
             have f0 := hF1.cell cl hcl4
             have f1 := hF1.free cl
             have hz := HB1.out.size
             clear hb1)
          | ((go_at_call 48; with_reducible refine (class_any b m s _ (HA.out.below HB1.out) q HQ.out.1).mono ?_); rintro e w2 ⟨rfl, rfl⟩; rw [HCL.out]))
        have HF1 := Lib.hid hF1
        have HF2 := Lib.hid (hF1.grown (below_alloc w1 (.cells #[.int .i64 q, .int .i64 n] 48)).drew)
        clear hF1
        have hci : ((cl : Nat) : Int) < 4 := by omega
        have f2 : (w1.alloc (.cells #[.int .i64 q, .int .i64 n] 48)).cell? ⟨w.heap.size + 1, cl, none⟩ = some (V cl) := HF2.out.cell cl hcl4
        go_region_law (refine step_append_lies _ rfl (.tmp 24) (.tmp 26) 40 rfl (w.heap.size + 1) 48 i48 (.agg #[.int .i64 0, .int .i64 0]) 2 16 Try.underlying40 hi48 hz0 hz1 hz2 rfl (by decide) (V cl) (s.wait (l.take k) cl).length (lv (s.wait (l.take k) cl)) rfl ?_ ⟨w1.heap.size, 0, none⟩ 1 1 [.int .i64 q, .int .i64 n] rfl rfl ?_ ?_ (by decide) ?_ ?_ ?_ _ rfl ?_; (focus (exact HF2.out.own cl hcl4; done)); (focus (exact cell_two_new w1 _ _ 48; done)); (focus (intro u hu; simp at hu; rcases hu with rfl | rfl <;> rfl; done)); (focus (have := HL.out cl; unfold maxLen; omega; done)); (focus (have := HL.out cl; omega; done)); (focus (simp; omega; done)); intro ga capa wa hoa hga hla hlta; have HOA := Lib.hid hoa; have HGA := Lib.hid hga; have HLA := Lib.hid hla; obtain ⟨s0, s1⟩ := Four.after HF2.out cl hcl4 hga; clear hoa hga hla)
        all_goals
          go_wp2
          go_roundw
          case rel =>
            have hw : Below wr.heap.size wr (w1.alloc (.cells #[.int .i64 q, .int .i64 n] 48)).drew := (HB1.out.alloc HB1.out.size _).drew
            have hp := HF.out.put hw cl hcl4 (p := (q, n)) HOA.out HGA.out HLA.out
            rw [HU.out cl HCL.out hn] at hp
            have hB2 : Below w.heap.size w wa := (HB.out.trans (hw.mono HB.out.size)).grown HGA.out (Nat.le_trans HB.out.size hw.size) (fun j e => Nat.le_of_succ_le ((HF.out.own cl hcl4).lt j e).1)
            have hZ2 : wa.heap[w.heap.size]? = some (.cells #[.slice none 0 0, .slice none 0 0, .slice none 0 0, .slice none 0 0] 84 (0, 0)) := (HGA.out.block _ (Nat.lt_of_lt_of_le hzl hw.size) (fun e => by have := ((HF.out.own cl hcl4).lt _ e.symm).1; omega)).trans ((hw.block _ hzl).trans HZ.out)
            exact ⟨k + 1, _, by omega, by go_num, hp, hB2.setCell (by simp) _, (Below.heap_setCell _ _ _ _ (by simp)).trans hZ2⟩
          case measure => simp [RowKit.intOf]; omega
      · go_wp2_with ((go_at_call 34; with_reducible refine (waits_any _ _ _).mono ?_); rintro e w1 ⟨rfl, hb1⟩; have HB1 := Lib.hid ((((Below.refl wr.heap.size wr).alloc (Nat.le_refl _) (.cells #[.int .i64 q, .int .i64 n] 48))).trans (hb1.mono (by simp))); clear hb1)
        go_roundw
        case rel =>
          have hp := HF.out.grown HB1.out
          rw [HV.out hn] at hp
          exact ⟨k + 1, V, by omega, by go_num, hp, HB.out.trans (HB1.out.mono HB.out.size), (HB1.out.block _ hzl).trans HZ.out⟩
        case measure => simp [RowKit.intOf]; omega
    · have hF := HF.out
      have hkl : k = l.length := by omega
      subst hkl
      rw [List.take_length] at hF
      have HF2 := Lib.hid hF
      have e0 := hF.cell 0 (by decide)
      have e1 := hF.cell 1 (by decide)
      have e2 := hF.cell 2 (by decide)
      have e3 := hF.cell 3 (by decide)
      have z := fun i => cell_of_row wr w.heap.size i _ 84 (0, 0) HZ.out
      have z0 : wr.cell? ⟨w.heap.size, 0, none⟩ = some (.slice none 0 0) := (z 0).trans rfl
      have z1 : wr.cell? ⟨w.heap.size, 1, none⟩ = some (.slice none 0 0) := (z 1).trans rfl
      have z2 : wr.cell? ⟨w.heap.size, 2, none⟩ = some (.slice none 0 0) := (z 2).trans rfl
      have z3 : wr.cell? ⟨w.heap.size, 3, none⟩ = some (.slice none 0 0) := (z 3).trans rfl
      have zf := fun i => frozen_of_row wr w.heap.size i _ 84 HZ.out
      have HO := Lib.hid hF.own
      obtain ⟨A0, n0, x0⟩ := own_form (hF.own 0 (by decide))
      obtain ⟨A1, n1, x1⟩ := own_form (hF.own 1 (by decide))
      obtain ⟨A2, n2, x2⟩ := own_form (hF.own 2 (by decide))
      obtain ⟨A3, n3, x3⟩ := own_form (hF.own 3 (by decide))
      rw [x0] at e0
      rw [x1] at e1
      rw [x2] at e2
      rw [x3] at e3
      have X0 := Lib.hid x0
      have X1 := Lib.hid x1
      have X2 := Lib.hid x2
      have X3 := Lib.hid x3
      clear hF z x0 x1 x2 x3
      go_wp2
      have t1 : ∀ y0 y1 y2 y3, Chg (· = w.heap.size) wr ((((wr.setCell ⟨w.heap.size, 0, none⟩ y0).setCell ⟨w.heap.size, 1, none⟩ y1).setCell ⟨w.heap.size, 2, none⟩ y2).setCell ⟨w.heap.size, 3, none⟩ y3) := fun y0 y1 y2 y3 =>
        ((((Chg.refl (· = w.heap.size) wr).setCell rfl _).setCell rfl _).setCell rfl _).setCell rfl _
      refine bodyPost_ret (v := .agg #[V 0, V 1, V 2, V 3]) (by rw [X0.out, X1.out, X2.out, X3.out]; simp [results, Try.results35, go_sem, z0, z1, z2, z3]) rfl ⟨V, rfl, fun i hi => ?_, HB.out.trans ((t1 _ _ _ _).below HB.out.size (fun i hi => by omega))⟩
      refine ownsRow_base_a ((HO.out i hi).kept (row := some w.heap.size) ⟨(t1 _ _ _ _).os, (t1 _ _ _ _).tape, (t1 _ _ _ _).output, (t1 _ _ _ _).size, fun k hk hn => (t1 _ _ _ _).block k hk (fun e => hn (by rw [e]))⟩ ?_) (by omega)
      cases e : (V i).ownBlock with
      | none => exact .inl rfl
      | some j => right; intro e'; have := ((HO.out i hi).lt j e).1; cases e'; omega
end Go.Proofs.Ytildofclgofjdaa
