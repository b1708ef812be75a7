/- The mathematics of byIndex: sorted by index and place, the first of each index kept. No condition but those that each theorem states. -/
import Derived.Test.YtajlddgemkkcdaaQE
namespace Go.Proofs.Ytajlddgemkkcdaa
open Go.RowKit
set_option linter.unusedVariables false
set_option maxHeartbeats 1000000
theorem sorted_ext {f : Nat → Int} : ∀ (a b : List Nat), a.Pairwise (fun x y => f x < f y) → b.Pairwise (fun x y => f x < f y) → (∀ x, x ∈ a ↔ x ∈ b) → a = b
  | [], b, _, _, h => by
    cases b with
    | nil => rfl
    | cons y s => exact absurd ((h y).2 (by simp)) (by simp)
  | x :: t, b, ha, hb, h => by
    cases b with
    | nil => exact absurd ((h x).1 (by simp)) (by simp)
    | cons y s =>
      obtain ⟨h1, h2⟩ := List.pairwise_cons.1 ha
      obtain ⟨h3, h4⟩ := List.pairwise_cons.1 hb
      have e : x = y := by
        rcases List.mem_cons.1 ((h x).1 (by simp)) with e | e
        · exact e
        · rcases List.mem_cons.1 ((h y).2 (by simp)) with e' | e'
          · exact e'.symm
          · have := h3 x e; have := h1 y e'; omega
      subst e
      rw [sorted_ext t s h2 h4 (fun z => ⟨fun hz => ?_, fun hz => ?_⟩)]
      · rcases List.mem_cons.1 ((h z).1 (List.mem_cons_of_mem _ hz)) with e | e
        · subst e; have := h1 z hz; omega
        · exact e
      · rcases List.mem_cons.1 ((h z).2 (List.mem_cons_of_mem _ hz)) with e | e
        · subst e; have := h3 z hz; omega
        · exact e
theorem mem_cu {f : Nat → Int} {ms : List Nat} {x : Nat} : ∀ k, k ≤ ms.length → (x ∈ cu f ms k ↔ ∃ j, j < k ∧ ms[j]? = some x ∧ kp f ms j = true)
  | 0, _ => by simp [cu]
  | k + 1, hk => by
    have ih := mem_cu (f := f) (ms := ms) (x := x) k (by omega)
    have hlt : k < ms.length := by omega
    have hd := getD_at hlt
    have hg : ms[k]? = some ms[k] := List.getElem?_eq_getElem hlt
    cases h : kp f ms k with
    | false =>
      rw [cu_no h, ih]
      constructor
      · rintro ⟨j, h1, h2⟩; exact ⟨j, by omega, h2⟩
      · rintro ⟨j, h1, h2, h3⟩
        refine ⟨j, ?_, h2, h3⟩
        by_cases e : j = k
        · rw [e, h] at h3; cases h3
        · omega
    | true =>
      rw [cu_yes h, List.mem_append, ih, List.mem_singleton, hd]
      constructor
      · rintro (⟨j, h1, h2⟩ | rfl)
        · exact ⟨j, by omega, h2⟩
        · exact ⟨k, by omega, hg, h⟩
      · rintro ⟨j, h1, h2, h3⟩
        by_cases e : j = k
        · subst e
          rw [hg] at h2
          exact .inr (Option.some.inj h2).symm
        · exact .inl ⟨j, by omega, h2, h3⟩
theorem byq_at {l : List Pg} {ms : List Nat} (hq : ms.Pairwise (ByQ l)) {i j : Nat} (hij : i < j) (hj : j < ms.length) : ByQ l (ms[i]'(by omega)) ms[j] := List.pairwise_iff_getElem.1 hq i j (by omega) hj hij
theorem byq_le {l : List Pg} {ms : List Nat} (hq : ms.Pairwise (ByQ l)) {i j : Nat} (hij : i ≤ j) (hj : j < ms.length) : ixF l (ms[i]'(by omega)) ≤ ixF l ms[j] := by
  by_cases e : i = j
  · subst e; exact Int.le_refl _
  · have := byq_at hq (show i < j by omega) hj
    unfold ByQ at this
    omega
theorem kp_at {f : Nat → Int} {ms : List Nat} {j : Nat} (hj : j + 1 < ms.length) : kp f ms (j + 1) = !(f ms[j + 1] == f ms[j]) := by
  unfold kp
  rw [decide_eq_false (show ¬ j + 1 = 0 by omega), Bool.false_or, getD_at hj, Nat.add_sub_cancel, getD_at (show j < ms.length by omega)]
theorem cu_sorted {l : List Pg} {ms : List Nat} (hq : ms.Pairwise (ByQ l)) : ∀ k, k ≤ ms.length → (cu (ixF l) ms k).Pairwise (fun x y => ixF l x < ixF l y)
  | 0, _ => .nil
  | k + 1, hk => by
    have ih := cu_sorted hq k (by omega)
    cases h : kp (ixF l) ms k with
    | false => rw [cu_no h]; exact ih
    | true =>
      rw [cu_yes h, List.pairwise_append]
      refine ⟨ih, List.pairwise_singleton _ _, fun x hx y hy => ?_⟩
      rw [List.mem_singleton] at hy
      rw [hy, getD_at (show k < ms.length by omega)]
      obtain ⟨j, h1, h2, h3⟩ := (mem_cu k (by omega)).1 hx
      obtain ⟨k1, rfl⟩ : ∃ k1, k = k1 + 1 := ⟨k - 1, by omega⟩
      have hj : j < ms.length := by omega
      rw [List.getElem?_eq_getElem hj] at h2
      rw [← Option.some.inj h2]
      have h4 := byq_le hq (show j ≤ k1 by omega) (by omega)
      have h5 := byq_le hq (show k1 ≤ k1 + 1 by omega) (by omega)
      rw [kp_at (by omega)] at h
      have h6 : ¬ ixF l ms[k1 + 1] = ixF l ms[k1] := by simpa using h
      omega
theorem cu_mem {l : List Pg} {ms : List Nat} (hq : ms.Pairwise (ByQ l)) (x : Nat) : x ∈ cu (ixF l) ms ms.length ↔ x ∈ ms ∧ ∀ y ∈ ms, ixF l y = ixF l x → x ≤ y := by
  rw [mem_cu ms.length (Nat.le_refl _)]
  constructor
  · rintro ⟨j, hj, h2, h3⟩
    rw [List.getElem?_eq_getElem hj] at h2
    have h2 := Option.some.inj h2
    subst h2
    refine ⟨List.getElem_mem hj, fun y hy he => ?_⟩
    obtain ⟨i, hi, rfl⟩ := List.mem_iff_getElem.1 hy
    rcases Nat.lt_trichotomy i j with h | h | h
    · obtain ⟨j1, rfl⟩ : ∃ j1, j = j1 + 1 := ⟨j - 1, by omega⟩
      have a1 := byq_le hq (show i ≤ j1 by omega) (by omega)
      have a2 := byq_le hq (show j1 ≤ j1 + 1 by omega) hj
      rw [kp_at hj] at h3
      have a3 : ¬ ixF l ms[j1 + 1] = ixF l ms[j1] := by simpa using h3
      omega
    · subst h; exact Nat.le_refl _
    · have := byq_at hq h hi
      unfold ByQ at this
      omega
  · rintro ⟨hx, hmin⟩
    obtain ⟨j, hj, rfl⟩ := List.mem_iff_getElem.1 hx
    refine ⟨j, hj, List.getElem?_eq_getElem hj, ?_⟩
    cases j with
    | zero => rfl
    | succ j =>
      rw [kp_at hj]
      cases hb : (ixF l ms[j + 1] == ixF l ms[j]) with
      | false => rfl
      | true =>
        have e : ixF l ms[j + 1] = ixF l ms[j] := eq_of_beq hb
        have h1 := hmin _ (List.getElem_mem (show j < ms.length by omega)) e.symm
        have h2 := byq_at hq (show j < j + 1 by omega) hj
        unfold ByQ at h2
        omega
theorem find_min {l : List Pg} {P : List Nat} (hinc : P.Pairwise (· < ·)) {j : Int} {x : Nat} (h : P.find? (fun p => decide (ixF l p = j)) = some x) : x ∈ P ∧ ixF l x = j ∧ ∀ y ∈ P, ixF l y = j → x ≤ y := by
  obtain ⟨h1, us, bs, rfl, h2⟩ := List.find?_eq_some_iff_append.1 h
  refine ⟨by simp, of_decide_eq_true h1, fun y hy he => ?_⟩
  rcases List.mem_append.1 hy with hy | hy
  · have := h2 y hy
    simp [he] at this
  · rcases List.mem_cons.1 hy with rfl | hy
    · exact Nat.le_refl _
    · have h3 := (List.pairwise_append.1 hinc).2.1
      exact Nat.le_of_lt ((List.pairwise_cons.1 h3).1 y hy)
theorem ord_mem {l : List Pg} {n : Nat} {P : List Nat} (hinc : P.Pairwise (· < ·)) (hr : ∀ p ∈ P, 0 ≤ ixF l p ∧ ixF l p < (n : Int)) (x : Nat) : x ∈ ordF l n P ↔ x ∈ P ∧ ∀ y ∈ P, ixF l y = ixF l x → x ≤ y := by
  unfold ordF
  rw [List.mem_filterMap]
  constructor
  · rintro ⟨j, _, hf⟩
    obtain ⟨h1, h2, h3⟩ := find_min hinc hf
    exact ⟨h1, fun y hy he => h3 y hy (by omega)⟩
  · rintro ⟨hx, hmin⟩
    obtain ⟨r1, r2⟩ := hr x hx
    refine ⟨(ixF l x).toNat, List.mem_range.2 (by omega), ?_⟩
    rw [Int.toNat_of_nonneg r1]
    cases hf : P.find? (fun p => decide (ixF l p = ixF l x)) with
    | none =>
      have := List.find?_eq_none.1 hf x hx
      simp at this
    | some z =>
      obtain ⟨h1, h2, h3⟩ := find_min hinc hf
      have a1 := h3 x hx rfl
      have a2 := hmin z h1 h2
      rw [show z = x by omega]
theorem ord_sorted {l : List Pg} {n : Nat} {P : List Nat} : (ordF l n P).Pairwise (fun x y => ixF l x < ixF l y) := by
  unfold ordF
  rw [List.pairwise_filterMap]
  refine (List.pairwise_lt_range (n := n)).imp ?_
  intro a b hab x hx y hy
  have h1 := List.find?_some hx
  have h2 := List.find?_some hy
  have h1 := of_decide_eq_true h1
  have h2 := of_decide_eq_true h2
  omega
theorem cu_ord {l : List Pg} {n : Nat} {P ms : List Nat} (hp : ms.Perm P) (hq : ms.Pairwise (ByQ l)) (hinc : P.Pairwise (· < ·)) (hr : ∀ p ∈ P, 0 ≤ ixF l p ∧ ixF l p < (n : Int)) : cu (ixF l) ms ms.length = ordF l n P := by
  refine sorted_ext (f := ixF l) _ _ (cu_sorted hq _ (Nat.le_refl _)) ord_sorted (fun x => ?_)
  rw [cu_mem hq, ord_mem hinc hr]
  constructor
  · rintro ⟨h1, h2⟩; exact ⟨hp.mem_iff.1 h1, fun y hy => h2 y (hp.mem_iff.2 hy)⟩
  · rintro ⟨h1, h2⟩; exact ⟨hp.mem_iff.2 h1, fun y hy => h2 y (hp.mem_iff.1 hy)⟩
/-- byIndex at fewer than 40 places, all of pages of one record. -/
theorem byIndex_any (base n : Nat) (u v : Value) (l : List Pg) (P : List Nat) (w : World) (hv : Pgs w v l) (h : w.ownsRow base 3 1 u P.length (iv P)) (hP : ∀ p ∈ P, p < l.length) (hinc : P.Pairwise (· < ·)) (hr : ∀ p ∈ P, 0 ≤ ixF l p ∧ ixF l p < (n : Int)) (hlen : P.length < 40) (h0 : 0 < P.length) :
    Calls Try.prog 52 #[u, v] w (BiPost w (ordF l n P)) := by
  obtain ⟨gu, cu', rfl⟩ : ∃ gu cu, u = .slice (some ⟨gu, 0, none⟩) P.length cu := by
    rcases h.2 with ⟨_, h0'⟩ | ⟨g, cap, cur, e1, _⟩
    · omega
    · exact ⟨g, cap, e1⟩
  obtain ⟨A, c, hve⟩ : ∃ A c, v = .slice A l.length c := by obtain ⟨A, c, e, _⟩ := hv; exact ⟨A, c, e⟩
  subst hve
  have hbel := ((Below.refl w.heap.size w).alloc (Nat.le_refl _) (.cells #[.slice A l.length c] 35)).alloc (by simp) (.cells #[.func (.func 65) #[] #[.pointer (some ⟨w.heap.size, 0, none⟩)]] 31)
  have hmf : ∀ (fn : Fn) (first cap : Array Value) (w : World), (Instr.makeFunc fn first cap).run Try.prog w = .ok (.func fn first cap) w := fun _ _ _ _ => rfl
  have h31 := heap_alloc_new (w.alloc (.cells #[.slice A l.length c] 35)) (.cells #[.func (.func 65) #[] #[.pointer (some ⟨w.heap.size, 0, none⟩)]] 31)
  rw [World.size_alloc] at h31
  have HBY0 : Hid (By ((w.alloc (.cells #[.slice A l.length c] 35)).alloc (.cells #[.func (.func 65) #[] #[.pointer (some ⟨w.heap.size, 0, none⟩)]] 31)) w.heap.size A c l) := Lib.hid ⟨(Below.heap_alloc _ _ _ (by simp)).trans (heap_alloc_new w _), h31, hv.below hbel⟩
  have HBL := Lib.hid hbel
  have HCL := Lib.hid (iclone_any base gu cu' P _ (own_below8 h hbel) (by omega) h0)
  have HA : Hid (∀ k, (Value.slice A l.length c).ownBlock = some k → l.length ≠ 0 → k < w.heap.size) := Lib.hid (fun k hk hn => by
    obtain ⟨A', c', he, _, hr⟩ := hv
    injection he with e1 _ _
    obtain ⟨g1, o, e2, hg1, _⟩ := hr hn
    rw [e1, e2] at hk
    simp [Value.ownBlock] at hk
    omega)
  have HP := Lib.hid hP
  have HI := Lib.hid hinc
  have HR := Lib.hid hr
  clear hv h hP hinc hr hbel h31
  go_enter Try.func52, Try.ntmps52
  go_upto_region 3 with ((go_at_call 66; with_reducible refine HCL.out.mono ?_); rintro e w1 ⟨⟨A1, c1, rfl, ho⟩, hb1⟩; have HO := Lib.hid ho; have HB1 := Lib.hid hb1; clear ho hb1)
  have hs1 := HB1.out.size
  simp only [World.size_alloc] at hs1
  obtain ⟨g, rfl, hcap, hgb⟩ : ∃ g, A1 = some ⟨g, 0, none⟩ ∧ P.length ≤ c1 ∧ w.heap.size + 2 ≤ g := by
    rcases HO.out.2 with ⟨_, h0'⟩ | ⟨g, cap, cur, e1, hb, _, hn, _⟩
    · omega
    · injection e1 with e1 _ e3
      refine ⟨g, e1, by omega, ?_⟩
      simp only [World.size_alloc] at hb
      omega
  have hf : Far w.heap.size c g A l.length := ⟨by omega, by omega, fun k hk hn => by have := HA.out k hk hn; omega⟩
  have HBY1 := Lib.hid (HBY0.out.below HB1.out)
  have HSO := Lib.hid (sortP_any (cap := c1) HBY1.out hf (IC.of_own HO.out) HP.out HI.out hlen h0)
  have HCO := Lib.hid (fun (W : World) (ms : List Nat) (hc : Chg (· = g) w1 W) (hi : IC W g ms) (hp : ms.Perm P) (hq : ms.Pairwise (ByQ l)) =>
    (show Calls Try.prog 69 #[.slice (some ⟨g, 0, none⟩) P.length c1, .func (.func 70) #[] #[.pointer (some ⟨w.heap.size + 1, 0, none⟩)]] W (CoPost W g c1 (ordF l n P)) from by
      have := compact_any (cap := c1) (n := ms.length) (fun W' hc' => HBY1.out.chg hf (hc.trans hc' (fun i hi _ => hi))) hi rfl (fun p hp' => HP.out p (hp.mem_iff.1 hp')) (by rw [hp.length_eq]; exact hcap) (by rw [hp.length_eq]; exact h0) (by rw [hp.length_eq]; omega)
      rwa [cu_ord hp hq HI.out HR.out, hp.length_eq] at this))
  have HBW := Lib.hid (HBL.out.trans (HB1.out.mono (by simp; omega)))
  clear HBY0 HBL HCL HA HO HB1
  go_wp2_with (first
    | ((go_at_call 67; with_reducible refine HSO.out.mono ?_); rintro e w2 ⟨rfl, ms, hp2, hq2, hi2, hc2⟩; have HC2 := Lib.hid hc2; have HC69 := Lib.hid (HCO.out w2 ms hc2 hi2 hp2 hq2); have HLE := Lib.hid (show (ordF l n P).length ≤ P.length from by rw [← cu_ord hp2 hq2 HI.out HR.out, ← hp2.length_eq]; exact cu_le _ _ _); clear hp2 hq2 hi2 hc2)
    | ((go_at_call 69; with_reducible refine HC69.out.mono ?_); rintro e w3 ⟨rfl, hi3, hc3⟩; have HI3 := Lib.hid hi3; have HC3 := Lib.hid hc3; clear hi3 hc3))
  go_ret
  have hc := HC2.out.trans HC3.out (fun i hi _ => hi)
  exact ⟨⟨_, _, rfl, HI3.out.pls (Nat.le_trans HLE.out hcap)⟩, HBW.out.trans (hc.below HBW.out.size (fun i hi => by omega))⟩
end Go.Proofs.Ytajlddgemkkcdaa
