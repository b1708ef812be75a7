/- The contract of those at both kinds. Conditions stand in each theorem. -/
import Derived.Test.YtajlddgemkkcdaaM
namespace Go.Proofs.Ytajlddgemkkcdaa
open Go.RowKit
set_option linter.unusedVariables false
set_option maxHeartbeats 4000000
set_option maxRecDepth 100000
attribute [local go_sem ↓ 100000] builtin_appX
/-- The rows of a kind among the first k. -/
def kdL (q : Int) (L : List Loc) (k : Nat) : List Loc := (L.take k).filter fun x => decide (x.r.k = q)
theorem kdL_succ (q : Int) (L : List Loc) (k : Nat) (h : k < L.length) : kdL q L (k + 1) = kdL q L k ++ if L[k].r.k = q then [L[k]] else [] := by
  unfold kdL
  rw [List.take_add_one, List.getElem?_eq_getElem h, List.filter_append]
  congr 1
  simp only [Option.toList, List.filter_cons, List.filter_nil]
  by_cases h2 : L[k].r.k = q <;> simp [h2]
theorem kdL_le (q : Int) (L : List Loc) (k : Nat) : (kdL q L k).length ≤ k := by
  unfold kdL
  have h1 := List.length_filter_le (fun x : Loc => decide (x.r.k = q)) (L.take k)
  have h2 : (L.take k).length ≤ k := by simp; omega
  omega
/-- What those leaves. -/
def ThPost (w : World) (q : Int) (L : List Loc) (e : Ending) (w' : World) : Prop := (∃ A c, e = .returned (.slice A (kdL q L L.length).length c) ∧ Own6 w' w.heap.size (.slice A (kdL q L L.length).length c) (kdL q L L.length)) ∧ Below w.heap.size w w'
theorem thoseC_any (W : World) (base : Nat) (A : Option Addr) (c : Nat) (L : List Loc) (hA : Own6 W base (.slice A L.length c) L) (hl : L.length ≤ 50000) : Calls Try.prog 34 #[.slice A L.length c, .func (.func 35) #[] #[]] W (ThPost W 3 L) := by
  have HA := Lib.hid hA
  have hlen : (L.length : Int) ≤ 50000 := by omega
  clear hA
  go_enter Try.func34, Try.ntmps34
  go_wp2
  go_loopw [5, 10] (fun v i wr => ∃ (k : Nat) (A2 : Option Addr) (c2 : Nat), k ≤ L.length ∧ i = .int .i64 k ∧ v = .slice A2 (kdL 3 L k).length c2 ∧ Hid (Own6 wr W.heap.size (.slice A2 (kdL 3 L k).length c2) (kdL 3 L k)) ∧ Hid (Below W.heap.size W wr)) (fun v i _ => L.length - (RowKit.intOf i).toNat)
  case atStart => exact ⟨0, none, 0, Nat.zero_le _, rfl, rfl, .inl ⟨rfl, rfl⟩, Below.refl _ _⟩
  case round =>
    obtain ⟨k, A2, c2, hk, rfl, rfl, HO, HB⟩ := hrel
    have hkz : (k : Int) ≤ (L.length : Int) := by omega
    by_cases hlt : k < L.length
    · have hltz : (k : Int) < (L.length : Int) := by omega
      obtain ⟨g, c', he, hbg, hgl, hr0⟩ := HA.out.at_ hlt
      injection he with he1 _ he2
      subst he1 he2
      have hr : LoAt wr g (k * 6) L[k] := ⟨(HB.out.cell (p := ⟨g, _, none⟩) hgl).trans hr0.c0, (HB.out.cell (p := ⟨g, _, none⟩) hgl).trans hr0.c1, (HB.out.cell (p := ⟨g, _, none⟩) hgl).trans hr0.c2, (HB.out.cell (p := ⟨g, _, none⟩) hgl).trans hr0.c3, (HB.out.cell (p := ⟨g, _, none⟩) hgl).trans hr0.c4, (HB.out.cell (p := ⟨g, _, none⟩) hgl).trans hr0.c5⟩
      have hu := kdL_succ 3 L k hlt
      have hle := kdL_le 3 L k
      obtain ⟨x, hx⟩ : ∃ x, x = L[k] := ⟨_, rfl⟩
      rw [← hx] at hr hu
      clear hx hr0
      have c0 := hr.c0
      have c1 := hr.c1
      have c2' := hr.c2
      have c3 := hr.c3
      have c4 := hr.c4
      have c5 := hr.c5
      clear hr
      have HU := Lib.hid hu
      have HF := Lib.hid (fun w' => isCheck_any x w')
      have hnew := LoAt.new wr x 78
      have hal : Below wr.heap.size wr (wr.alloc (.cells x.row 78)) := (Below.refl _ _).alloc (Nat.le_refl _) _
      have HNEW := Lib.hid hnew
      have HAL := Lib.hid hal
      have HNR := Lib.hid (fun w' : World => LoAt.new w' x 78)
      clear hu hnew hal
      by_cases hq : x.r.k = 3
      · rw [if_pos hq] at HU
        simp only [decide_eq_true hq] at HF
        clear hq
        have HOV := Lib.hid (HO.out.later HAL.out)
        obtain ⟨⟨xk, xf, xp, xn⟩, xe, xa, xl, xc⟩ := x
        simp only [Loc.v, Loc.row, Loc.pl] at *
        go_upto_region 6 with (go_at_call 35; (with_reducible refine (HF.out _).mono ?_); rintro e w2 ⟨rfl, hg2⟩; have HG2 := Lib.hid hg2; clear hg2)
        have d := HNEW.out.gr HG2.out
        have d0 := d.c0
        have d1 := d.c1
        have d2 := d.c2
        have d3 := d.c3
        have d4 := d.c4
        have d5 := d.c5
        simp only [Nat.zero_add] at d0 d1 d2 d3 d4 d5
        clear d c0 c1 c2' c3 c4 c5
        have hb2 : Below wr.heap.size wr (w2.alloc (.cells #[.int .u8 xk, .int .u64 xf, .int .u64 xp, .int .i64 xn, .int .i64 xe, .slice xa xl xc] 78)) := by
          have h1 : Below wr.heap.size wr w2 := HAL.out.trans (HG2.out.below.mono HAL.out.size)
          exact h1.alloc h1.size _
        obtain ⟨A3, c3, w3, hrun, ho3, hg3⟩ := app6 (base := W.heap.size) (HO.out.later hb2) (by have := HB.out.size; have := hb2.size; omega) (by omega) (HNR.out w2)
        have HB3 : Hid (Below W.heap.size W w3) := Lib.hid ((HB.out.trans (hb2.mono HB.out.size)).grown hg3 (Nat.le_trans HB.out.size hb2.size) (fun j hj => by
          rcases HO.out with ⟨_, h2⟩ | ⟨_, h2⟩
          · rw [h2] at hj; cases hj
          · exact (h2.lt j hj).1))
        have HO3 := Lib.hid ho3
        clear ho3 hg3 hb2
        go_wp2
        go_roundw
        case rel =>
          refine ⟨k + 1, A3, c3, by omega, by go_num, ?_, ?_, HB3⟩
          · rw [HU.out, List.length_append]; rfl
          · rw [HU.out, List.length_append]
            exact HO3
        case measure => simp [RowKit.intOf]; omega
      · rw [if_neg hq, List.append_nil] at HU
        simp only [decide_eq_false hq] at HF
        clear hq HNR HNEW
        obtain ⟨⟨xk, xf, xp, xn⟩, xe, xa, xl, xc⟩ := x
        simp only [Loc.v, Loc.row, Loc.pl] at *
        go_wp2_with (go_at_call 35; (with_reducible refine (HF.out _).mono ?_); rintro e w2 ⟨rfl, hg2⟩; have HG2 := Lib.hid hg2; clear hg2)
        go_roundw
        case rel =>
          have hb2 : Below wr.heap.size wr w2 := HAL.out.trans (HG2.out.below.mono HAL.out.size)
          refine ⟨k + 1, A2, c2, by omega, by go_num, by rw [HU.out], ?_, HB.out.trans (hb2.mono HB.out.size)⟩
          rw [HU.out]
          exact HO.out.later hb2
        case measure => simp [RowKit.intOf]; omega
    · obtain rfl : k = L.length := by omega
      go_wp2
      go_ret
      exact ⟨⟨A2, c2, rfl, HO.out⟩, HB.out⟩
theorem thoseD_any (W : World) (base : Nat) (A : Option Addr) (c : Nat) (L : List Loc) (hA : Own6 W base (.slice A L.length c) L) (hl : L.length ≤ 50000) : Calls Try.prog 34 #[.slice A L.length c, .func (.func 38) #[] #[]] W (ThPost W 2 L) := by
  have HA := Lib.hid hA
  have hlen : (L.length : Int) ≤ 50000 := by omega
  clear hA
  go_enter Try.func34, Try.ntmps34
  go_wp2
  go_loopw [5, 10] (fun v i wr => ∃ (k : Nat) (A2 : Option Addr) (c2 : Nat), k ≤ L.length ∧ i = .int .i64 k ∧ v = .slice A2 (kdL 2 L k).length c2 ∧ Hid (Own6 wr W.heap.size (.slice A2 (kdL 2 L k).length c2) (kdL 2 L k)) ∧ Hid (Below W.heap.size W wr)) (fun v i _ => L.length - (RowKit.intOf i).toNat)
  case atStart => exact ⟨0, none, 0, Nat.zero_le _, rfl, rfl, .inl ⟨rfl, rfl⟩, Below.refl _ _⟩
  case round =>
    obtain ⟨k, A2, c2, hk, rfl, rfl, HO, HB⟩ := hrel
    have hkz : (k : Int) ≤ (L.length : Int) := by omega
    by_cases hlt : k < L.length
    · have hltz : (k : Int) < (L.length : Int) := by omega
      obtain ⟨g, c', he, hbg, hgl, hr0⟩ := HA.out.at_ hlt
      injection he with he1 _ he2
      subst he1 he2
      have hr : LoAt wr g (k * 6) L[k] := ⟨(HB.out.cell (p := ⟨g, _, none⟩) hgl).trans hr0.c0, (HB.out.cell (p := ⟨g, _, none⟩) hgl).trans hr0.c1, (HB.out.cell (p := ⟨g, _, none⟩) hgl).trans hr0.c2, (HB.out.cell (p := ⟨g, _, none⟩) hgl).trans hr0.c3, (HB.out.cell (p := ⟨g, _, none⟩) hgl).trans hr0.c4, (HB.out.cell (p := ⟨g, _, none⟩) hgl).trans hr0.c5⟩
      have hu := kdL_succ 2 L k hlt
      have hle := kdL_le 2 L k
      obtain ⟨x, hx⟩ : ∃ x, x = L[k] := ⟨_, rfl⟩
      rw [← hx] at hr hu
      clear hx hr0
      have c0 := hr.c0
      have c1 := hr.c1
      have c2' := hr.c2
      have c3 := hr.c3
      have c4 := hr.c4
      have c5 := hr.c5
      clear hr
      have HU := Lib.hid hu
      have HF := Lib.hid (fun w' => isDelta_any x w')
      have hnew := LoAt.new wr x 78
      have hal : Below wr.heap.size wr (wr.alloc (.cells x.row 78)) := (Below.refl _ _).alloc (Nat.le_refl _) _
      have HNEW := Lib.hid hnew
      have HAL := Lib.hid hal
      have HNR := Lib.hid (fun w' : World => LoAt.new w' x 78)
      clear hu hnew hal
      by_cases hq : x.r.k = 2
      · rw [if_pos hq] at HU
        simp only [decide_eq_true hq] at HF
        clear hq
        have HOV := Lib.hid (HO.out.later HAL.out)
        obtain ⟨⟨xk, xf, xp, xn⟩, xe, xa, xl, xc⟩ := x
        simp only [Loc.v, Loc.row, Loc.pl] at *
        go_upto_region 6 with (go_at_call 38; (with_reducible refine (HF.out _).mono ?_); rintro e w2 ⟨rfl, hg2⟩; have HG2 := Lib.hid hg2; clear hg2)
        have d := HNEW.out.gr HG2.out
        have d0 := d.c0
        have d1 := d.c1
        have d2 := d.c2
        have d3 := d.c3
        have d4 := d.c4
        have d5 := d.c5
        simp only [Nat.zero_add] at d0 d1 d2 d3 d4 d5
        clear d c0 c1 c2' c3 c4 c5
        have hb2 : Below wr.heap.size wr (w2.alloc (.cells #[.int .u8 xk, .int .u64 xf, .int .u64 xp, .int .i64 xn, .int .i64 xe, .slice xa xl xc] 78)) := by
          have h1 : Below wr.heap.size wr w2 := HAL.out.trans (HG2.out.below.mono HAL.out.size)
          exact h1.alloc h1.size _
        obtain ⟨A3, c3, w3, hrun, ho3, hg3⟩ := app6 (base := W.heap.size) (HO.out.later hb2) (by have := HB.out.size; have := hb2.size; omega) (by omega) (HNR.out w2)
        have HB3 : Hid (Below W.heap.size W w3) := Lib.hid ((HB.out.trans (hb2.mono HB.out.size)).grown hg3 (Nat.le_trans HB.out.size hb2.size) (fun j hj => by
          rcases HO.out with ⟨_, h2⟩ | ⟨_, h2⟩
          · rw [h2] at hj; cases hj
          · exact (h2.lt j hj).1))
        have HO3 := Lib.hid ho3
        clear ho3 hg3 hb2
        go_wp2
        go_roundw
        case rel =>
          refine ⟨k + 1, A3, c3, by omega, by go_num, ?_, ?_, HB3⟩
          · rw [HU.out, List.length_append]; rfl
          · rw [HU.out, List.length_append]
            exact HO3
        case measure => simp [RowKit.intOf]; omega
      · rw [if_neg hq, List.append_nil] at HU
        simp only [decide_eq_false hq] at HF
        clear hq HNR HNEW
        obtain ⟨⟨xk, xf, xp, xn⟩, xe, xa, xl, xc⟩ := x
        simp only [Loc.v, Loc.row, Loc.pl] at *
        go_wp2_with (go_at_call 38; (with_reducible refine (HF.out _).mono ?_); rintro e w2 ⟨rfl, hg2⟩; have HG2 := Lib.hid hg2; clear hg2)
        go_roundw
        case rel =>
          have hb2 : Below wr.heap.size wr w2 := HAL.out.trans (HG2.out.below.mono HAL.out.size)
          refine ⟨k + 1, A2, c2, by omega, by go_num, by rw [HU.out], ?_, HB.out.trans (hb2.mono HB.out.size)⟩
          rw [HU.out]
          exact HO.out.later hb2
        case measure => simp [RowKit.intOf]; omega
    · obtain rfl : k = L.length := by omega
      go_wp2
      go_ret
      exact ⟨⟨A2, c2, rfl, HO.out⟩, HB.out⟩
end Go.Proofs.Ytajlddgemkkcdaa
