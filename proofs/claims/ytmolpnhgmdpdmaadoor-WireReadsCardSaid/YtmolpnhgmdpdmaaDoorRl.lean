/- The law's own function look, kind by kind. Conditions stand in each theorem. -/
import Derived.Test.YtmolpnhgmdpdmaaDoorRc
import Derived.BigQuiet
namespace Go.Proofs.YtmolpnhgmdpdmaaDoor
open Go.RowKit
set_option linter.unusedVariables false
set_option maxHeartbeats 1000000

/-- What a call on the reader leaves: a new position, and the results agree. -/
def LPost (w : World) (g : Nat) (vd : Value) (l : List UInt8) (e : Ending) (w' : World) : Prop :=
  ∃ a' : Nat, e = .returned (.tuple #[.int .i64 (a' : Int), .bool true]) ∧ Rd w' g vd l a' ∧ Chg (· = g) w w'
theorem cell_chg {w w' : World} {g b j : Nat} {x : Value} (h : Chg (· = g) w w') (hb : b < w.heap.size) (hne : b ≠ g) (hc : w.cell? ⟨b, j, none⟩ = some x) : w'.cell? ⟨b, j, none⟩ = some x :=
  (World.cell?_of_block (a := ⟨b, j, none⟩) (h.block b hb hne)).trans hc
theorem byt_chg {w w' : World} {g : Nat} {v : Value} {l : List UInt8} (h : Byt w v l) (hc : Chg (· = g) w w') (hs : 0 < l.length → ∀ b, v.ownBlock = some b → b ≠ g) : Byt w' v l := by
  obtain ⟨A, c, rfl, hcc, hr⟩ := h
  refine ⟨A, c, rfl, hcc, fun h0 => ?_⟩
  obtain ⟨b, o, rfl, hb, hh⟩ := hr h0
  exact ⟨b, o, rfl, Nat.lt_of_lt_of_le hb hc.size, fun j hj => cell_chg hc hb (hs h0 b rfl) (hh j hj)⟩
theorem ints_chg {k : IntKind} {w w' : World} {g : Nat} {v : Value} {l : List Int} (h : Ints k w v l) (hc : Chg (· = g) w w') (hs : 0 < l.length → ∀ b, v.ownBlock = some b → b ≠ g) : Ints k w' v l := by
  obtain ⟨A, c, rfl, hcc, hr⟩ := h
  refine ⟨A, c, rfl, hcc, fun h0 => ?_⟩
  obtain ⟨b, o, rfl, hb, hh⟩ := hr h0
  exact ⟨b, o, rfl, Nat.lt_of_lt_of_le hb hc.size, fun j hj => cell_chg hc hb (hs h0 b rfl) (hh j hj)⟩
theorem chg_box {w w1 w' : World} {g : Nat} (hb : Below w.heap.size w w1) (hc : Chg (· = g) w1 w') : Chg (· = g) w w' := (Chg.of_below hb : Chg (· = g) w w1).trans hc (fun i hi _ => hi)
theorem left_byt {w : World} {l : List UInt8} {A : Option Addr} {c a : Nat} (h : Byt w (.slice A l.length c) l) (ha : a ≤ l.length) (hca : ¬ c = a) : Byt w (.slice (A.map (·.add a)) (l.length - a) (c - a)) (l.drop a) := by
  have := sub_byt (a := a) (n := l.length - a) h (by omega) hca
  rwa [List.take_of_length_le (by rw [List.length_drop]; omega)] at this
theorem left_take {w : World} {P : Option Addr} {l : List UInt8} {k q n : Nat} (h : Byt w (.slice P k q) l) (hn : n ≤ k) : Byt w (.slice P n q) (l.take n) := by
  have hk : k = l.length := by obtain ⟨_, _, e, -, -⟩ := h; simp at e; exact e.2.1
  subst hk
  exact byt_take h hn
theorem left_chg {w w' : World} {g k q k0 q0 : Nat} {A : Option Addr} {f : Addr → Addr} {l : List UInt8} {a : Nat} (h : Byt w (.slice (A.map f) k q) (l.drop a)) (hc : Chg (· = g) w w') (hs : 0 < l.length → ∀ b, (Value.slice A k0 q0).ownBlock = some b → b ≠ g) (hf : ∀ x : Addr, (f x).block = x.block) : Byt w' (.slice (A.map f) k q) (l.drop a) := by
  refine byt_chg h hc (fun h0 b hb => hs (by rw [List.length_drop] at h0; omega) b ?_)
  cases A with
  | none => simp [Value.ownBlock] at hb
  | some x => simpa [Value.ownBlock, hf] using hb
set_option maxRecDepth 100000 in
theorem look_4 (g : Nat) (vd sv : Value) (A : Option Addr) (c : Nat) (l : List UInt8) (a : Nat) (N : Int) (w : World) (h : Rd w g vd l a) (hB : Byt w (.slice A l.length c) l) (hl : l.length ≤ 200) (hsep : 0 < l.length → ∀ b, (Value.slice A l.length c).ownBlock = some b → b ≠ g)  :
    Calls Tryd.prog 31 #[.pointer (some ⟨g, 0, none⟩), .slice A l.length c, .int .i64 (a : Int), .agg #[.int .i64 4, .int .i64 N, sv]] w (LPost w g vd l) := by
  have hal := h.le
  have hlc : l.length ≤ c := by obtain ⟨_, _, e, h1, _⟩ := hB; simp at e; omega
  have HR := Lib.hid (h.below (alloc_below w (.cells #[.int .i64 4, .int .i64 N, sv] 67)))
  have HB := Lib.hid (hB.below (alloc_below w (.cells #[.int .i64 4, .int .i64 N, sv] 67)))
  have Hsep := Lib.hid hsep; have Hg := Lib.hid h.lt
  clear h hB hsep
  by_cases hca : c = a
  · subst hca
    have HLB := Lib.hid (show Byt (w.alloc (.cells #[.int .i64 4, .int .i64 N, sv] 67)) (.slice A 0 0) (l.drop c) by
      rw [List.drop_eq_nil_of_le (by omega)]
      exact ⟨A, 0, by simp, by simp, fun h => absurd h (by simp)⟩)
    by_cases hn : N < 0
    · have he : advE l c N = 2 := by unfold advE; rw [if_pos hn]
      have hs := Skip_err g vd l c N _ HR.out (by rw [he]; decide)
      rw [he] at hs
      have Hs := Lib.hid hs
      clear he hs
      go_enter Tryd.func31, Tryd.ntmps31
      go_wp2_with fail
      refine (show Calls Tryd.prog 44 _ _ _ from Hs.out).mono ?_
      rintro e w1 ⟨rfl, hR, hC⟩
      have hc0 := cell_chg (b := w.heap.size) (j := 0) (x := .int .i64 4) hC (by simp) (by have := Hg.out; omega) (by simp)
      have hc1 := cell_chg (b := w.heap.size) (j := 1) (x := .int .i64 N) hC (by simp) (by have := Hg.out; omega) (by simp)
      have hc2 := cell_chg (b := w.heap.size) (j := 2) (x := sv) hC (by simp) (by have := Hg.out; omega) (by simp)
      have HQ := Lib.hid hR; have HC := Lib.hid (chg_box (alloc_below w _) hC)
      clear hR hC Hs HR HB HLB
      go_wp2
      go_ret2
      exact ⟨c, rfl, HQ.out, HC.out⟩
    · by_cases hz : N = 0
      · subst hz
        have hf : c + 0 ≤ l.length := hal
        have Hs := Lib.hid (Skip_ok g vd l c 0 _ HR.out hf)
        go_enter Tryd.func31, Tryd.ntmps31
        go_wp2_with fail
        refine (show Calls Tryd.prog 44 #[.pointer (some ⟨g, 0, none⟩), .int .i64 0] _ _ from Hs.out).mono ?_
        rintro e w1 ⟨rfl, hR, hC⟩
        have hc0 := cell_chg (b := w.heap.size) (j := 0) (x := .int .i64 4) hC (by simp) (by have := Hg.out; omega) (by simp)
        have hc1 := cell_chg (b := w.heap.size) (j := 1) (x := .int .i64 0) hC (by simp) (by have := Hg.out; omega) (by simp)
        have hc2 := cell_chg (b := w.heap.size) (j := 2) (x := sv) hC (by simp) (by have := Hg.out; omega) (by simp)
        have HQ := Lib.hid hR; have HC := Lib.hid (chg_box (alloc_below w _) hC)
        clear hR hC Hs HR HB HLB
        go_wp2
        go_ret2
        exact ⟨c + 0, rfl, HQ.out, HC.out⟩
      · have hp : 0 < N := by omega
        have he : advE l c N = 4 := by unfold advE; rw [if_neg hn, if_pos (by omega)]
        have s0 : decide (N ≤ 0) = false := decide_eq_false (by omega)
        clear hn hz
        have hs := Skip_err g vd l c N _ HR.out (by rw [he]; decide)
        rw [he] at hs
        have Hs := Lib.hid hs
        clear he hs
        go_enter Tryd.func31, Tryd.ntmps31
        go_wp2_with fail
        refine (show Calls Tryd.prog 44 _ _ _ from Hs.out).mono ?_
        rintro e w1 ⟨rfl, hR, hC⟩
        have hc0 := cell_chg (b := w.heap.size) (j := 0) (x := .int .i64 4) hC (by simp) (by have := Hg.out; omega) (by simp)
        have hc1 := cell_chg (b := w.heap.size) (j := 1) (x := .int .i64 N) hC (by simp) (by have := Hg.out; omega) (by simp)
        have hc2 := cell_chg (b := w.heap.size) (j := 2) (x := sv) hC (by simp) (by have := Hg.out; omega) (by simp)
        have HQ := Lib.hid hR; have HC := Lib.hid (chg_box (alloc_below w _) hC)
        clear hR hC Hs HR HB HLB
        go_wp2
        go_ret2
        exact ⟨c, rfl, HQ.out, HC.out⟩
  · have HLB := Lib.hid (left_byt HB.out hal hca)
    by_cases hn : N < 0
    · have he : advE l a N = 2 := by unfold advE; rw [if_pos hn]
      have hs := Skip_err g vd l a N _ HR.out (by rw [he]; decide)
      rw [he] at hs
      have Hs := Lib.hid hs
      clear he hs
      go_enter Tryd.func31, Tryd.ntmps31
      go_wp2_with fail
      refine (show Calls Tryd.prog 44 _ _ _ from Hs.out).mono ?_
      rintro e w1 ⟨rfl, hR, hC⟩
      have hc0 := cell_chg (b := w.heap.size) (j := 0) (x := .int .i64 4) hC (by simp) (by have := Hg.out; omega) (by simp)
      have hc1 := cell_chg (b := w.heap.size) (j := 1) (x := .int .i64 N) hC (by simp) (by have := Hg.out; omega) (by simp)
      have hc2 := cell_chg (b := w.heap.size) (j := 2) (x := sv) hC (by simp) (by have := Hg.out; omega) (by simp)
      have HQ := Lib.hid hR; have HC := Lib.hid (chg_box (alloc_below w _) hC)
      clear hR hC Hs HR HB HLB
      go_wp2
      go_ret2
      exact ⟨a, rfl, HQ.out, HC.out⟩
    · obtain ⟨n, rfl⟩ := Int.eq_ofNat_of_zero_le (show 0 ≤ N by omega)
      clear hn
      by_cases hf : a + n ≤ l.length
      · have f1 : n ≤ l.length - a := by omega
        have f2 : (n : Int) ≤ ((l.length - a : Nat) : Int) := by omega
        have Hs := Lib.hid (Skip_ok g vd l a n _ HR.out hf)
        go_enter Tryd.func31, Tryd.ntmps31
        go_wp2_with fail
        refine (show Calls Tryd.prog 44 #[.pointer (some ⟨g, 0, none⟩), .int .i64 (n : Int)] _ _ from Hs.out).mono ?_
        rintro e w1 ⟨rfl, hR, hC⟩
        have hc0 := cell_chg (b := w.heap.size) (j := 0) (x := .int .i64 4) hC (by simp) (by have := Hg.out; omega) (by simp)
        have hc1 := cell_chg (b := w.heap.size) (j := 1) (x := .int .i64 (n : Int)) hC (by simp) (by have := Hg.out; omega) (by simp)
        have hc2 := cell_chg (b := w.heap.size) (j := 2) (x := sv) hC (by simp) (by have := Hg.out; omega) (by simp)
        have HQ := Lib.hid hR; have HC := Lib.hid (chg_box (alloc_below w _) hC)
        clear hR hC Hs HR HB HLB
        go_wp2
        go_ret2
        exact ⟨a + n, rfl, HQ.out, HC.out⟩
      · have s1 : l.length - a < n := by omega
        have s2 : ((l.length - a : Nat) : Int) < n := by omega
        have s3 : decide (n ≤ l.length - a) = false := decide_eq_false (by omega)
        have s4 : decide ((n : Int) ≤ ((l.length - a : Nat) : Int)) = false := decide_eq_false (by omega)
        have he : advE l a (n : Int) = 4 := by unfold advE; rw [if_neg (by omega), if_pos (by omega)]
        have hs := Skip_err g vd l a (n : Int) _ HR.out (by rw [he]; decide)
        rw [he] at hs
        have Hs := Lib.hid hs
        clear he hs
        go_enter Tryd.func31, Tryd.ntmps31
        go_wp2_with fail
        refine (show Calls Tryd.prog 44 _ _ _ from Hs.out).mono ?_
        rintro e w1 ⟨rfl, hR, hC⟩
        have hc0 := cell_chg (b := w.heap.size) (j := 0) (x := .int .i64 4) hC (by simp) (by have := Hg.out; omega) (by simp)
        have hc1 := cell_chg (b := w.heap.size) (j := 1) (x := .int .i64 (n : Int)) hC (by simp) (by have := Hg.out; omega) (by simp)
        have hc2 := cell_chg (b := w.heap.size) (j := 2) (x := sv) hC (by simp) (by have := Hg.out; omega) (by simp)
        have HQ := Lib.hid hR; have HC := Lib.hid (chg_box (alloc_below w _) hC)
        clear hR hC Hs HR HB HLB
        go_wp2
        go_ret2
        exact ⟨a, rfl, HQ.out, HC.out⟩
end Go.Proofs.YtmolpnhgmdpdmaaDoor
