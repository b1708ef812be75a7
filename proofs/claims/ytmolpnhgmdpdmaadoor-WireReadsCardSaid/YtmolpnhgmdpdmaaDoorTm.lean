/- The contract of the Reader's method Zeros where it succeeds. Condition: the pointer leads to a reader. -/
import Derived.Test.YtmolpnhgmdpdmaaDoorTl
namespace Go.Proofs.YtmolpnhgmdpdmaaDoor
open Go.RowKit
set_option linter.unusedVariables false
set_option maxHeartbeats 400000

/-- A copy of the cursor in a new block. -/
theorem Rd.ahead {w : World} {g : Nat} {vd : Value} {l : List UInt8} {a : Nat} (h : Rd w g vd l a) (t : TypeId) : Rd (w.alloc (.cells #[vd, .int .i64 (a : Int)] t)) w.heap.size vd l a :=
  ⟨⟨t, heap_alloc_new w _⟩, h.byt.below ((Below.refl _ _).alloc (Nat.le_refl _) _), h.le, h.small, fun b hb => by have := h.lo b hb; omega, fun b hb => by have := h.lo b hb; simp; omega⟩
/-- The reader's own block behind what was done to the copy. -/
theorem Rd.behind {w w1 : World} {g : Nat} {vd : Value} {l : List UInt8} {a : Nat} {o : Obj} (h : Rd w g vd l a) (hc : Chg (· = w.heap.size) (w.alloc o) w1) : Below w.heap.size w w1 :=
  ((Below.refl _ _).alloc (Nat.le_refl _) o).trans (hc.below (by simp) (fun i hi => by omega))
theorem rd_set {w w1 : World} {g : Nat} {vd : Value} {l : List UInt8} {a b : Nat} (h : Rd w g vd l a) (hb : Below w.heap.size w w1) (hl : b ≤ l.length) :
    Rd ((w1.setCell ⟨g, 0, none⟩ vd).setCell ⟨g, 1, none⟩ (.int .i64 (b : Int))) g vd l b ∧ Chg (· = g) w ((w1.setCell ⟨g, 0, none⟩ vd).setCell ⟨g, 1, none⟩ (.int .i64 (b : Int))) := by
  have h1 := h.below hb
  refine ⟨⟨?_, ?_, hl, h.small, h.ne, ?_⟩, ?_⟩
  · obtain ⟨t, hb'⟩ := h1.blk; exact ⟨t, by simp [World.setCell, Array.getElem?_modify, hb']⟩
  · exact byt_set (byt_set h1.byt h.ne 0 0 vd) h.ne 0 1 _
  · intro b hb'; simpa [World.setCell] using h1.lo b hb'
  · exact ((Chg.of_below hb : Chg (· = g) w w1).setCell (p := ⟨g, 0, none⟩) rfl vd).setCell (p := ⟨g, 1, none⟩) rfl _
theorem zero_byt {w : World} {v : Value} {n : Nat} (h : Byt w v (List.replicate n 0)) : ∃ B d, v = .slice B n d ∧ (0 < n → ∃ b o, B = some ⟨b, o, none⟩ ∧ ∀ j, j < n → w.cell? ⟨b, o + j, none⟩ = some (.int .u8 0)) := by
  obtain ⟨B, d, rfl, hd, hr⟩ := h
  refine ⟨B, d, by rw [List.length_replicate], fun hn => ?_⟩
  obtain ⟨b, o, e, hb, hc⟩ := hr (by simpa using hn)
  exact ⟨b, o, e, fun j hj => by have := hc j (by simpa using hj); simpa using this⟩
set_option maxRecDepth 100000 in
theorem Zeros_ok (g : Nat) (vd : Value) (l : List UInt8) (a n : Nat) (w : World) (h : Rd w g vd l a) (hn : a + n ≤ l.length) (hz : (l.drop a).take n = List.replicate n 0) :
    Calls Tryd.prog 43 #[.pointer (some ⟨g, 0, none⟩), .int .i64 (n : Int)] w (RPost w g vd l (a + n) (.int .i64 0)) := by
  have h0 := h.cell0
  have h1 := h.cell1
  have hs := h.small
  obtain ⟨A, c, hvd, -, -⟩ := h.byt
  subst hvd
  have H := Lib.hid h; clear h
  have Hn := Lib.hid hn; clear hn
  have Hz := Lib.hid hz; clear hz
  go_enter Tryd.func43, Tryd.ntmps43
  go_wp2_with fail
  refine (orEmpty_some g _).mono ?_
  rintro e w' ⟨rfl, rfl⟩
  go_wp2_with fail
  refine (advance_ok w.heap.size _ l a n _ (H.out.ahead 95) Hn.out).mono ?_
  rintro e w1 ⟨⟨v, rfl, hb⟩, hrd, hch⟩
  rw [Hz.out] at hb
  obtain ⟨B, d, hv, hr⟩ := zero_byt hb
  subst hv
  have HB1 := Lib.hid (H.out.behind hch)
  have hq0 := hrd.cell0
  have hq1 := hrd.cell1
  have hg := H.out.lt
  have hk0 : w1.cell? ⟨g, 0, none⟩ = some (.slice A l.length c) := (HB1.out.cell (by exact hg)).trans h0
  have hk1 : w1.cell? ⟨g, 1, none⟩ = some (.int .i64 (a : Int)) := (HB1.out.cell (by exact hg)).trans h1
  have hf0 : w1.frozen? ⟨g, 0, none⟩ = false := (HB1.out.frozen (by exact hg)).trans (H.out.free 0)
  have hf1 : w1.frozen? ⟨g, 1, none⟩ = false := (HB1.out.frozen (by exact hg)).trans (H.out.free 1)
  have hn1 : n ≤ 1099511627776 := by have := Hn.out; omega
  have Hr := Lib.hid hr
  clear hr hrd hch h0 h1
  go_wp2
  go_loop [26] (fun i => ∃ k : Nat, k ≤ n ∧ i = .int .i64 k) (fun i => n - (intOf i).toNat)
  case atStart => exact ⟨0, Nat.zero_le _, rfl⟩
  case round =>
    obtain ⟨k, hk, rfl⟩ := hrel
    by_cases hlt : k < n
    · obtain ⟨b, o, rfl, hcell⟩ := Hr.out (by omega)
      have hck : w1.cell? ⟨b, o + k, none⟩ = some (.int .u8 0) := hcell k hlt
      clear hcell
      go_wp2
      go_round
      case rel => exact ⟨k + 1, by omega, by go_num⟩
      case measure => simp [intOf]; omega
    · go_wp2
      go_ret
      have hfin := rd_set H.out HB1.out Hn.out
      exact ⟨rfl, hfin⟩
end Go.Proofs.YtmolpnhgmdpdmaaDoor
