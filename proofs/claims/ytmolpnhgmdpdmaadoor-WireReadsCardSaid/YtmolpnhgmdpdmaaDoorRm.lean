/- Words for the law's function look: what is left of the bytes, in whatever later world. Conditions stand in each theorem. -/
import Derived.Test.YtmolpnhgmdpdmaaDoorRl
import Derived.Deep.RegionHeld3
namespace Go.Proofs.YtmolpnhgmdpdmaaDoor
open Go.RowKit
set_option linter.unusedVariables false

/-- The value reads as l, and lies in another block than g. -/
def BytX (g : Nat) (w : World) (v : Value) (l : List UInt8) : Prop := Byt w v l ∧ (0 < l.length → ∀ b, v.ownBlock = some b → b ≠ g)
theorem BytX.chg {g : Nat} {w w' : World} {v : Value} {l : List UInt8} (h : BytX g w v l) (hc : Chg (· = g) w w') : BytX g w' v l := ⟨byt_chg h.1 hc h.2, h.2⟩
theorem BytX.below {g : Nat} {w w' : World} {v : Value} {l : List UInt8} (h : BytX g w v l) (hb : Below w.heap.size w w') : BytX g w' v l := ⟨h.1.below hb, h.2⟩
theorem BytX.sub {g : Nat} {w : World} {l : List UInt8} {A : Option Addr} {n c lo hi : Nat} (h : BytX g w (.slice A n c) l) (h1 : lo ≤ hi) (h2 : hi ≤ l.length) : BytX g w (sliced A lo hi c 1) ((l.take hi).drop lo) := by
  obtain ⟨⟨A', c', e, hc, hr⟩, hs⟩ := h
  simp only [Value.slice.injEq] at e
  obtain ⟨rfl, rfl, rfl⟩ := e
  have hlen : ((l.take hi).drop lo).length = hi - lo := by simp; omega
  refine ⟨⟨_, _, by unfold sliced; rw [hlen], by rw [hlen]; omega, fun h0 => ?_⟩, fun h0 b hb => ?_⟩
  · rw [hlen] at h0
    have hr' := hr (by omega)
    clear hr hs
    obtain ⟨g', o, rfl, hg, hcell⟩ := hr'
    refine ⟨g', o + lo, ?_, hg, fun j hj => ?_⟩
    · rw [if_neg (by omega)]
      simp [add_plain]
    · rw [hlen] at hj
      rw [Nat.add_assoc, hcell (lo + j) (by omega)]
      simp
  · rw [hlen] at h0
    have hr' := hr (by omega)
    have hs' := hs (by omega) b
    clear hr hs
    obtain ⟨g', o, rfl, hg, -⟩ := hr'
    refine hs' ?_
    unfold sliced at hb
    rw [if_neg (by omega)] at hb
    simpa [Value.ownBlock, add_plain] using hb
theorem len_of {g : Nat} {w : World} {l : List UInt8} {A : Option Addr} {n c : Nat} (h : BytX g w (.slice A n c) l) : n = l.length ∧ l.length ≤ c := by
  obtain ⟨⟨A', c', e, hc, hr⟩, hs⟩ := h
  simp only [Value.slice.injEq] at e
  exact ⟨e.2.1, by omega⟩
theorem elem23 : Tryd.prog.elem 23 = 5 := by kernel_rfl
theorem under23e : Tryd.prog.underlying 23 = some (.slice (Tryd.prog.elem 23)) := by rw [elem23]; exact Tryd.underlying23
theorem left_of {g : Nat} {w : World} {l : List UInt8} {A : Option Addr} {c a : Nat} (h : BytX g w (.slice A l.length c) l) (ha : a ≤ l.length) :
    ∃ P q, (∀ W : World, (Instr.slice 23 (.slice A l.length c) (some (.int .i64 (a : Int))) none none).run Tryd.prog W = .ok (.slice P (l.length - a) q) W) ∧ BytX g w (.slice P (l.length - a) q) (l.drop a) := by
  have h2 := h.sub (lo := a) (hi := l.length) ha (Nat.le_refl _)
  rw [List.take_length] at h2
  refine ⟨_, _, fun W => ?_, h2⟩
  obtain ⟨i0, hi0, hz0, hz1, hz2⟩ := info_parts u8_info
  rw [run_slice_l (P := Tryd.prog) (w := W) (t := 23) (a := A) (len := l.length) (cap := c) (ht := under23e) .i64 a (by omega) (by omega)]
  simp [sizeOf, typeInfo, elem23, hi0, hz1, sliced]
theorem head_of {g : Nat} {w : World} {l : List UInt8} {P : Option Addr} {m q n : Nat} (h : BytX g w (.slice P m q) l) (hn : n ≤ m) :
    ∃ V, (∀ W : World, (Instr.slice 23 (.slice P m q) none (some (.int .i64 (n : Int))) none).run Tryd.prog W = .ok V W) ∧ BytX g w V (l.take n) := by
  obtain ⟨hm, hq⟩ := len_of h
  have h2 := h.sub (lo := 0) (hi := n) (Nat.zero_le _) (by omega)
  rw [List.drop_zero] at h2
  refine ⟨_, fun W => ?_, h2⟩
  obtain ⟨i0, hi0, hz0, hz1, hz2⟩ := info_parts u8_info
  rw [run_slice_h (P := Tryd.prog) (w := W) (t := 23) (a := P) (len := m) (cap := q) (ht := under23e) .i64 n (by omega) (by omega)]
  simp [sizeOf, typeInfo, elem23, hi0, hz1]
/-- w' is w with blocks more. -/
def Bel (w w' : World) : Prop := Below w.heap.size w w'
theorem Bel.refl (w : World) : Bel w w := Below.refl _ _
theorem Bel.drew {w w' : World} (h : Bel w w') : Bel w w'.drew := Below.drew h
theorem Bel.step {w w1 w2 : World} (h : Bel w w1) (h2 : Below w1.heap.size w1 w2) : Bel w w2 := Below.trans h (h2.mono (Below.size h))
theorem same_later {w : World} {v1 v2 : Value} {l : List UInt8} (h1 : Byt w v1 l) (h2 : Byt w v2 l) (W : World) (hW : Bel w W) : Calls Tryd.prog 13 #[v1, v2] W fun e W' => e = .returned (.bool true) ∧ W = W' :=
  Same_eq v1 v2 l W (h1.below hW) (h2.below hW)
theorem advE_neg {l : List UInt8} {a : Nat} {n : Int} (h : n < 0) : advE l a n = 2 := if_pos h
theorem advE_short {l : List UInt8} {a : Nat} {n : Int} (h0 : 0 ≤ n) (h : (l.length : Int) < a + n) : advE l a n = 4 := by unfold advE; rw [if_neg (by omega), if_pos h]
theorem LPost.mk {w w1 w' : World} {g a' : Nat} {vd : Value} {l : List UInt8} (hR : Rd w' g vd l a') (hC : Chg (· = g) w w') : LPost w g vd l (.returned (.tuple #[.int .i64 (a' : Int), .bool true])) w' := ⟨a', rfl, hR, hC⟩
end Go.Proofs.YtmolpnhgmdpdmaaDoor
