/- A memory in the model's memory; the contracts of num, hold, all, missing, Size, Check. Conditions stand in each theorem. -/
import Derived.Test.YtngaifokkkmmcaaW
import Derived.Lib.SliceRun
import Derived.ScopeJumps
import Derived.WalkMore
namespace Go.Proofs.Ytngaifokkkmmcaa
open Go.RowKit
set_option linter.unusedVariables false
set_option maxHeartbeats 400000
set_option maxRecDepth 100000
theorem own_form {w : World} {base e sz n : Nat} {v : Value} {xs : List Value} (h : w.ownsRow base e sz v n xs) : ∃ A c, v = .slice A n c := by
  rcases h.2 with ⟨rfl, h0⟩ | ⟨g, cap, cur, rfl, _⟩
  · exact ⟨none, 0, by rw [h0]⟩
  · exact ⟨_, _, rfl⟩
theorem below_alloc (w : World) (o : Obj) : Below w.heap.size w (w.alloc o) := (Below.refl _ _).alloc (Nat.le_refl _) _
/-- A scope that jumps forward to one label. -/
theorem wp_scope_forward {P : Program} {c rest : Code} {Q : Exit → Act → World → Prop} {a : Act} {w : World} (l : Nat) (hf : findLabel c l = some rest)
    (h : c.wp P (Exit.jump l (fun a w => rest.wp P (Exit.noGoto Q) a w) Q) a w) : (Code.scope c).wp P Q a w :=
  wp_scope_jumps l (fun a w => rest.wp P (Exit.noGoto Q) a w) (fun _ _ => 0) hf h fun a w hJ => Code.wp_mono (fun e a w hq => by cases e <;> first | exact hq | exact hq.elim) hJ
/-- The state of a memory: its bytes, and the spans of all writes since the log was cleared. -/
structure Mm where
  B : List UInt8
  L : List (Nat × Nat)
/-- The cells of a log, whatever lies behind it. -/
structure Lg (c : Array Value) (L : List (Nat × Nat)) : Prop where
  next : c[768]? = some (.int .i64 (L.length : Int))
  one : ∀ u ∈ c.toList, u.oneCell' = true
  ring : ∀ i (h : i < L.length), L.length ≤ i + 256 → c[i % 256 * 3]? = some (.int .u64 (L[i].1 : Int)) ∧ c[i % 256 * 3 + 1]? = some (.int .i64 (L[i].2 : Int)) ∧ c[i % 256 * 3 + 2]? = some (.bool false)
/-- Block b is a memory in the state m, block d its bytes. Both lie from base on. -/
structure Mem (w : World) (base b d cap : Nat) (m : Mm) : Prop where
  blk : ∃ c : Array Value, w.heap[b]? = some (.cells c 56 (0, 0)) ∧ c.size = 770 ∧ Lg c m.L ∧ c[769]? = some (.slice (some ⟨d, 0, none⟩) m.B.length cap)
  dat : w.ownsRow base 5 1 (.slice (some ⟨d, 0, none⟩) m.B.length cap) m.B.length (bv m.B)
  hb : base ≤ b
/-- The numbers of a memory fit. -/
structure Gm (m : Mm) : Prop where
  pos : 0 < m.B.length
  max : m.B.length ≤ 4194304
  cnt : m.L.length ≤ 1000000
  fits : ∀ p ∈ m.L, p.1 ≤ m.B.length ∧ p.2 ≤ m.B.length
section
variable {w w' : World} {base b d cap : Nat} {m : Mm} {S : Nat → Prop}
theorem Mem.lt (h : Mem w base b d cap m) : b < w.heap.size := by
  obtain ⟨c, h1, _⟩ := h.blk
  exact (Array.getElem?_eq_some_iff.1 h1).1
theorem Mem.free (h : Mem w base b d cap m) (k : Nat) : w.frozen? ⟨b, k, none⟩ = false := by
  obtain ⟨c, h1, _⟩ := h.blk
  exact frozen_of_row w b k c 56 h1
theorem Mem.dcell (h : Mem w base b d cap m) : w.cell? ⟨b, 769, none⟩ = some (.slice (some ⟨d, 0, none⟩) m.B.length cap) := by
  obtain ⟨c, h1, _, _, h4⟩ := h.blk
  rw [cell_of_row w b 769 c 56 (0, 0) h1, h4]
theorem Mem.ncell (h : Mem w base b d cap m) : w.cell? ⟨b, 768, none⟩ = some (.int .i64 (m.L.length : Int)) := by
  obtain ⟨c, h1, _, h3, _⟩ := h.blk
  rw [cell_of_row w b 768 c 56 (0, 0) h1, h3.next]
theorem Mem.row (h : Mem w base b d cap m) : base ≤ d ∧ m.B.length ≤ cap ∧ ∃ cur, w.heap[d]? = some (.cells cur 5 (0, 0)) ∧ cur.size = cap := by
  rcases h.dat.2 with ⟨e, _⟩ | ⟨g, c2, cur, e, h1, h2, h3, h4, h5, h6⟩
  · cases e
  · simp only [Value.slice.injEq, Option.some.injEq, Addr.mk.injEq] at e
    obtain ⟨⟨rfl, _⟩, _, rfl⟩ := e
    exact ⟨h1, h3, cur, h2, by omega⟩
theorem Mem.dlt (h : Mem w base b d cap m) : d < w.heap.size := by
  obtain ⟨_, _, cur, h1, _⟩ := h.row
  exact (Array.getElem?_eq_some_iff.1 h1).1
theorem Mem.ne (h : Mem w base b d cap m) : b ≠ d := by
  rintro rfl
  obtain ⟨_, _, cur, h1, _⟩ := h.row
  obtain ⟨c, h2, _⟩ := h.blk
  rw [h1] at h2
  simp at h2
theorem Mem.keep (h : Mem w base b d cap m) (hk : ∀ k, k = b ∨ k = d → w'.heap[k]? = w.heap[k]?) : Mem w' base b d cap m := by
  refine ⟨?_, ⟨h.dat.1, ?_⟩, h.hb⟩
  · obtain ⟨c, h1, r⟩ := h.blk
    exact ⟨c, (hk b (.inl rfl)).trans h1, r⟩
  · rcases h.dat.2 with ⟨e, _⟩ | ⟨g, c2, cur, e, h1, h2, r⟩
    · cases e
    · have eg : g = d := by simp only [Value.slice.injEq, Option.some.injEq, Addr.mk.injEq] at e; exact e.1.1.symm
      exact .inr ⟨g, c2, cur, e, h1, (hk g (.inr eg)).trans h2, r⟩
theorem Mem.chg (h : Mem w base b d cap m) (hc : Chg S w w') (h1 : ¬ S b) (h2 : ¬ S d) : Mem w' base b d cap m :=
  h.keep fun k hk => by
    rcases hk with rfl | rfl
    · exact hc.block _ h.lt h1
    · exact hc.block _ h.dlt h2
theorem Mem.below (h : Mem w base b d cap m) (hc : Below w.heap.size w w') : Mem w' base b d cap m := h.chg (S := fun _ => False) (Chg.of_below hc) (fun h => h) (fun h => h)
theorem Mem.byt (h : Mem w base b d cap m) : Byt w (.slice (some ⟨d, 0, none⟩) m.B.length cap) m.B := Byt.of_own h.dat
end
theorem num_any (q : Int) (w : World) : Calls Try.prog 12 #[.int .i64 q] w fun e w' => e = .returned (.int .i64 q) ∧ w = w' := by
  go_enter Try.func12, Try.ntmps12
  go_wp2
  go_ret
  exact ⟨rfl, rfl⟩
/-- The first of two conditions that does not hold. -/
def ix2 (x y : Bool) : Int := if x = false then 0 else if y = false then 1 else -1
theorem index_any (x y : Bool) (g : Nat) (w : World) (h0 : w.cell? ⟨g, 0, none⟩ = some (.bool x)) (h1 : w.cell? ⟨g, 1, none⟩ = some (.bool y)) :
    Calls Try.prog 71 #[.slice (some ⟨g, 0, none⟩) 2 2, .bool false] w fun e w' => e = .returned (.int .i64 (ix2 x y)) ∧ w = w' := by
  go_enter Try.func71, Try.ntmps71
  go_wp2
  go_loopw [8] (fun i wr => ∃ k : Nat, k ≤ 2 ∧ i = .int .i64 k ∧ Hid ((1 ≤ k → x = true) ∧ (2 ≤ k → y = true)) ∧ wr = w) (fun i _ => 2 - (RowKit.intOf i).toNat)
  case atStart => exact ⟨0, by omega, rfl, Lib.hid ⟨fun h => absurd h (by omega), fun h => absurd h (by omega)⟩, rfl⟩
  case round =>
    obtain ⟨k, hk, rfl, HA, rfl⟩ := hrel
    have hc : k = 0 ∨ k = 1 ∨ k = 2 := by omega
    rcases hc with rfl | rfl | rfl
    · cases x
      · go_wp2
        go_ret
        exact ⟨rfl, rfl⟩
      · go_wp2
        go_roundw
        case rel => exact ⟨1, by omega, rfl, Lib.hid (by simp), trivial⟩
        case measure => simp [RowKit.intOf]
    · obtain rfl := HA.out.1 (by omega)
      cases y
      · go_wp2
        go_ret
        exact ⟨rfl, rfl⟩
      · go_wp2
        go_roundw
        case rel => exact ⟨2, by omega, rfl, Lib.hid (by simp), trivial⟩
        case measure => simp [RowKit.intOf]
    · obtain rfl := HA.out.1 (by omega)
      obtain rfl := HA.out.2 (by omega)
      go_wp2
      go_ret
      exact ⟨rfl, rfl⟩
theorem contains_any (x y : Bool) (g : Nat) (w : World) (h0 : w.cell? ⟨g, 0, none⟩ = some (.bool x)) (h1 : w.cell? ⟨g, 1, none⟩ = some (.bool y)) :
    Calls Try.prog 62 #[.slice (some ⟨g, 0, none⟩) 2 2, .bool false] w fun e w' => e = .returned (.bool (!(x && y))) ∧ w = w' := by
  have HI := Lib.hid (index_any x y g w h0 h1)
  have hd : decide (ix2 x y ≥ 0) = !(x && y) := by cases x <;> cases y <;> rfl
  generalize ix2 x y = q at *
  generalize (x && y) = z at *
  go_enter Try.func62, Try.ntmps62
  go_wp2_with ((go_at_call 71; with_reducible refine HI.out.mono ?_); rintro e w' ⟨rfl, rfl⟩)
  go_ret
  exact ⟨by rw [← hd]; rfl, rfl⟩
theorem hold_new (x y : Bool) (W : World) : Calls Try.prog 45 #[.slice (some ⟨W.heap.size, 0, none⟩) 2 2] (W.alloc (.cells #[.bool x, .bool y] 4)) fun e w' => e = .returned (.bool (x && y)) ∧ W.alloc (.cells #[.bool x, .bool y] 4) = w' := by
  have e := fun k => cell_of_row (W.alloc (.cells #[.bool x, .bool y] 4)) W.heap.size k _ 4 (0, 0) (heap_alloc_new W _)
  have HC := Lib.hid (contains_any x y W.heap.size _ (e 0) (e 1))
  clear e
  generalize W.alloc (.cells #[.bool x, .bool y] 4) = w at *
  generalize (x && y) = z at *
  go_enter Try.func45, Try.ntmps45
  go_wp2_with ((go_at_call 62; with_reducible refine HC.out.mono ?_); rintro e w' ⟨rfl, rfl⟩)
  go_ret
  exact ⟨rfl, rfl⟩
section
variable {w : World} {base b d cap : Nat} {m : Mm}
theorem all_any (h : Mem w base b d cap m) : Calls Try.prog 32 #[.pointer (some ⟨b, 0, none⟩)] w fun e w' => e = .returned (.slice (some ⟨d, 0, none⟩) m.B.length cap) ∧ w = w' := by
  have c1 := h.dcell
  clear h
  go_enter Try.func32, Try.ntmps32
  go_wp2
  go_ret
  exact ⟨rfl, rfl⟩
theorem missing_not (h : Mem w base b d cap m) (h0 : 0 < m.B.length) : Calls Try.prog 52 #[.pointer (some ⟨b, 0, none⟩)] w fun e w' => e = .returned (.bool false) ∧ w = w' := by
  obtain ⟨N, hN⟩ : ∃ N : Nat, N = m.B.length := ⟨_, rfl⟩
  have HA := Lib.hid (all_any h)
  rw [← hN] at HA h0
  have hp : ((N : Int) == 0) = false := by simp; omega
  clear h h0 hN
  go_enter Try.func52, Try.ntmps52
  go_wp2_with ((go_at_call 32; with_reducible refine HA.out.mono ?_); rintro e w' ⟨rfl, rfl⟩)
  go_ret
  exact ⟨by rw [← hp]; rfl, rfl⟩
theorem Size_any (h : Mem w base b d cap m) : Calls Try.prog 14 #[.pointer (some ⟨b, 0, none⟩)] w fun e w' => e = .returned (.int .i64 (m.B.length : Int)) ∧ w = w' := by
  have HA := Lib.hid (all_any h)
  clear h
  go_enter Try.func14, Try.ntmps14
  go_wp2_with ((go_at_call 32; with_reducible refine HA.out.mono ?_); rintro e w' ⟨rfl, rfl⟩)
  go_ret
  exact ⟨rfl, rfl⟩
/-- The error of a span. -/
def Mm.chk (m : Mm) (a : Nat) (n : Int) : Int := if n < 0 then 2 else if a ≤ m.B.length ∧ n ≤ ((m.B.length - a : Nat) : Int) then 0 else 3
theorem Check_any (h : Mem w base b d cap m) (hG : Gm m) (a : Nat) (n : Int) (ha : a < 18446744073709551616) (hn : n < 9223372036854775808) :
    Calls Try.prog 22 #[.pointer (some ⟨b, 0, none⟩), .int .u64 (a : Int), .int .i64 n] w fun e w' => e = .returned (.int .i64 (m.chk a n)) ∧ Below w.heap.size w w' := by
  have HS := Lib.hid (Size_any h)
  have HM := Lib.hid (missing_not h hG.pos)
  have h1 := hG.max
  have h0 := hG.pos
  have HX := Lib.hid hold_new
  obtain ⟨z, hz⟩ : ∃ z, z = m.chk a n := ⟨_, rfl⟩
  unfold Mm.chk at hz
  obtain ⟨N, hN⟩ : ∃ N, N = m.B.length := ⟨_, rfl⟩
  rw [← hN] at HS hz h1 h0
  have HE : Hid (z = m.chk a n) := Lib.hid (by rw [hz, hN]; rfl)
  rw [← HE.out]
  clear hN h hG
  have hw1 : IntKind.u64.wrap (N : Int) = (N : Int) := by rw [IntKind.wrap_u64]; omega
  by_cases c1 : n < 0
  · rw [if_pos c1] at hz
    subst hz
    clear ha hn
    go_enter Try.func22, Try.ntmps22
    go_wp2
    refine wp_scope_forward 0 rfl ?_
    go_wp2_with (first
        | ((go_at_call 14; with_reducible refine HS.out.mono ?_); rintro e w' ⟨rfl, rfl⟩)
        | ((go_at_call 52; with_reducible refine HM.out.mono ?_); rintro e w' ⟨rfl, rfl⟩)
        | ((go_at_call 45; with_reducible refine (HX.out _ _ _).mono ?_); rintro e w' ⟨rfl, rfl⟩))
    go_step3
    refine ⟨rfl, ?_⟩
    dsimp only
    go_wp2
    rw [Exit.noGoto_ret]
    go_ret
    exact ⟨rfl, Below.refl _ _⟩
  · rw [if_neg c1] at hz
    have c1' : 0 ≤ n := by omega
    have hw2 : IntKind.u64.wrap n = n := by rw [IntKind.wrap_u64]; omega
    by_cases c2 : a ≤ N
    · have c2' : (a : Int) ≤ (N : Int) := by omega
      have hw3 : IntKind.u64.wrap ((N : Int) - (a : Int)) = (N : Int) - (a : Int) := by rw [IntKind.wrap_u64]; omega
      by_cases c3 : n ≤ (N : Int) - (a : Int)
      · rw [if_pos ⟨c2, by omega⟩] at hz
        subst hz
        clear ha hn
        go_enter Try.func22, Try.ntmps22
        go_wp2
        go_step3
        go_wp2_with (first
            | ((go_at_call 14; with_reducible refine HS.out.mono ?_); rintro e w' ⟨rfl, rfl⟩)
            | ((go_at_call 52; with_reducible refine HM.out.mono ?_); rintro e w' ⟨rfl, rfl⟩)
            | ((go_at_call 45; with_reducible refine (HX.out _ _ _).mono ?_); rintro e w' ⟨rfl, rfl⟩))
        go_step3
        go_wp2
        rw [Exit.noGoto_ret]
        go_ret
        exact ⟨rfl, below_alloc _ _⟩
      · rw [if_neg (by omega)] at hz
        have c3' : decide (n ≤ (N : Int) - (a : Int)) = false := decide_eq_false c3
        subst hz
        clear ha hn
        go_enter Try.func22, Try.ntmps22
        go_wp2
        go_step3
        go_wp2_with (first
            | ((go_at_call 14; with_reducible refine HS.out.mono ?_); rintro e w' ⟨rfl, rfl⟩)
            | ((go_at_call 52; with_reducible refine HM.out.mono ?_); rintro e w' ⟨rfl, rfl⟩)
            | ((go_at_call 45; with_reducible refine (HX.out _ _ _).mono ?_); rintro e w' ⟨rfl, rfl⟩))
        go_step3
        go_wp2
        rw [Exit.noGoto_ret]
        go_ret
        exact ⟨rfl, below_alloc _ _⟩
    · have c2' : ¬ (a : Int) ≤ (N : Int) := by omega
      rw [if_neg (by omega)] at hz
      have c3' : decide ((a : Int) ≤ (N : Int)) = false := decide_eq_false c2'
      subst hz
      clear ha hn
      go_enter Try.func22, Try.ntmps22
      go_wp2
      go_step3
      go_wp2_with (first
          | ((go_at_call 14; with_reducible refine HS.out.mono ?_); rintro e w' ⟨rfl, rfl⟩)
          | ((go_at_call 52; with_reducible refine HM.out.mono ?_); rintro e w' ⟨rfl, rfl⟩)
          | ((go_at_call 45; with_reducible refine (HX.out _ _ _).mono ?_); rintro e w' ⟨rfl, rfl⟩))
      go_step3
      go_wp2
      rw [Exit.noGoto_ret]
      go_ret
      exact ⟨rfl, below_alloc _ _⟩
end
end Go.Proofs.Ytngaifokkkmmcaa
