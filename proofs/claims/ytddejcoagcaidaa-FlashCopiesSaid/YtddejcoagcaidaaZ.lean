/- The steps of the law's works: the examples of the chapter. Conditions stand in each theorem. -/
import Derived.Test.YtddejcoagcaidaaY
namespace Go.Proofs.Ytddejcoagcaidaa
open Go.RowKit
set_option linter.unusedVariables false
set_option maxHeartbeats 2000000
set_option maxRecDepth 100000
def s64 : List UInt8 := List.replicate 64 7
def f64 : List UInt8 := List.replicate 64 255
def kd0 : Dev := Dev.new 2 2 2 2 [2]
def kd1 : Dev := kd0.prS 0 0 [97, 98] s64
def kd2 : Dev := kd1.cuS 1 1
def kd3 : Dev := kd2.prS 0 1 [99, 100] s64
def kd4 : Dev := kd3.ctl (-1) 0 kd3.n false
def kd5 : Dev := kd4.erS 0
def kd6 : Dev := kd5.erS 0
/-- The device of works in the state s, its spare bytes v, in the world W behind w. -/
structure Kw (w : World) (b g m : Nat) (s : Dev) (v : Value) (W : World) : Prop where
  dev : ∃ V, Dv W w.heap.size b g m V s
  gd : Gd s
  n : s.n ≤ 1000
  byt : BytT 0 W v s64
  below : Below w.heap.size w W
section
variable {w W : World} {b g m : Nat} {s : Dev} {v : Value}
theorem Kw.later (h : Kw w b g m s v W) {W' : World} (hb : Below W.heap.size W W') : Kw w b g m s v W' := by
  obtain ⟨V, hd⟩ := h.dev
  exact ⟨⟨V, hd.below hb⟩, h.gd, h.n, h.byt.below hb, h.below.trans (hb.mono h.below.size)⟩
theorem Kw.step (h : Kw w b g m s v W) {V : Nat → Value} (hd : Dv W w.heap.size b g m V s) {s' : Dev} {W' : World} (hs : Step W w.heap.size b g m V s s' W') (hg : Gd s') (hn : s'.n ≤ 1000) : Kw w b g m s' v W' := by
  obtain ⟨V', h1, h2, _⟩ := hs
  exact ⟨⟨V', h1⟩, hg, hn, h.byt.chg h2 hd.noBytes, h.below.trans (h2.below h.below.size (fun i hi => hd.foot_ge hi))⟩
theorem Kw.pr (h : Kw w b g m s v W) {vd : Value} {x : List UInt8} (hx : BytT 0 W vd x) (q p k : Int) {s' : Dev} (e1 : s.prE q p x s64 = k) (e2 : s.prS q p x s64 = s') (hn : s'.n ≤ 1000) :
    Calls Try.prog 23 #[.pointer (some ⟨b, 0, none⟩), .int .i64 q, .int .i64 p, vd, v] W fun e W' => e = .returned (.int .i64 k) ∧ Kw w b g m s' v W' := by
  obtain ⟨V, hd⟩ := h.dev
  subst e1
  subst e2
  exact (Program_any hd h.gd (by have := h.n; omega) q p hx.1 h.byt.1 (hx.off (noBytes_dev hd)) (h.byt.off (noBytes_dev hd))).mono fun e W' ⟨a1, a2⟩ => ⟨a1, h.step hd a2 (gd_pr h.gd q p x s64) hn⟩
theorem byt2 (W : World) (a c : UInt8) (fr : Nat × Nat := (0, 0)) : BytT 0 (W.alloc (.cells #[.int .u8 (a.toNat : Int), .int .u8 (c.toNat : Int)] 5 fr)) (.slice (some ⟨W.heap.size, 0, none⟩) 2 2) [a, c] := by
  have h0 := heap_alloc_new W (.cells #[.int .u8 (a.toNat : Int), .int .u8 (c.toNat : Int)] 5 fr)
  refine ⟨⟨_, 2, rfl, Nat.le_refl _, fun _ => ⟨_, 0, rfl, (Array.getElem?_eq_some_iff.1 h0).1, fun j hj => ?_⟩⟩, fun _ b hb => ?_⟩
  · have hj2 : j < 2 := hj
    rw [Nat.zero_add, cell_of_row _ W.heap.size j _ 5 fr h0]
    match j, hj2 with
    | 0, _ => rfl
    | 1, _ => rfl
  · simp only [Value.ownBlock, Option.some.injEq] at hb
    subst hb
    exact ⟨Nat.zero_le _, _, _, h0⟩
theorem Kw.pr2 (h : Kw w b g m s v W) (a c : UInt8) (fr : Nat × Nat) (q p k : Int) {s' : Dev} (e1 : s.prE q p [a, c] s64 = k) (e2 : s.prS q p [a, c] s64 = s') (hn : s'.n ≤ 1000) :
    Calls Try.prog 23 #[.pointer (some ⟨b, 0, none⟩), .int .i64 q, .int .i64 p, .slice (some ⟨W.heap.size, 0, none⟩) 2 2, v] (W.alloc (.cells #[.int .u8 (a.toNat : Int), .int .u8 (c.toNat : Int)] 5 fr)) fun e W' => e = .returned (.int .i64 k) ∧ Kw w b g m s' v W' :=
  (h.later (below_alloc W _)).pr (byt2 W a c fr) q p k e1 e2 hn
def RdPost (w : World) (b g m : Nat) (s : Dev) (v : Value) (k : Int) (x y : List UInt8) (W : World) (e : Ending) (W' : World) : Prop := ∃ A1 n1 c1 A2 n2 c2, e = .returned (.tuple #[.slice A1 n1 c1, .slice A2 n2 c2, .int .i64 k]) ∧ BytT 0 W' (.slice A1 n1 c1) x ∧ BytT 0 W' (.slice A2 n2 c2) y ∧ Kw w b g m s v W' ∧ Below W.heap.size W W'
theorem Kw.rd (h : Kw w b g m s v W) (q p k : Int) {x y : List UInt8} (e1 : s.rdE q p = k) (e2 : s.rdD q p = x) (e3 : s.rdS q p = y) :
    Calls Try.prog 18 #[.pointer (some ⟨b, 0, none⟩), .int .i64 q, .int .i64 p] W (RdPost w b g m s v k x y W) := by
  obtain ⟨V, hd⟩ := h.dev
  subst e1
  subst e2
  subst e3
  refine (Read_any hd h.gd q p).mono ?_
  rintro e W' ⟨A1, n1, c1, A2, n2, c2, rfl, f1, f2, hb⟩
  exact ⟨A1, n1, c1, A2, n2, c2, rfl, f1.1, f2.1, h.later hb, hb⟩
theorem Kw.er (h : Kw w b g m s v W) (q k : Int) {s' : Dev} (e1 : s.erE q = k) (e2 : s.erS q = s') (hn : s'.n ≤ 1000) :
    Calls Try.prog 22 #[.pointer (some ⟨b, 0, none⟩), .int .i64 q] W fun e W' => e = .returned (.int .i64 k) ∧ Kw w b g m s' v W' := by
  obtain ⟨V, hd⟩ := h.dev
  subst e1
  subst e2
  exact (Erase_any hd h.gd (by have := h.n; omega) q).mono fun e W' ⟨a1, a2⟩ => ⟨a1, h.step hd a2 (gd_er h.gd q) hn⟩
theorem Kw.head (h : Kw w b g m s v W) {V : Nat → Value} (hd : Dv W w.heap.size b g m V s) {s' : Dev} {W' : World} {k : Int} {e : Ending} (hs : HeadPost W w.heap.size b g m V s' k e W') (hg : Gd s') (hn : s'.n ≤ 1000) : e = .returned (.int .i64 k) ∧ Kw w b g m s' v W' :=
  ⟨hs.1, ⟨V, hs.2.1⟩, hg, hn, h.byt.chg hs.2.2 (noBytes_dev hd), h.below.trans (hs.2.2.below h.below.size (fun i hi => by rw [hi]; exact hd.hb))⟩
theorem Kw.cu (h : Kw w b g m s v W) (o n k : Int) {s' : Dev} (e1 : s.cuE o n = k) (e2 : s.cuS o n = s') (hn : s'.n ≤ 1000) :
    Calls Try.prog 24 #[.pointer (some ⟨b, 0, none⟩), .int .i64 o, .int .i64 n] W fun e W' => e = .returned (.int .i64 k) ∧ Kw w b g m s' v W' := by
  obtain ⟨V, hd⟩ := h.dev
  subst e1
  subst e2
  exact (Cut_any hd h.gd o n).mono fun e W' hs => h.head hd hs (gd_cu h.gd o n) hn
theorem Kw.rs (h : Kw w b g m s v W) : Calls Try.prog 21 #[.pointer (some ⟨b, 0, none⟩)] W fun e W' => e = .returned (.int .i64 0) ∧ Kw w b g m (s.ctl (-1) 0 s.n false) v W' := by
  obtain ⟨V, hd⟩ := h.dev
  exact (Restart_any hd).mono fun e W' hs => h.head hd hs (gd_rs h.gd) h.n
theorem Kw.st (h : Kw w b g m s v W) (q p k : Int) (e1 : s.stt q p = k) : Calls Try.prog 30 #[.pointer (some ⟨b, 0, none⟩), .int .i64 q, .int .i64 p] W fun e W' => e = .returned (.int .i64 k) ∧ W = W' := by
  obtain ⟨V, hd⟩ := h.dev
  subst e1
  exact State_any hd h.gd q p
theorem Kw.nx (h : Kw w b g m s v W) (q k : Int) (e1 : s.nx q = k) : Calls Try.prog 28 #[.pointer (some ⟨b, 0, none⟩), .int .i64 q] W fun e W' => e = .returned (.int .i64 k) ∧ W = W' := by
  obtain ⟨V, hd⟩ := h.dev
  subst e1
  exact Next_any hd h.gd q
theorem Kw.op (h : Kw w b g m s v W) (k : Int) (e1 : s.n = k) : Calls Try.prog 27 #[.pointer (some ⟨b, 0, none⟩)] W fun e W' => e = .returned (.int .i64 k) ∧ W = W' := by
  obtain ⟨V, hd⟩ := h.dev
  subst e1
  exact Operations_any hd
theorem same_of {v1 v2 : Value} {x : List UInt8} (h1 : BytT 0 W v1 x) (h2 : BytT 0 W v2 x) : Calls Try.prog 31 #[v1, v2] W fun e W' => e = .returned (.bool true) ∧ W = W' := by
  have := same_any v1 v2 x x W h1.1 h2.1
  simpa using this
theorem same_two {v1 : Value} {a c : UInt8} (fr : Nat × Nat) (h1 : BytT 0 W v1 [a, c]) : Calls Try.prog 31 #[v1, .slice (some ⟨W.heap.size, 0, none⟩) 2 2] (W.alloc (.cells #[.int .u8 (a.toNat : Int), .int .u8 (c.toNat : Int)] 5 fr)) fun e W' => e = .returned (.bool true) ∧ W.alloc (.cells #[.int .u8 (a.toNat : Int), .int .u8 (c.toNat : Int)] 5 fr) = W' :=
  same_of (h1.below (below_alloc W _)) (byt2 W a c fr)
end
/-- New as works calls it. -/
theorem new_works (w : World) : Calls Try.prog 11 #[.agg #[.int .i64 2, .int .i64 2, .int .i64 2, .int .i64 2], .slice (some ⟨w.heap.size, 0, none⟩) 1 1] (w.alloc (.cells #[.int .i64 2] 3)) fun e W' => ∃ b g m, e = .returned (.tuple #[.pointer (some ⟨b, 0, none⟩), .int .i64 0]) ∧ Hid (Dv W' w.heap.size b g m (fun _ => .slice none 0 0) kd0) ∧ Hid (Below w.heap.size w W') := by
  have hx : Ints (w.alloc (.cells #[.int .i64 2] 3)) (.slice (some ⟨w.heap.size, 0, none⟩) 1 1) [2] := ⟨_, 1, rfl, fun _ => ⟨w.heap.size, 0, rfl, by simp, fun j hj => by
    have : j = 0 := by simp at hj; exact hj
    subst this
    simp⟩⟩
  refine (New_ok 2 2 2 2 _ [2] _ (by decide) hx (fun x hx => by simp at hx; subst hx; unfold I64; omega) (by decide)).mono ?_
  rintro e W' (⟨h, _⟩ | ⟨_, b, g, m, rfl, hd, hb⟩)
  · exact absurd h (by decide)
  · have hd2 : Dv W' w.heap.size b g m (fun _ => .slice none 0 0) kd0 := ⟨hd.blk, by have := hd.hb; simp at this; omega, by have := hd.hg; simp at this; omega, by have := hd.hm; simp at this; omega, hd.grid, fun i hi => by
      obtain ⟨xs, h1, h2⟩ := hd.row i hi
      exact ⟨xs, own_base h1 (by simp), h2⟩, hd.apart, hd.flt, Nat.zero_le _⟩
    exact ⟨b, g, m, rfl, Lib.hid hd2, Lib.hid ((below_alloc w _).trans (hb.mono (by simp)))⟩
theorem gd0 : Gd kd0 := gd_new (by omega)
theorem x1 : kd0.prE 0 0 [97, 98] s64 = 0 := by decide +kernel
theorem x2 : kd1.prE 0 0 [99, 100] s64 = 51 := by decide +kernel
theorem x3 : kd1.prE 1 1 [99, 100] s64 = 51 := by decide +kernel
theorem x4 : kd1.rdE 0 0 = 0 := by decide +kernel
theorem x5 : kd1.rdD 0 0 = [97, 98] := by decide +kernel
theorem x6 : kd1.rdS 0 0 = s64 := by decide +kernel
theorem x7 : kd1.rdE 0 1 = 52 := by decide +kernel
theorem x8 : kd1.cuE 1 1 = 0 := by decide +kernel
theorem x9 : kd2.prE 0 1 [99, 100] s64 = 50 := by decide +kernel
theorem x10 : kd3.rdE 0 0 = 50 := by decide +kernel
theorem x11 : kd4.rdE 0 1 = 0 := by decide +kernel
theorem x12 : kd4.rdD 0 1 = [99, 255] := by decide +kernel
theorem x13 : kd4.rdS 0 1 = f64 := by decide +kernel
theorem x14 : kd4.stt 0 1 = 3 := by decide +kernel
theorem x15 : kd4.erE 0 = 55 := by decide +kernel
theorem x16 : kd5.stt 0 0 = 5 := by decide +kernel
theorem x17 : kd5.rdE 0 0 = 53 := by decide +kernel
theorem x18 : kd5.erE 0 = 0 := by decide +kernel
theorem x19 : kd6.nx 0 = 0 := by decide +kernel
theorem x20 : kd6.erE 0 = 56 := by decide +kernel
theorem x21 : kd6.n = 4 := by decide +kernel
theorem s_refuse {s : Dev} {q p : Int} {x y : List UInt8} (h : s.prE q p x y = 51) (hx : s.exE 54 ≠ 51) : s.prS q p x y = s := by
  unfold Dev.prS
  rw [if_neg]
  rintro ⟨h1, h2, h3⟩
  unfold Dev.prE at h
  rw [if_neg (by rw [h1]; simp), if_neg (by rw [h2]; simp), if_neg (by simp [h3])] at h
  exact hx h
theorem y1 : kd0.prS 0 0 [97, 98] s64 = kd1 := rfl
theorem y8 : kd1.cuS 1 1 = kd2 := rfl
theorem y9 : kd2.prS 0 1 [99, 100] s64 = kd3 := rfl
theorem y15 : kd4.erS 0 = kd5 := rfl
theorem y18 : kd5.erS 0 = kd6 := rfl
theorem y2 : kd1.prS 0 0 [99, 100] s64 = kd1 := s_refuse x2 (by decide +kernel)
theorem y3 : kd1.prS 1 1 [99, 100] s64 = kd1 := s_refuse x3 (by decide +kernel)
theorem n1 : kd1.n ≤ 1000 := by decide +kernel
theorem n2 : kd2.n ≤ 1000 := by decide +kernel
theorem n3 : kd3.n ≤ 1000 := by decide +kernel
theorem n5 : kd5.n ≤ 1000 := by decide +kernel
theorem n6 : kd6.n ≤ 1000 := by decide +kernel
theorem y20 : kd6.erS 0 = kd6 := by
  unfold Dev.erS
  rw [if_neg]
  rintro ⟨_, _, h3⟩
  exact h3 (by decide +kernel)
end Go.Proofs.Ytddejcoagcaidaa
