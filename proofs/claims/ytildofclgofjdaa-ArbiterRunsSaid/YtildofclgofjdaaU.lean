/- The law's known: the examples of the chapter. No condition. -/
import Derived.Test.YtildofclgofjdaaT
namespace Go.Proofs.Ytildofclgofjdaa
open Go.RowKit
set_option linter.unusedVariables false
set_option maxHeartbeats 400000
set_option maxRecDepth 100000
def kA0 : St := St.new false 2 0 0 0
def kA1 : St := kA0.with (addL kA0.L 1 0)
def kA2 : St := kA1.with (addL kA1.L 5 0)
def kW0 : St := St.new true 0 3 2 1
def kW1 : St := kW0.with (addL kW0.L 1 1)
def kW2 : St := kW1.with (addL kW1.L 2 3)
def lA : List (Int × Int) := [(1, 9), (5, 1)]
def lW : List (Int × Int) := [(1, 9), (2, 9)]
def lV : List (Int × Int) := [(1, 2), (2, 9)]
def kA3 : St := kA2.pkS lA
def kA4 : St := kA3.pkS lA
def kA5 : St := kA4.pkS lA
def kW3 : St := kW2.pkS lW
def kW4 : St := kW3.pkS lW
def kW5 : St := kW4.pkS lW
def kW6 : St := kW5.pkS lW
def kV3 : St := kW2.pkS lV
def kV4 : St := kV3.pkS lV
def kV5 : St := kV4.pkS lV
theorem okA0 : Ok kA0 := new_ok (by decide)
theorem okA1 : Ok kA1 := with_ok okA0 (okA0.srt.add 1 0)
theorem okA2 : Ok kA2 := with_ok okA1 (okA1.srt.add 5 0)
theorem okW0 : Ok kW0 := new_ok (by decide)
theorem okW1 : Ok kW1 := with_ok okW0 (okW0.srt.add 1 1)
theorem okW2 : Ok kW2 := with_ok okW1 (okW1.srt.add 2 3)
theorem eA0 : addE kA0.L 1 0 = 0 := by decide +kernel
theorem eA1 : addE kA1.L 5 0 = 0 := by decide +kernel
theorem eW0 : addE kW0.L 1 1 = 0 := by decide +kernel
theorem eW1 : addE kW1.L 2 3 = 0 := by decide +kernel
theorem anyA : anyB lA = true := by decide +kernel
theorem anyW : anyB lW = true := by decide +kernel
theorem anyV : anyB lV = true := by decide +kernel
theorem rngA : Rng lA := fun p hp => by simp [lA] at hp; rcases hp with rfl | rfl <;> (unfold I64; omega)
theorem rngW : Rng lW := fun p hp => by simp [lW] at hp; rcases hp with rfl | rfl <;> (unfold I64; omega)
theorem rngV : Rng lV := fun p hp => by simp [lV] at hp; rcases hp with rfl | rfl <;> (unfold I64; omega)
theorem aA2 : acc kA2.L [] lA = true := by decide +kernel
theorem qA2 : (kA2.pkP lA).1 = 1 := by decide +kernel
theorem nA2 : kA2.pkM lA = 2 := by decide +kernel
theorem okA3 : Ok kA3 := pkS_ok okA2 aA2 anyA
theorem aA3 : acc kA3.L [] lA = true := by decide +kernel
theorem qA3 : (kA3.pkP lA).1 = 5 := by decide +kernel
theorem nA3 : kA3.pkM lA = 1 := by decide +kernel
theorem okA4 : Ok kA4 := pkS_ok okA3 aA3 anyA
theorem aA4 : acc kA4.L [] lA = true := by decide +kernel
theorem qA4 : (kA4.pkP lA).1 = 1 := by decide +kernel
theorem nA4 : kA4.pkM lA = 2 := by decide +kernel
theorem okA5 : Ok kA5 := pkS_ok okA4 aA4 anyA
theorem aW2 : acc kW2.L [] lW = true := by decide +kernel
theorem qW2 : (kW2.pkP lW).1 = 1 := by decide +kernel
theorem nW2 : kW2.pkM lW = 3 := by decide +kernel
theorem okW3 : Ok kW3 := pkS_ok okW2 aW2 anyW
theorem aW3 : acc kW3.L [] lW = true := by decide +kernel
theorem qW3 : (kW3.pkP lW).1 = 2 := by decide +kernel
theorem nW3 : kW3.pkM lW = 1 := by decide +kernel
theorem okW4 : Ok kW4 := pkS_ok okW3 aW3 anyW
theorem aW4 : acc kW4.L [] lW = true := by decide +kernel
theorem qW4 : (kW4.pkP lW).1 = 1 := by decide +kernel
theorem nW4 : kW4.pkM lW = 3 := by decide +kernel
theorem okW5 : Ok kW5 := pkS_ok okW4 aW4 anyW
theorem aW5 : acc kW5.L [] lW = true := by decide +kernel
theorem qW5 : (kW5.pkP lW).1 = 2 := by decide +kernel
theorem nW5 : kW5.pkM lW = 1 := by decide +kernel
theorem okW6 : Ok kW6 := pkS_ok okW5 aW5 anyW
theorem aV2 : acc kW2.L [] lV = true := by decide +kernel
theorem qV2 : (kW2.pkP lV).1 = 1 := by decide +kernel
theorem nV2 : kW2.pkM lV = 2 := by decide +kernel
theorem okV3 : Ok kV3 := pkS_ok okW2 aV2 anyV
theorem aV3 : acc kV3.L [] lV = true := by decide +kernel
theorem qV3 : (kV3.pkP lV).1 = 1 := by decide +kernel
theorem nV3 : kV3.pkM lV = 1 := by decide +kernel
theorem okV4 : Ok kV4 := pkS_ok okV3 aV3 anyV
theorem aV4 : acc kV4.L [] lV = true := by decide +kernel
theorem qV4 : (kV4.pkP lV).1 = 2 := by decide +kernel
theorem nV4 : kV4.pkM lV = 1 := by decide +kernel
theorem okV5 : Ok kV5 := pkS_ok okV4 aV4 anyV
theorem Arb.off {W W' : World} {b m b' m' : Nat} {s s' : St} (h : Arb W b m s) (h' : Arb W b' m' s') (hne : b' ≠ b) (hc : Chg (· = b) W W') : Arb W' b' m' s' := by
  refine h'.chg hc hne ?_
  rintro rfl
  obtain ⟨es, c, hm⟩ := h'.map.isMap
  rw [h.blk] at hm
  cases hm
theorem Arb.offM {W W' : World} {b m b' m' : Nat} {s s' : St} (h : Arb W b m s) (h' : Arb W b' m' s') (hne : m' ≠ m) (hc : Chg (· = m) W W') : Arb W' b' m' s' := by
  refine h'.chg hc ?_ hne
  rintro rfl
  obtain ⟨es, c, hm⟩ := h.map.isMap
  rw [h'.blk] at hm
  cases hm
theorem Two.off {W W' : World} {b m t : Nat} {s : St} {p : Int × Int} (h : Arb W b m s) (h' : Two W t p) (hc : Chg (· = b) W W') : Two W' t p := by
  refine (hc.block t h'.lt ?_).trans h'
  rintro rfl
  have := h.blk
  unfold Two at h'
  rw [h'] at this
  injection this with this
  injection this with _ ht
  exact absurd ht (by decide)
/-- Two arbiters, apart, in blocks that are new since w. -/
structure K2 (w : World) (ba ma bw mw : Nat) (sa sw : St) (W : World) : Prop where
  a : Arb W ba ma sa
  b : Arb W bw mw sw
  d1 : bw ≠ ba
  d2 : mw ≠ ma
  ga : w.heap.size ≤ ba
  gm : w.heap.size ≤ ma
  gb : w.heap.size ≤ bw
  gn : w.heap.size ≤ mw
  below : Below w.heap.size w W
theorem K2.addA {w : World} {ba ma bw mw : Nat} {sa sw : St} {W : World} (h : K2 w ba ma bw mw sa sw W) (hs : Ok sa) (q c : Int) (he : addE sa.L q c = 0) :
    Calls Try.prog 16 #[.pointer (some ⟨ba, 0, none⟩), .int .i64 q, .int .i64 c] W fun e W' => e = .returned (.int .i64 0) ∧ K2 w ba ma bw mw (sa.with (addL sa.L q c)) sw W' := by
  have hc := Add_any ba ma sa W h.a hs.srt q c
  rw [he] at hc
  refine hc.mono ?_
  rintro e W' ⟨rfl, hA, hC⟩
  exact ⟨rfl, hA, h.a.offM h.b h.d2 hC, h.d1, h.d2, h.ga, h.gm, h.gb, h.gn, h.below.trans (hC.below h.below.size (fun i hi => by rw [hi]; exact h.gm))⟩
theorem K2.addB {w : World} {ba ma bw mw : Nat} {sa sw : St} {W : World} (h : K2 w ba ma bw mw sa sw W) (hs : Ok sw) (q c : Int) (he : addE sw.L q c = 0) :
    Calls Try.prog 16 #[.pointer (some ⟨bw, 0, none⟩), .int .i64 q, .int .i64 c] W fun e W' => e = .returned (.int .i64 0) ∧ K2 w ba ma bw mw sa (sw.with (addL sw.L q c)) W' := by
  have hc := Add_any bw mw sw W h.b hs.srt q c
  rw [he] at hc
  refine hc.mono ?_
  rintro e W' ⟨rfl, hA, hC⟩
  exact ⟨rfl, h.b.offM h.a (fun e => h.d2 e.symm) hC, hA, h.d1, h.d2, h.ga, h.gm, h.gb, h.gn, h.below.trans (hC.below h.below.size (fun i hi => by rw [hi]; exact h.gn))⟩
/-- Three arbiters and the four loads. -/
structure K3 (w : World) (ba ma bw mw bv mv t9 t10 t11 t12 : Nat) (sa sw sv : St) (W : World) : Prop where
  a : Arb W ba ma sa
  b : Arb W bw mw sw
  c : Arb W bv mv sv
  d1 : bw ≠ ba
  d2 : bv ≠ ba
  d3 : bv ≠ bw
  ga : w.heap.size ≤ ba
  gb : w.heap.size ≤ bw
  gc : w.heap.size ≤ bv
  x9 : Two W t9 (1, 9)
  x10 : Two W t10 (5, 1)
  x11 : Two W t11 (2, 9)
  x12 : Two W t12 (1, 2)
  below : Below w.heap.size w W
theorem K3.later {w : World} {ba ma bw mw bv mv t9 t10 t11 t12 : Nat} {sa sw sv : St} {W W' : World} (h : K3 w ba ma bw mw bv mv t9 t10 t11 t12 sa sw sv W) (hb : Below W.heap.size W W') : K3 w ba ma bw mw bv mv t9 t10 t11 t12 sa sw sv W' :=
  ⟨h.a.below hb, h.b.below hb, h.c.below hb, h.d1, h.d2, h.d3, h.ga, h.gb, h.gc, h.x9.below hb, h.x10.below hb, h.x11.below hb, h.x12.below hb, h.below.trans (hb.mono h.below.size)⟩
theorem K3.pickA {w : World} {ba ma bw mw bv mv t9 t10 t11 t12 : Nat} {sa sw sv s' : St} {W W' : World} (h : K3 w ba ma bw mw bv mv t9 t10 t11 t12 sa sw sv W) (hA : Arb W' ba ma s') (hC : Chg (· = ba) W W') : K3 w ba ma bw mw bv mv t9 t10 t11 t12 s' sw sv W' :=
  ⟨hA, h.a.off h.b h.d1 hC, h.a.off h.c h.d2 hC, h.d1, h.d2, h.d3, h.ga, h.gb, h.gc, Two.off h.a h.x9 hC, Two.off h.a h.x10 hC, Two.off h.a h.x11 hC, Two.off h.a h.x12 hC, h.below.trans (hC.below h.below.size (fun i hi => by rw [hi]; exact h.ga))⟩
theorem K3.pickB {w : World} {ba ma bw mw bv mv t9 t10 t11 t12 : Nat} {sa sw sv s' : St} {W W' : World} (h : K3 w ba ma bw mw bv mv t9 t10 t11 t12 sa sw sv W) (hA : Arb W' bw mw s') (hC : Chg (· = bw) W W') : K3 w ba ma bw mw bv mv t9 t10 t11 t12 sa s' sv W' :=
  ⟨h.b.off h.a (fun e => h.d1 e.symm) hC, hA, h.b.off h.c h.d3 hC, h.d1, h.d2, h.d3, h.ga, h.gb, h.gc, Two.off h.b h.x9 hC, Two.off h.b h.x10 hC, Two.off h.b h.x11 hC, Two.off h.b h.x12 hC, h.below.trans (hC.below h.below.size (fun i hi => by rw [hi]; exact h.gb))⟩
theorem K3.pickC {w : World} {ba ma bw mw bv mv t9 t10 t11 t12 : Nat} {sa sw sv s' : St} {W W' : World} (h : K3 w ba ma bw mw bv mv t9 t10 t11 t12 sa sw sv W) (hA : Arb W' bv mv s') (hC : Chg (· = bv) W W') : K3 w ba ma bw mw bv mv t9 t10 t11 t12 sa sw s' W' :=
  ⟨h.c.off h.a (fun e => h.d2 e.symm) hC, h.c.off h.b (fun e => h.d3 e.symm) hC, hA, h.d1, h.d2, h.d3, h.ga, h.gb, h.gc, Two.off h.c h.x9 hC, Two.off h.c h.x10 hC, Two.off h.c h.x11 hC, Two.off h.c h.x12 hC, h.below.trans (hC.below h.below.size (fun i hi => by rw [hi]; exact h.gc))⟩
/-- Two loads in a new row. -/
theorem lds_two (W : World) (q1 n1 q2 n2 : Int) : Lds (W.alloc (.cells #[.int .i64 q1, .int .i64 n1, .int .i64 q2, .int .i64 n2] 48)) (.slice (some ⟨W.heap.size, 0, none⟩) 2 2) [(q1, n1), (q2, n2)] := by
  refine ⟨_, 2, rfl, by simp, fun _ => ⟨W.heap.size, 0, rfl, by simp, fun j hj => ?_⟩⟩
  match j, hj with
  | 0, _ => exact ⟨by simp, by simp⟩
  | 1, _ => exact ⟨by simp, by simp⟩
theorem stA2 {w : World} {ba ma bw mw bv mv t9 t10 t11 t12 : Nat} {W : World} (h : K3 w ba ma bw mw bv mv t9 t10 t11 t12 kA2 kW2 kW2 W) :
    Calls Try.prog 18 #[.pointer (some ⟨ba, 0, none⟩), .int .i64 1, .int .i64 2, .slice (some ⟨W.heap.size, 0, none⟩) 2 2] (W.alloc (.cells #[.int .i64 1, .int .i64 9, .int .i64 5, .int .i64 1] 48)) fun e W' => e = .returned (.bool true) ∧ K3 w ba ma bw mw bv mv t9 t10 t11 t12 kA3 kW2 kW2 W' := by
  have h2 := h.later (below_alloc W (.cells #[.int .i64 1, .int .i64 9, .int .i64 5, .int .i64 1] 48))
  refine (picks_yes ba ma kA2 _ h2.a okA2 _ lA (lds_two W 1 9 5 1) rngA (by decide) aA2 anyA 1 2 qA2 nA2).mono ?_
  rintro e W' ⟨rfl, hA, hC⟩
  exact ⟨rfl, h2.pickA hA hC⟩
theorem stA3 {w : World} {ba ma bw mw bv mv t9 t10 t11 t12 : Nat} {W : World} (h : K3 w ba ma bw mw bv mv t9 t10 t11 t12 kA3 kW2 kW2 W) :
    Calls Try.prog 18 #[.pointer (some ⟨ba, 0, none⟩), .int .i64 5, .int .i64 1, .slice (some ⟨W.heap.size, 0, none⟩) 2 2] (W.alloc (.cells #[.int .i64 1, .int .i64 9, .int .i64 5, .int .i64 1] 48)) fun e W' => e = .returned (.bool true) ∧ K3 w ba ma bw mw bv mv t9 t10 t11 t12 kA4 kW2 kW2 W' := by
  have h2 := h.later (below_alloc W (.cells #[.int .i64 1, .int .i64 9, .int .i64 5, .int .i64 1] 48))
  refine (picks_yes ba ma kA3 _ h2.a okA3 _ lA (lds_two W 1 9 5 1) rngA (by decide) aA3 anyA 5 1 qA3 nA3).mono ?_
  rintro e W' ⟨rfl, hA, hC⟩
  exact ⟨rfl, h2.pickA hA hC⟩
theorem stA4 {w : World} {ba ma bw mw bv mv t9 t10 t11 t12 : Nat} {W : World} (h : K3 w ba ma bw mw bv mv t9 t10 t11 t12 kA4 kW2 kW2 W) :
    Calls Try.prog 18 #[.pointer (some ⟨ba, 0, none⟩), .int .i64 1, .int .i64 2, .slice (some ⟨W.heap.size, 0, none⟩) 2 2] (W.alloc (.cells #[.int .i64 1, .int .i64 9, .int .i64 5, .int .i64 1] 48)) fun e W' => e = .returned (.bool true) ∧ K3 w ba ma bw mw bv mv t9 t10 t11 t12 kA5 kW2 kW2 W' := by
  have h2 := h.later (below_alloc W (.cells #[.int .i64 1, .int .i64 9, .int .i64 5, .int .i64 1] 48))
  refine (picks_yes ba ma kA4 _ h2.a okA4 _ lA (lds_two W 1 9 5 1) rngA (by decide) aA4 anyA 1 2 qA4 nA4).mono ?_
  rintro e W' ⟨rfl, hA, hC⟩
  exact ⟨rfl, h2.pickA hA hC⟩
theorem stW2 {w : World} {ba ma bw mw bv mv t9 t10 t11 t12 : Nat} {W : World} (h : K3 w ba ma bw mw bv mv t9 t10 t11 t12 kA5 kW2 kW2 W) :
    Calls Try.prog 18 #[.pointer (some ⟨bw, 0, none⟩), .int .i64 1, .int .i64 3, .slice (some ⟨W.heap.size, 0, none⟩) 2 2] (W.alloc (.cells #[.int .i64 1, .int .i64 9, .int .i64 2, .int .i64 9] 48)) fun e W' => e = .returned (.bool true) ∧ K3 w ba ma bw mw bv mv t9 t10 t11 t12 kA5 kW3 kW2 W' := by
  have h2 := h.later (below_alloc W (.cells #[.int .i64 1, .int .i64 9, .int .i64 2, .int .i64 9] 48))
  refine (picks_yes bw mw kW2 _ h2.b okW2 _ lW (lds_two W 1 9 2 9) rngW (by decide) aW2 anyW 1 3 qW2 nW2).mono ?_
  rintro e W' ⟨rfl, hA, hC⟩
  exact ⟨rfl, h2.pickB hA hC⟩
theorem stW3 {w : World} {ba ma bw mw bv mv t9 t10 t11 t12 : Nat} {W : World} (h : K3 w ba ma bw mw bv mv t9 t10 t11 t12 kA5 kW3 kW2 W) :
    Calls Try.prog 18 #[.pointer (some ⟨bw, 0, none⟩), .int .i64 2, .int .i64 1, .slice (some ⟨W.heap.size, 0, none⟩) 2 2] (W.alloc (.cells #[.int .i64 1, .int .i64 9, .int .i64 2, .int .i64 9] 48)) fun e W' => e = .returned (.bool true) ∧ K3 w ba ma bw mw bv mv t9 t10 t11 t12 kA5 kW4 kW2 W' := by
  have h2 := h.later (below_alloc W (.cells #[.int .i64 1, .int .i64 9, .int .i64 2, .int .i64 9] 48))
  refine (picks_yes bw mw kW3 _ h2.b okW3 _ lW (lds_two W 1 9 2 9) rngW (by decide) aW3 anyW 2 1 qW3 nW3).mono ?_
  rintro e W' ⟨rfl, hA, hC⟩
  exact ⟨rfl, h2.pickB hA hC⟩
theorem stW4 {w : World} {ba ma bw mw bv mv t9 t10 t11 t12 : Nat} {W : World} (h : K3 w ba ma bw mw bv mv t9 t10 t11 t12 kA5 kW4 kW2 W) :
    Calls Try.prog 18 #[.pointer (some ⟨bw, 0, none⟩), .int .i64 1, .int .i64 3, .slice (some ⟨W.heap.size, 0, none⟩) 2 2] (W.alloc (.cells #[.int .i64 1, .int .i64 9, .int .i64 2, .int .i64 9] 48)) fun e W' => e = .returned (.bool true) ∧ K3 w ba ma bw mw bv mv t9 t10 t11 t12 kA5 kW5 kW2 W' := by
  have h2 := h.later (below_alloc W (.cells #[.int .i64 1, .int .i64 9, .int .i64 2, .int .i64 9] 48))
  refine (picks_yes bw mw kW4 _ h2.b okW4 _ lW (lds_two W 1 9 2 9) rngW (by decide) aW4 anyW 1 3 qW4 nW4).mono ?_
  rintro e W' ⟨rfl, hA, hC⟩
  exact ⟨rfl, h2.pickB hA hC⟩
theorem stW5 {w : World} {ba ma bw mw bv mv t9 t10 t11 t12 : Nat} {W : World} (h : K3 w ba ma bw mw bv mv t9 t10 t11 t12 kA5 kW5 kW2 W) :
    Calls Try.prog 18 #[.pointer (some ⟨bw, 0, none⟩), .int .i64 2, .int .i64 1, .slice (some ⟨W.heap.size, 0, none⟩) 2 2] (W.alloc (.cells #[.int .i64 1, .int .i64 9, .int .i64 2, .int .i64 9] 48)) fun e W' => e = .returned (.bool true) ∧ K3 w ba ma bw mw bv mv t9 t10 t11 t12 kA5 kW6 kW2 W' := by
  have h2 := h.later (below_alloc W (.cells #[.int .i64 1, .int .i64 9, .int .i64 2, .int .i64 9] 48))
  refine (picks_yes bw mw kW5 _ h2.b okW5 _ lW (lds_two W 1 9 2 9) rngW (by decide) aW5 anyW 2 1 qW5 nW5).mono ?_
  rintro e W' ⟨rfl, hA, hC⟩
  exact ⟨rfl, h2.pickB hA hC⟩
theorem stV2 {w : World} {ba ma bw mw bv mv t9 t10 t11 t12 : Nat} {W : World} (h : K3 w ba ma bw mw bv mv t9 t10 t11 t12 kA5 kW6 kW2 W) :
    Calls Try.prog 18 #[.pointer (some ⟨bv, 0, none⟩), .int .i64 1, .int .i64 2, .slice (some ⟨W.heap.size, 0, none⟩) 2 2] (W.alloc (.cells #[.int .i64 1, .int .i64 2, .int .i64 2, .int .i64 9] 48)) fun e W' => e = .returned (.bool true) ∧ K3 w ba ma bw mw bv mv t9 t10 t11 t12 kA5 kW6 kV3 W' := by
  have h2 := h.later (below_alloc W (.cells #[.int .i64 1, .int .i64 2, .int .i64 2, .int .i64 9] 48))
  refine (picks_yes bv mv kW2 _ h2.c okW2 _ lV (lds_two W 1 2 2 9) rngV (by decide) aV2 anyV 1 2 qV2 nV2).mono ?_
  rintro e W' ⟨rfl, hA, hC⟩
  exact ⟨rfl, h2.pickC hA hC⟩
theorem stV3 {w : World} {ba ma bw mw bv mv t9 t10 t11 t12 : Nat} {W : World} (h : K3 w ba ma bw mw bv mv t9 t10 t11 t12 kA5 kW6 kV3 W) :
    Calls Try.prog 18 #[.pointer (some ⟨bv, 0, none⟩), .int .i64 1, .int .i64 1, .slice (some ⟨W.heap.size, 0, none⟩) 2 2] (W.alloc (.cells #[.int .i64 1, .int .i64 2, .int .i64 2, .int .i64 9] 48)) fun e W' => e = .returned (.bool true) ∧ K3 w ba ma bw mw bv mv t9 t10 t11 t12 kA5 kW6 kV4 W' := by
  have h2 := h.later (below_alloc W (.cells #[.int .i64 1, .int .i64 2, .int .i64 2, .int .i64 9] 48))
  refine (picks_yes bv mv kV3 _ h2.c okV3 _ lV (lds_two W 1 2 2 9) rngV (by decide) aV3 anyV 1 1 qV3 nV3).mono ?_
  rintro e W' ⟨rfl, hA, hC⟩
  exact ⟨rfl, h2.pickC hA hC⟩
theorem stV4 {w : World} {ba ma bw mw bv mv t9 t10 t11 t12 : Nat} {W : World} (h : K3 w ba ma bw mw bv mv t9 t10 t11 t12 kA5 kW6 kV4 W) :
    Calls Try.prog 18 #[.pointer (some ⟨bv, 0, none⟩), .int .i64 2, .int .i64 1, .slice (some ⟨W.heap.size, 0, none⟩) 2 2] (W.alloc (.cells #[.int .i64 1, .int .i64 2, .int .i64 2, .int .i64 9] 48)) fun e W' => e = .returned (.bool true) ∧ K3 w ba ma bw mw bv mv t9 t10 t11 t12 kA5 kW6 kV5 W' := by
  have h2 := h.later (below_alloc W (.cells #[.int .i64 1, .int .i64 2, .int .i64 2, .int .i64 9] 48))
  refine (picks_yes bv mv kV4 _ h2.c okV4 _ lV (lds_two W 1 2 2 9) rngV (by decide) aV4 anyV 2 1 qV4 nV4).mono ?_
  rintro e W' ⟨rfl, hA, hC⟩
  exact ⟨rfl, h2.pickC hA hC⟩
end Go.Proofs.Ytildofclgofjdaa
