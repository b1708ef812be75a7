/- The contracts of program and Program. Conditions stand in each theorem. -/
import Derived.Test.YtddejcoagcaidaaL
import Derived.Laws.EntriesVeiled
namespace Go.Proofs.Ytddejcoagcaidaa
open Go.RowKit
set_option linter.unusedVariables false
set_option maxHeartbeats 2000000
set_option maxRecDepth 100000
theorem Gd.ctl {s : Dev} (h : Gd s) {po pb n : Int} {off : Bool} (hb : 0 ≤ pb ∧ pb ≤ s.sz + 64) (hn : 0 ≤ n) : Gd (s.ctl po pb n off) := ⟨h.nb, h.np, h.sz, h.en, h.er, h.pg, hb, hn, h.ln⟩
theorem Gd.go {s : Dev} (h : Gd s) : Gd s.go := h.ctl h.pb (by have := h.n; omega)
theorem Gd.cut {s : Dev} (h : Gd s) : Gd s.cut := h.ctl h.pb (by have := h.n; omega)
/-- The world in which execute is called by program. -/
def PW (w : World) (g i : Nat) (vd vs : Value) : World := (((w.alloc (.cells #[.pointer (some ⟨g, i * 2, none⟩)] 103)).alloc (.cells #[vd] 41)).alloc (.cells #[vs] 41)).alloc (.cells #[.func (.func 71) #[] #[.pointer (some ⟨w.heap.size, 0, none⟩)]] 117)
theorem pw_below (w : World) (g i : Nat) (vd vs : Value) : Below w.heap.size w (PW w g i vd vs) := by
  unfold PW
  exact (((below_alloc w _).alloc (by simp) _).alloc (by simp; omega) _).alloc (by simp; omega) _
theorem pw_size (w : World) (g i : Nat) (vd vs : Value) : (PW w g i vd vs).heap.size = w.heap.size + 1 + 1 + 1 + 1 := by
  unfold PW
  simp
theorem pw_bx {w : World} (g i : Nat) {vd vs : Value} {x y : List UInt8} (hd : Byt w vd x) (hs : Byt w vs y) : Bx (PW w g i vd vs) g i w.heap.size (w.heap.size + 1 + 1 + 1) (w.heap.size + 1) (w.heap.size + 1 + 1) vd vs x y := by
  have k1 := heap_alloc_new w (.cells #[.pointer (some ⟨g, i * 2, none⟩)] 103)
  have z1 : (w.alloc (.cells #[.pointer (some ⟨g, i * 2, none⟩)] 103)).heap.size = w.heap.size + 1 := World.size_alloc _ _
  have b0 := pw_below w g i vd vs
  unfold PW at *
  generalize w.alloc (.cells #[.pointer (some ⟨g, i * 2, none⟩)] 103) = W1 at *
  have k2 := heap_alloc_new W1 (.cells #[vd] 41)
  have z2 : (W1.alloc (.cells #[vd] 41)).heap.size = W1.heap.size + 1 := World.size_alloc _ _
  have b1 := below_alloc W1 (.cells #[vd] 41)
  generalize W1.alloc (.cells #[vd] 41) = W2 at *
  have k3 := heap_alloc_new W2 (.cells #[vs] 41)
  have z3 : (W2.alloc (.cells #[vs] 41)).heap.size = W2.heap.size + 1 := World.size_alloc _ _
  have b2 := below_alloc W2 (.cells #[vs] 41)
  generalize W2.alloc (.cells #[vs] 41) = W3 at *
  have k4 := heap_alloc_new W3 (.cells #[.func (.func 71) #[] #[.pointer (some ⟨w.heap.size, 0, none⟩)]] 117)
  have b3 := below_alloc W3 (.cells #[.func (.func 71) #[] #[.pointer (some ⟨w.heap.size, 0, none⟩)]] 117)
  generalize W3.alloc (.cells #[.func (.func 71) #[] #[.pointer (some ⟨w.heap.size, 0, none⟩)]] 117) = W4 at *
  have e3 : W3.heap.size = w.heap.size + 1 + 1 + 1 := by omega
  have e2 : W2.heap.size = w.heap.size + 1 + 1 := by omega
  refine ⟨?_, by rw [← e3]; exact k4, ?_, ?_, hd.below b0, hs.below b0⟩
  · exact (b3.block _ (by omega)).trans ((b2.block _ (by omega)).trans ((b1.block _ (by omega)).trans k1))
  · rw [← z1]
    exact (b3.block _ (by omega)).trans ((b2.block _ (by omega)).trans k2)
  · rw [← e2]
    exact (b3.block _ (by omega)).trans k3
theorem Bx.chg {w W : World} {b g i q q1 q2 q3 : Nat} {vd vs : Value} {x y : List UInt8} (h : Bx w g i q q1 q2 q3 vd vs x y) (hW : Chg (· = b) w W) (n0 : q ≠ b) (n1 : q1 ≠ b) (n2 : q2 ≠ b) (n3 : q3 ≠ b) (od : Off (· = b) vd x) (os : Off (· = b) vs y) : Bx W g i q q1 q2 q3 vd vs x y := by
  have e : ∀ {k : Nat} {o : Obj}, k ≠ b → w.heap[k]? = some o → W.heap[k]? = some o := fun {k o} hn hk => (hW.block k (Array.getElem?_eq_some_iff.1 hk).1 hn).trans hk
  exact ⟨e n0 h.bq, e n1 h.b1, e n2 h.b2, e n3 h.b3, h.bd.chg hW od, h.bs.chg hW os⟩
/-- The contents that programming gives a block: torn, failed, programmed. -/
def Dev.pT (s : Dev) (i : Nat) (x y : List UInt8) : Bk := ⟨(s.bk i).er, (s.bk i).pg ++ [wr x y s.pb.toNat]⟩
def Dev.pF (s : Dev) (i : Nat) : Bk := ⟨(s.bk i).er, (s.bk i).pg ++ [⟨4, [], []⟩]⟩
def Dev.pS (s : Dev) (i : Nat) (x y : List UInt8) : Bk := ⟨(s.bk i).er, (s.bk i).pg ++ [wr x y (x.length + y.length)]⟩
theorem exec_program {w : World} {base b g m : Nat} {V : Nat → Value} {s : Dev} (h : Dv w base b g m V s) (hG : Gd s) (hn : s.n ≤ 1000000000) {i : Nat} (hi : i < s.nb) {vd vs : Value} {x y : List UInt8} (hd : Byt w vd x) (hs : Byt w vs y) (od : Off (· = b) vd x) (os : Off (· = b) vs y)
    (hx : x.length ≤ 100000) (hy : y.length ≤ 100000) (h00 : 0 < (x ++ y).length) :
    Calls Try.prog 68 #[.pointer (some ⟨b, 0, none⟩), .int .i64 54, .func (.func 72) #[] #[.pointer (some ⟨w.heap.size + 1 + 1 + 1, 0, none⟩), .pointer (some ⟨w.heap.size + 1, 0, none⟩), .pointer (some ⟨w.heap.size + 1 + 1, 0, none⟩)], .func (.func 74) #[] #[.pointer (some ⟨w.heap.size + 1 + 1 + 1, 0, none⟩)],
      .func (.func 75) #[] #[.pointer (some ⟨w.heap.size + 1 + 1 + 1, 0, none⟩), .pointer (some ⟨w.heap.size + 1, 0, none⟩), .pointer (some ⟨w.heap.size + 1 + 1, 0, none⟩)]] (PW w g i vd vs) (ExPost w base b g m V s (s.exS i (s.pT i x y) (s.pF i) (s.pS i x y)) (s.exE 54)) := by
  have hb := pw_below w g i vd vs
  have hB := pw_bx g i hd hs
  have h4 := h.below hb
  have hl := h.lt
  have hpb : (s.pb.toNat : Int) = s.pb := Int.toNat_of_nonneg hG.pb.1
  have hBW : ∀ W, Chg (· = b) (PW w g i vd vs) W → Bx W g i w.heap.size (w.heap.size + 1 + 1 + 1) (w.heap.size + 1) (w.heap.size + 1 + 1) vd vs x y := fun W hc => hB.chg hc (by omega) (by omega) (by omega) (by omega) od os
  refine (exec_prog h4 hG hn (i := i) 54 (w.heap.size + 1 + 1 + 1) (w.heap.size + 1) (w.heap.size + 1 + 1) (s.pT i x y) (s.pF i) (s.pS i x y) (fun W hD hC => ?_) (fun W hD hC => ?_) (fun W hD hC => ?_)).mono fun e w' ⟨e1, e2⟩ => ⟨e1, e2.of_below hb⟩
  · have := prog2_any hD hG.cut hi (hBW W hC) hx hy h00 s.pb.toNat
    rw [hpb] at this
    exact this
  · exact prog3_any hD hG.go hi (hBW W hC)
  · exact prog4_any hD hG.go hi (hBW W hC) hx hy h00
theorem program_any {w : World} {base b g m : Nat} {V : Nat → Value} {s : Dev} (h : Dv w base b g m V s) (hG : Gd s) (hn : s.n ≤ 1000000000) {i : Nat} (hi : i < s.nb) {vd vs : Value} {x y : List UInt8} (hd : Byt w vd x) (hs : Byt w vs y) (od : Off (· = b) vd x) (os : Off (· = b) vs y)
    (hx : x.length ≤ 100000) (hy : y.length ≤ 100000) (h00 : 0 < (x ++ y).length) :
    Calls Try.prog 56 #[.pointer (some ⟨b, 0, none⟩), .pointer (some ⟨g, i * 2, none⟩), vd, vs] w (ExPost w base b g m V s (s.exS i (s.pT i x y) (s.pF i) (s.pS i x y)) (s.exE 54)) := by
  have HE := Lib.hid (exec_program h hG hn hi hd hs od os hx hy h00)
  unfold PW at HE
  obtain ⟨A0, k0, e0, _⟩ := hd
  obtain ⟨A1, k1, e1, _⟩ := hs
  subst e0
  subst e1
  clear od os h hG hx hy h00 hn
  generalize s.exS i (s.pT i x y) (s.pF i) (s.pS i x y) = S1 at *
  generalize s.exE 54 = E1 at *
  go_enter Try.func56, Try.ntmps56
  go_wp2_with ((go_at_call 68; with_reducible refine HE.out.mono ?_); rintro e w5 ⟨rfl, hst⟩; have HST := Lib.hid hst; clear hst)
  go_ret
  exact ⟨rfl, HST.out⟩
end Go.Proofs.Ytddejcoagcaidaa
