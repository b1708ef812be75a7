/- The contract of divide at each closure of writeLists. Conditions stand in each theorem. -/
import Derived.Test.YtngaifokkkmmcaaBC
namespace Go.Proofs.Ytngaifokkkmmcaa
open Go.RowKit
set_option linter.unusedVariables false
set_option maxHeartbeats 4000000
set_option maxRecDepth 100000
/-- The length of a slice value. -/
def slLen : Value → Nat | .slice _ n _ => n | _ => 0
/-- What a put is asked that returns; that raises an error; either. -/
def PutY (C : FuncId) (q : Nat) (at' : Nat) (ys : List Nat) (S T : World → Prop) : Prop :=
  ∀ W v, S W → U64s W v ys → Calls Try.prog C #[.int .u64 (at' : Int), v, .pointer (some ⟨q, 0, none⟩)] W fun e W' => e = .returned (.tuple #[]) ∧ T W'
def PutN (C : FuncId) (q : Nat) (at' : Nat) (ys : List Nat) (S : World → Prop) (X : List PanicEntry → World → Prop) : Prop :=
  ∀ W v, S W → U64s W v ys → Calls Try.prog C #[.int .u64 (at' : Int), v, .pointer (some ⟨q, 0, none⟩)] W fun e W' => ∃ c, e = .panicked c ∧ X c W'
def PutC (C : FuncId) (q : Nat) (at' : Nat) (ys : List Nat) (S T : World → Prop) (X : List PanicEntry → World → Prop) : Prop :=
  ∀ W v, S W → U64s W v ys → Calls Try.prog C #[.int .u64 (at' : Int), v, .pointer (some ⟨q, 0, none⟩)] W fun e W' => (e = .returned (.tuple #[]) ∧ T W') ∨ (∃ c, e = .panicked c ∧ X c W')
def DvP (T : World → Prop) (X : List PanicEntry → World → Prop) (e : Ending) (W' : World) : Prop := (e = .returned (.tuple #[]) ∧ T W') ∨ (∃ c, e = .panicked c ∧ X c W')
section
attribute [local go_sem ↓ 100000] builtin_appX
theorem divA_68 (vl va : Value) (l0 : Nat) (xs : List Nat) (q : Nat) (S T : World → Prop) (X : List PanicEntry → World → Prop) (w : World) (h0 : S w) (hvl : U64s w vl [l0]) (hva : U64s w va xs)
    (HP : PutC 68 q l0 xs S T X) : Calls Try.prog 67 #[vl, va, .func (.func 68) #[] #[.pointer (some ⟨q, 0, none⟩)]] w (DvP T X) := by
  have hp := HP w va h0 hva
  obtain ⟨A, c, rfl, hc, hx, hr⟩ := hvl
  obtain ⟨g, o, rfl, hg, hcell⟩ := hr (by simp)
  have c0 := hcell 0 (by simp)
  rw [Nat.add_zero] at c0
  have c0' : w.cell? ⟨g, o, none⟩ = some (.int .u64 (l0 : Int)) := c0
  obtain ⟨A2, c2, rfl, -⟩ := hva
  have HPP := Lib.hid hp
  have hl1 : ([l0] : List Nat).length = 1 := rfl
  rw [hl1]
  clear hp HP hx hr hcell h0 c0
  go_enter Try.func67, Try.ntmps67
  go_wp2
  go_loopw [0, 1] (fun v u wr => v = .slice (some ⟨g, o, none⟩) 1 c ∧ u = .slice A2 xs.length c2 ∧ wr = w) (fun _ _ _ => 1)
  case atStart => exact ⟨rfl, rfl, rfl⟩
  case round =>
    obtain ⟨rfl, rfl, rfl⟩ := hrel
    go_wp2_with fail
    with_reducible refine HPP.out.mono ?_
    rintro e w1 (⟨rfl, ht⟩ | ⟨c, rfl, hx⟩)
    · go_wp2
      go_end0
      exact .inl ⟨rfl, ht⟩
    · exact ⟨rfl, .inr ⟨c, rfl, hx⟩⟩
theorem divB_68 (vl va : Value) (l0 l1 : Nat) (xs : List Nat) (q : Nat) (S T U : World → Prop) (X : List PanicEntry → World → Prop) (w : World) (h0 : S w) (hvl : ∀ W, (S W ∨ T W) → U64s W vl [l0, l1]) (hva : ∀ W, (S W ∨ T W) → U64s W va xs)
    (hS : ∀ W W', S W → Below W.heap.size W W' → S W') (hT : ∀ W W', T W → Below W.heap.size W W' → T W') (hn : rm l0 - 1 ≤ xs.length) (hm : xs.length ≤ 1000)
    (HP : PutY 68 q l0 (xs.take (rm l0 - 1) ++ [l1]) S T) (HP2 : PutC 68 q l1 (xs.drop (rm l0 - 1)) T U X) : Calls Try.prog 67 #[vl, va, .func (.func 68) #[] #[.pointer (some ⟨q, 0, none⟩)]] w (DvP U X) := by
  obtain ⟨n, hne⟩ : ∃ n, n = rm l0 - 1 := ⟨_, rfl⟩
  rw [← hne] at hn HP HP2
  have hvl0 := hvl w (.inl h0)
  have hva0 := hva w (.inl h0)
  have hl0 := hvl0.lt (j := 0) (by simp)
  have hl1 := hvl0.lt (j := 1) (by simp)
  simp only [List.getElem_cons_zero, List.getElem_cons_succ] at hl0 hl1
  obtain ⟨A2, hcut, hcutU⟩ := cut64 hva0 n hn (by omega)
  obtain ⟨va2, hdr, hdrU, ⟨A3, c3, rfl⟩, -⟩ := drop64 hva0 n hn (by omega)
  obtain ⟨vl2, hdl, hdlU, ⟨A4, c4, rfl⟩, -⟩ := drop64 hvl0 1 (by simp) (by simp)
  have HR := Lib.hid (fun W => room_any l0 W hl0)
  have e1 : wrap64 ((rm l0 : Int) - 1) = (n : Int) := by have := rm_le l0; unfold wrap64; omega
  have e1' : IntKind.i64.wrap ((rm l0 : Int) - 1) = (n : Int) := by have := rm_le l0; rw [IntKind.wrap_i64]; omega
  have hln : ([l0, l1] : List Nat).length - 1 = 1 := rfl
  rw [hln] at hdl hdlU
  have HC0 : Hid (∀ W, S W ∨ T W → ∃ g o c, vl = .slice (some ⟨g, o, none⟩) 2 c ∧ W.cell? ⟨g, o, none⟩ = some (.int .u64 (l0 : Int)) ∧ W.cell? ⟨g, o + 1, none⟩ = some (.int .u64 (l1 : Int))) := Lib.hid fun W hW => by
    obtain ⟨A, c, e, hc, hx, hr⟩ := hvl W hW
    obtain ⟨g, o, rfl, hg, hcell⟩ := hr (by simp)
    have c0 := hcell 0 (by simp)
    have c1 := hcell 1 (by simp)
    rw [Nat.add_zero] at c0
    exact ⟨g, o, c, e, c0, c1⟩
  obtain ⟨g, o, c, rfl, -, -⟩ := HC0.out w (.inl h0)
  have HC : Hid (∀ W, S W ∨ T W → W.cell? ⟨g, o, none⟩ = some (.int .u64 (l0 : Int)) ∧ W.cell? ⟨g, o + 1, none⟩ = some (.int .u64 (l1 : Int))) := Lib.hid fun W hW => by
    obtain ⟨g2, o2, c2, e, k1, k2⟩ := HC0.out W hW
    simp only [Value.slice.injEq, Option.some.injEq, Addr.mk.injEq] at e
    obtain ⟨⟨rfl, rfl, -⟩, -, rfl⟩ := e
    exact ⟨k1, k2⟩
  obtain ⟨g4, o4, rfl⟩ : ∃ g4 o4, A4 = some ⟨g4, o4, none⟩ := by
    obtain ⟨A5, c5, e, -, -, hr5⟩ := hdlU w hvl0
    simp only [Value.slice.injEq] at e
    obtain ⟨rfl, -, rfl⟩ := e
    obtain ⟨g', o', e', -⟩ := hr5 (by simp)
    exact ⟨g', o', e'⟩
  have HU2 : Hid (∀ W, T W → W.cell? ⟨g4, o4, none⟩ = some (.int .u64 (l1 : Int)) ∧ U64s W (.slice A3 (xs.length - n) c3) (xs.drop n)) := Lib.hid fun W hW => by
    refine ⟨?_, hdrU W (hva W (.inr hW))⟩
    obtain ⟨A5, c5, e, -, -, hr5⟩ := hdlU W (hvl W (.inr hW))
    simp only [Value.slice.injEq] at e
    obtain ⟨rfl, -, rfl⟩ := e
    obtain ⟨g', o', e', -, hc'⟩ := hr5 (by simp)
    simp only [Option.some.injEq, Addr.mk.injEq] at e'
    obtain ⟨rfl, rfl, -⟩ := e'
    have := hc' 0 (by simp)
    rw [Nat.add_zero] at this
    exact this
  have hbd : Below w.heap.size w w.drew := (Below.refl _ _).drew
  have hbX : Below w.heap.size w (w.alloc (.cells #[.int .u64 (l1 : Int)] 23)).drew := (below_alloc w _).drew
  have hlt : (xs.take n).length = n := by simp; omega
  have hcu := hcutU _ (hva0.below hbX)
  obtain ⟨v', W', hap, hv', hbA, -⟩ := app64 (W := (w.alloc (.cells #[.int .u64 (l1 : Int)] 23)).drew) (A := A2) (xs := xs.take n) (y := l1) (q := w.heap.size) (by rw [hlt]; exact hcu) (box_cell w _ 23) hl1 (by rw [hlt]; omega)
  rw [hlt] at hap
  have hrun := appX_run hap
  have hb' : Below w.heap.size w W' := hbX.trans (hbA.mono hbX.size)
  have HPP := Lib.hid (HP W' v' (hS _ _ h0 hb') hv')
  obtain ⟨cA, cB⟩ := HC.out w (.inl h0)
  have hgl := World.block_lt_of_cell? w _ cA
  have hdl1 : ∀ W : World, (Instr.slice 44 (.slice (some ⟨g, o, none⟩) 2 c) (some (.int .i64 1)) none none).run Try.prog W = .ok (.slice (some ⟨g4, o4, none⟩) 1 c4) W := hdl
  have kA := fun (o' : Obj) => (Below.cell (p := ⟨g, o, none⟩) ((below_alloc w o').drew) hgl).trans cA
  have kB := fun (o' : Obj) => (Below.cell (p := ⟨g, o + 1, none⟩) ((below_alloc w o').drew) hgl).trans cB
  have jA := (Below.cell (p := ⟨g, o, none⟩) hb' hgl).trans cA
  have jB := (Below.cell (p := ⟨g, o + 1, none⟩) hb' hgl).trans cB
  have HT2 : Hid (∀ w1, T w1 → w1.cell? ⟨g, o, none⟩ = some (.int .u64 (l0 : Int)) ∧ w1.cell? ⟨g, o + 1, none⟩ = some (.int .u64 (l1 : Int))) := Lib.hid fun w1 ht => HC.out w1 (.inr ht)
  have hni : (n : Int) ≤ 1000 := by omega
  obtain ⟨A9, c9, hva9⟩ : ∃ A c, va = .slice A xs.length c := by obtain ⟨A, c, e, -⟩ := hva0; exact ⟨A, c, e⟩
  subst hva9
  have HP2H := Lib.hid HP2
  have HTD := Lib.hid hT
  have hXn : xs.length - n ≤ 1000 := by omega
  clear hS hT hne hvl hva hvl0 hva0 hcutU hdrU hdlU hap hv' hbA hcu hbX hbd hlt HP HP2 hl0 hl1 hm hn h0 hb' HC0 HC
  go_enter Try.func67, Try.ntmps67
  go_wp2
  go_loopw [0, 1] (fun v u wr => (v = .slice (some ⟨g, o, none⟩) 2 c ∧ u = .slice A9 xs.length c9 ∧ wr = w) ∨ (v = .slice (some ⟨g4, o4, none⟩) 1 c4 ∧ u = .slice A3 (xs.length - n) c3 ∧ Hid (T wr))) (fun v _ _ => slLen v)
  case atStart => exact .inl ⟨rfl, rfl, rfl⟩
  case round =>
    rcases hrel with ⟨rfl, rfl, rfl⟩ | ⟨rfl, rfl, HTr⟩
    · go_wp2_with ((go_at_call 54; with_reducible refine (HR.out _).mono ?_); rintro e w' ⟨rfl, rfl⟩)
      go_region_held3 (fun w' => w'.cell? ⟨g, o, none⟩ = some (.int .u64 (l0 : Int)) ∧ w'.cell? ⟨g, o + 1, none⟩ = some (.int .u64 (l1 : Int))) (first | (refine ⟨?_, ?_⟩ <;> assumption) | (refine ⟨?_, ?_⟩ <;> first | exact kA _ | exact kB _)) (first
        | ((go_at_call 68; with_reducible refine HPP.out.mono ?_); rintro e w1 ⟨rfl, ht⟩; have HT1 := Lib.hid ht; obtain ⟨m0, m1⟩ := HT2.out w1 ht; clear ht))
      clear kA kB hrun
      go_wp2
      go_region
      go_wp2
      go_roundw
      case rel => exact .inr ⟨rfl, rfl, Lib.hid (HTD.out _ _ HT1.out (Below.refl _ _).drew)⟩
      case measure => simp [slLen]
    · obtain ⟨n0, n1⟩ := HU2.out wr HTr.out
      have HPQ := Lib.hid (HP2H.out wr _ HTr.out n1)
      clear kA kB hrun jA jB n1 hdl hdl1 hdr hcut
      go_wp2_with fail
      with_reducible refine HPQ.out.mono ?_
      rintro e w1 (⟨rfl, ht⟩ | ⟨c, rfl, hx⟩)
      · go_wp2
        go_end0
        exact .inl ⟨rfl, ht⟩
      · exact ⟨rfl, .inr ⟨c, rfl, hx⟩⟩
theorem divA_69 (vl va : Value) (l0 : Nat) (xs : List Nat) (q : Nat) (S T : World → Prop) (X : List PanicEntry → World → Prop) (w : World) (h0 : S w) (hvl : U64s w vl [l0]) (hva : U64s w va xs)
    (HP : PutC 69 q l0 xs S T X) : Calls Try.prog 67 #[vl, va, .func (.func 69) #[] #[.pointer (some ⟨q, 0, none⟩)]] w (DvP T X) := by
  have hp := HP w va h0 hva
  obtain ⟨A, c, rfl, hc, hx, hr⟩ := hvl
  obtain ⟨g, o, rfl, hg, hcell⟩ := hr (by simp)
  have c0 := hcell 0 (by simp)
  rw [Nat.add_zero] at c0
  have c0' : w.cell? ⟨g, o, none⟩ = some (.int .u64 (l0 : Int)) := c0
  obtain ⟨A2, c2, rfl, -⟩ := hva
  have HPP := Lib.hid hp
  have hl1 : ([l0] : List Nat).length = 1 := rfl
  rw [hl1]
  clear hp HP hx hr hcell h0 c0
  go_enter Try.func67, Try.ntmps67
  go_wp2
  go_loopw [0, 1] (fun v u wr => v = .slice (some ⟨g, o, none⟩) 1 c ∧ u = .slice A2 xs.length c2 ∧ wr = w) (fun _ _ _ => 1)
  case atStart => exact ⟨rfl, rfl, rfl⟩
  case round =>
    obtain ⟨rfl, rfl, rfl⟩ := hrel
    go_wp2_with fail
    with_reducible refine HPP.out.mono ?_
    rintro e w1 (⟨rfl, ht⟩ | ⟨c, rfl, hx⟩)
    · go_wp2
      go_end0
      exact .inl ⟨rfl, ht⟩
    · exact ⟨rfl, .inr ⟨c, rfl, hx⟩⟩
theorem divB_69 (vl va : Value) (l0 l1 : Nat) (xs : List Nat) (q : Nat) (S T U : World → Prop) (X : List PanicEntry → World → Prop) (w : World) (h0 : S w) (hvl : ∀ W, (S W ∨ T W) → U64s W vl [l0, l1]) (hva : ∀ W, (S W ∨ T W) → U64s W va xs)
    (hS : ∀ W W', S W → Below W.heap.size W W' → S W') (hT : ∀ W W', T W → Below W.heap.size W W' → T W') (hn : rm l0 - 1 ≤ xs.length) (hm : xs.length ≤ 1000)
    (HP : PutY 69 q l0 (xs.take (rm l0 - 1) ++ [l1]) S T) (HP2 : PutC 69 q l1 (xs.drop (rm l0 - 1)) T U X) : Calls Try.prog 67 #[vl, va, .func (.func 69) #[] #[.pointer (some ⟨q, 0, none⟩)]] w (DvP U X) := by
  obtain ⟨n, hne⟩ : ∃ n, n = rm l0 - 1 := ⟨_, rfl⟩
  rw [← hne] at hn HP HP2
  have hvl0 := hvl w (.inl h0)
  have hva0 := hva w (.inl h0)
  have hl0 := hvl0.lt (j := 0) (by simp)
  have hl1 := hvl0.lt (j := 1) (by simp)
  simp only [List.getElem_cons_zero, List.getElem_cons_succ] at hl0 hl1
  obtain ⟨A2, hcut, hcutU⟩ := cut64 hva0 n hn (by omega)
  obtain ⟨va2, hdr, hdrU, ⟨A3, c3, rfl⟩, -⟩ := drop64 hva0 n hn (by omega)
  obtain ⟨vl2, hdl, hdlU, ⟨A4, c4, rfl⟩, -⟩ := drop64 hvl0 1 (by simp) (by simp)
  have HR := Lib.hid (fun W => room_any l0 W hl0)
  have e1 : wrap64 ((rm l0 : Int) - 1) = (n : Int) := by have := rm_le l0; unfold wrap64; omega
  have e1' : IntKind.i64.wrap ((rm l0 : Int) - 1) = (n : Int) := by have := rm_le l0; rw [IntKind.wrap_i64]; omega
  have hln : ([l0, l1] : List Nat).length - 1 = 1 := rfl
  rw [hln] at hdl hdlU
  have HC0 : Hid (∀ W, S W ∨ T W → ∃ g o c, vl = .slice (some ⟨g, o, none⟩) 2 c ∧ W.cell? ⟨g, o, none⟩ = some (.int .u64 (l0 : Int)) ∧ W.cell? ⟨g, o + 1, none⟩ = some (.int .u64 (l1 : Int))) := Lib.hid fun W hW => by
    obtain ⟨A, c, e, hc, hx, hr⟩ := hvl W hW
    obtain ⟨g, o, rfl, hg, hcell⟩ := hr (by simp)
    have c0 := hcell 0 (by simp)
    have c1 := hcell 1 (by simp)
    rw [Nat.add_zero] at c0
    exact ⟨g, o, c, e, c0, c1⟩
  obtain ⟨g, o, c, rfl, -, -⟩ := HC0.out w (.inl h0)
  have HC : Hid (∀ W, S W ∨ T W → W.cell? ⟨g, o, none⟩ = some (.int .u64 (l0 : Int)) ∧ W.cell? ⟨g, o + 1, none⟩ = some (.int .u64 (l1 : Int))) := Lib.hid fun W hW => by
    obtain ⟨g2, o2, c2, e, k1, k2⟩ := HC0.out W hW
    simp only [Value.slice.injEq, Option.some.injEq, Addr.mk.injEq] at e
    obtain ⟨⟨rfl, rfl, -⟩, -, rfl⟩ := e
    exact ⟨k1, k2⟩
  obtain ⟨g4, o4, rfl⟩ : ∃ g4 o4, A4 = some ⟨g4, o4, none⟩ := by
    obtain ⟨A5, c5, e, -, -, hr5⟩ := hdlU w hvl0
    simp only [Value.slice.injEq] at e
    obtain ⟨rfl, -, rfl⟩ := e
    obtain ⟨g', o', e', -⟩ := hr5 (by simp)
    exact ⟨g', o', e'⟩
  have HU2 : Hid (∀ W, T W → W.cell? ⟨g4, o4, none⟩ = some (.int .u64 (l1 : Int)) ∧ U64s W (.slice A3 (xs.length - n) c3) (xs.drop n)) := Lib.hid fun W hW => by
    refine ⟨?_, hdrU W (hva W (.inr hW))⟩
    obtain ⟨A5, c5, e, -, -, hr5⟩ := hdlU W (hvl W (.inr hW))
    simp only [Value.slice.injEq] at e
    obtain ⟨rfl, -, rfl⟩ := e
    obtain ⟨g', o', e', -, hc'⟩ := hr5 (by simp)
    simp only [Option.some.injEq, Addr.mk.injEq] at e'
    obtain ⟨rfl, rfl, -⟩ := e'
    have := hc' 0 (by simp)
    rw [Nat.add_zero] at this
    exact this
  have hbd : Below w.heap.size w w.drew := (Below.refl _ _).drew
  have hbX : Below w.heap.size w (w.alloc (.cells #[.int .u64 (l1 : Int)] 23)).drew := (below_alloc w _).drew
  have hlt : (xs.take n).length = n := by simp; omega
  have hcu := hcutU _ (hva0.below hbX)
  obtain ⟨v', W', hap, hv', hbA, -⟩ := app64 (W := (w.alloc (.cells #[.int .u64 (l1 : Int)] 23)).drew) (A := A2) (xs := xs.take n) (y := l1) (q := w.heap.size) (by rw [hlt]; exact hcu) (box_cell w _ 23) hl1 (by rw [hlt]; omega)
  rw [hlt] at hap
  have hrun := appX_run hap
  have hb' : Below w.heap.size w W' := hbX.trans (hbA.mono hbX.size)
  have HPP := Lib.hid (HP W' v' (hS _ _ h0 hb') hv')
  obtain ⟨cA, cB⟩ := HC.out w (.inl h0)
  have hgl := World.block_lt_of_cell? w _ cA
  have hdl1 : ∀ W : World, (Instr.slice 44 (.slice (some ⟨g, o, none⟩) 2 c) (some (.int .i64 1)) none none).run Try.prog W = .ok (.slice (some ⟨g4, o4, none⟩) 1 c4) W := hdl
  have kA := fun (o' : Obj) => (Below.cell (p := ⟨g, o, none⟩) ((below_alloc w o').drew) hgl).trans cA
  have kB := fun (o' : Obj) => (Below.cell (p := ⟨g, o + 1, none⟩) ((below_alloc w o').drew) hgl).trans cB
  have jA := (Below.cell (p := ⟨g, o, none⟩) hb' hgl).trans cA
  have jB := (Below.cell (p := ⟨g, o + 1, none⟩) hb' hgl).trans cB
  have HT2 : Hid (∀ w1, T w1 → w1.cell? ⟨g, o, none⟩ = some (.int .u64 (l0 : Int)) ∧ w1.cell? ⟨g, o + 1, none⟩ = some (.int .u64 (l1 : Int))) := Lib.hid fun w1 ht => HC.out w1 (.inr ht)
  have hni : (n : Int) ≤ 1000 := by omega
  obtain ⟨A9, c9, hva9⟩ : ∃ A c, va = .slice A xs.length c := by obtain ⟨A, c, e, -⟩ := hva0; exact ⟨A, c, e⟩
  subst hva9
  have HP2H := Lib.hid HP2
  have HTD := Lib.hid hT
  have hXn : xs.length - n ≤ 1000 := by omega
  clear hS hT hne hvl hva hvl0 hva0 hcutU hdrU hdlU hap hv' hbA hcu hbX hbd hlt HP HP2 hl0 hl1 hm hn h0 hb' HC0 HC
  go_enter Try.func67, Try.ntmps67
  go_wp2
  go_loopw [0, 1] (fun v u wr => (v = .slice (some ⟨g, o, none⟩) 2 c ∧ u = .slice A9 xs.length c9 ∧ wr = w) ∨ (v = .slice (some ⟨g4, o4, none⟩) 1 c4 ∧ u = .slice A3 (xs.length - n) c3 ∧ Hid (T wr))) (fun v _ _ => slLen v)
  case atStart => exact .inl ⟨rfl, rfl, rfl⟩
  case round =>
    rcases hrel with ⟨rfl, rfl, rfl⟩ | ⟨rfl, rfl, HTr⟩
    · go_wp2_with ((go_at_call 54; with_reducible refine (HR.out _).mono ?_); rintro e w' ⟨rfl, rfl⟩)
      go_region_held3 (fun w' => w'.cell? ⟨g, o, none⟩ = some (.int .u64 (l0 : Int)) ∧ w'.cell? ⟨g, o + 1, none⟩ = some (.int .u64 (l1 : Int))) (first | (refine ⟨?_, ?_⟩ <;> assumption) | (refine ⟨?_, ?_⟩ <;> first | exact kA _ | exact kB _)) (first
        | ((go_at_call 69; with_reducible refine HPP.out.mono ?_); rintro e w1 ⟨rfl, ht⟩; have HT1 := Lib.hid ht; obtain ⟨m0, m1⟩ := HT2.out w1 ht; clear ht))
      clear kA kB hrun
      go_wp2
      go_region
      go_wp2
      go_roundw
      case rel => exact .inr ⟨rfl, rfl, Lib.hid (HTD.out _ _ HT1.out (Below.refl _ _).drew)⟩
      case measure => simp [slLen]
    · obtain ⟨n0, n1⟩ := HU2.out wr HTr.out
      have HPQ := Lib.hid (HP2H.out wr _ HTr.out n1)
      clear kA kB hrun jA jB n1 hdl hdl1 hdr hcut
      go_wp2_with fail
      with_reducible refine HPQ.out.mono ?_
      rintro e w1 (⟨rfl, ht⟩ | ⟨c, rfl, hx⟩)
      · go_wp2
        go_end0
        exact .inl ⟨rfl, ht⟩
      · exact ⟨rfl, .inr ⟨c, rfl, hx⟩⟩
