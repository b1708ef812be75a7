/- The reference's Write. Conditions stand in each theorem. -/
import Derived.Test.YtmnlkejhhdbhlaaRB
namespace Go.Proofs.Ytmnlkejhhdbhlaa
open Go.RowKit
set_option linter.unusedVariables false
set_option maxHeartbeats 4000000
set_option maxRecDepth 100000
theorem results_row1 {P : Program} {fn : Func} {a b : Tmp} {ty : TypeId} (h : fn.results = #[.cell a ty, .tmp b]) (tmps : Array Value) (w : World) (g : Nat) (t : TypeId) (cs : Array Value) (fr : Nat × Nat) (d : TypeDesc) (ha : tmps.getD a undef = .pointer (some ⟨g, 0, none⟩)) (hg : w.heap[g]? = some (.cells cs t fr))
    (hu : P.underlying ty = some d) (hd : (match d with | .struct _ | .array _ _ => true | _ => false) = true) (hi : (P.info? ty).map (·.size) = some cs.size) : (results fn tmps).run P w = .ok (.tuple #[.agg cs, tmps.getD b undef]) w := by
  have e := run_loadVar_row (P := P) w g t ty cs fr d hg hu hd hi
  have ha2 : tmps[a]?.getD undef = .pointer (some ⟨g, 0, none⟩) := by simpa using ha
  simp [results, h, ha2, asAddr, e]
theorem info32 : (Try.prog.info? 32).map (·.size) = some 2 := by kernel_rfl
/-- What a call of the reference that may store leaves. -/
def WrR (w : World) (S : Nat → Prop) (m' : Mm) (k : Int) (e : Ending) (w' : World) : Prop :=
  ∃ A1 n1 c1 A2 n2 c2, e = .returned (.tuple #[.agg #[.slice A1 n1 c1, .slice A2 n2 c2], .int .i64 k]) ∧ Rf w' S A1 n1 c1 A2 n2 c2 m' ∧ Below w.heap.size w w'
theorem Mm.ch_nil (m : Mm) (a : Nat) : m.ch a 0 [] = m := by
  unfold Mm.ch
  split
  · unfold Mm.log
    rw [if_pos (by simp), pat_nil]
  · rfl
theorem set2 (X : World) (q : Nat) (u0 u1 v0 v1 : Value) (t : TypeId) (h : X.heap[q]? = some (.cells #[u0, u1] t (0, 0))) : ((X.setCell ⟨q, 0, none⟩ v0).setCell ⟨q, 1, none⟩ v1).heap[q]? = some (.cells #[v0, v1] t (0, 0)) :=
  heap_setCell_same _ q 1 _ t v1 (heap_setCell_same X q 0 _ t v0 h)
theorem app_spans (w : World) (base : Nat) (v xv : Value) (L : List (Nat × Nat)) (hown : w.ownsRow base 47 3 v 0 []) (hx : Spn w xv L) (hsz : L.length ≤ 1000000) (hbase : base ≤ w.heap.size) :
    ∃ A c w', (Builtin.append_ #[30, 30] 30 #[v, xv]).run Try.prog w = .ok (.slice A L.length c) w' ∧ w'.ownsRow base 47 3 (.slice A L.length c) L.length (sv L) ∧ w.grownBy w' v.ownBlock := by
  have h1 := info47
  have h2 := info47b
  cases hq : Try.prog.info? 47 with
  | none => rw [hq] at h1; cases h1
  | some i0 =>
    rw [hq] at h1 h2
    simp only [Option.map_some, Option.some.injEq, Prod.mk.injEq] at h1 h2
    obtain ⟨A, c, rfl, hcl, hr⟩ := hx
    rcases Nat.eq_zero_or_pos L.length with h0 | h0
    · have hL : L = [] := List.eq_nil_of_length_eq_zero h0
      subst hL
      obtain ⟨Av, cv, hv⟩ := own_form hown
      subst hv
      refine ⟨Av, cv, w, ?_, hown, World.grownBy.refl _ _⟩
      rcases hown.2 with ⟨e, -⟩ | ⟨g, cap, cur, e, _⟩
      · simp only [Value.slice.injEq] at e
        obtain ⟨rfl, -, rfl⟩ := e
        cases A <;> simp [Builtin.append_, run_underlying Try.underlying30, sizeOf, typeInfo, hq, Builtin.lenOf, Builtin.firstCells, loadCells, loadCellsFrom]
      · simp only [Value.slice.injEq] at e
        obtain ⟨rfl, -, rfl⟩ := e
        cases A <;> simp [Builtin.append_, run_underlying Try.underlying30, sizeOf, typeInfo, hq, Builtin.lenOf, Builtin.firstCells, storeCells, loadCells, loadCellsFrom]
    · obtain ⟨g, o, rfl, hg, hcell⟩ := hr h0
      have hnews : ∀ j u, (sv L)[j]? = some u → w.cell? ((⟨g, o, none⟩ : Addr).add j) = some u := fun j u hu => by
        have hj : j < L.length * 3 := by
          rcases Nat.lt_or_ge j (L.length * 3) with h | h
          · exact h
          · rw [List.getElem?_eq_none (by rw [sv_length]; exact h)] at hu; cases hu
        obtain ⟨i, r, hi, hr3, rfl⟩ : ∃ i r, i < L.length ∧ r < 3 ∧ j = i * 3 + r := ⟨j / 3, j % 3, by omega, by omega, by omega⟩
        obtain ⟨a0, a1, a2⟩ := sv_at L i hi
        obtain ⟨b0, b1, b2⟩ := hcell i hi
        rw [add_plain, ← Nat.add_assoc]
        have : r = 0 ∨ r = 1 ∨ r = 2 := by omega
        rcases this with rfl | rfl | rfl
        · rw [Nat.add_zero] at hu ⊢; rw [b0, ← a0, hu]
        · rw [b1, ← a1, hu]
        · rw [b2, ← a2, hu]
      obtain ⟨v', w', hrun, h3, h4, _, _⟩ := run_append_own_at (P := Try.prog) w base 30 30 47 i0 _ 3 24 Try.underlying30 hq h1.1 h1.2 h2 rfl (by decide) v 0 [] hown ⟨g, o, none⟩ L.length c (sv L) (by rw [sv_length]) hnews (sv_one _) (by unfold maxLen; omega) (by omega) hbase
      rw [Nat.zero_add, List.nil_append] at h3
      obtain ⟨A', c', rfl⟩ := own_form h3
      exact ⟨A', c', w', hrun, h3, h4⟩
section
variable {w w' : World} {S T : Nat → Prop} {A1 A2 Av : Option Addr} {n1 c1 n2 c2 nv cv : Nat} {m : Mm} {l : List UInt8}
theorem rWrite_no (h : Rf w S A1 n1 c1 A2 n2 c2 m) (hmax : m.B.length ≤ 4194304) (a : Nat) (ha : a < 18446744073709551616) (hv : Byt w (.slice Av nv cv) l) (hl : l.length ≤ 4194304) (hno : m.chk a (l.length : Int) ≠ 0 ∨ l.length = 0) :
    Calls Try.prog 28 #[.agg #[.slice A1 n1 c1, .slice A2 n2 c2], .int .u64 (a : Int), .slice Av nv cv] w (WrR w S (m.ch a (l.length : Int) l) (m.chk a (l.length : Int))) := by
  have hch : m.ch a (l.length : Int) l = m := by
    rcases hno with h1 | h1
    · exact Mm.ch_bad h1
    · have : l = [] := List.eq_nil_of_length_eq_zero h1
      subst this
      exact Mm.ch_nil m a
  rw [hch]
  obtain ⟨z, hz⟩ : ∃ z, z = m.chk a (l.length : Int) := ⟨_, rfl⟩
  have hnv := hv.len
  have hb1 := below_alloc w (.cells #[.slice A1 n1 c1, .slice A2 n2 c2] 32)
  have e1 := heap_alloc_new w (.cells #[.slice A1 n1 c1, .slice A2 n2 c2] 32)
  have s1 : (w.alloc (.cells #[.slice A1 n1 c1, .slice A2 n2 c2] 32)).heap.size = w.heap.size + 1 := World.size_alloc _ _
  obtain ⟨w1, hw1⟩ : ∃ w1, w1 = w.alloc (.cells #[.slice A1 n1 c1, .slice A2 n2 c2] 32) := ⟨_, rfl⟩
  rw [← hw1] at hb1 e1 s1
  have hb2 := below_alloc w1 (.cells #[.slice none 0 0, .slice none 0 0] 32)
  have e2 := heap_alloc_new w1 (.cells #[.slice none 0 0, .slice none 0 0] 32)
  rw [s1] at e2
  obtain ⟨w2, hw2⟩ : ∃ w2, w2 = w1.alloc (.cells #[.slice none 0 0, .slice none 0 0] 32) := ⟨_, rfl⟩
  rw [← hw2] at hb2 e2
  have hb : Below w.heap.size w w2 := hb1.trans (hb2.mono hb1.size)
  have e1' := (hb2.block w.heap.size (by omega)).trans e1
  have HC := Lib.hid (rCheck_any (h.below hb) hmax a (l.length : Int) ha (by omega))
  rw [← hz, ← hnv] at HC
  have HE := Lib.hid (show (∀ W, Below w2.heap.size w2 W → W.cell? ⟨w.heap.size, 0, none⟩ = some (.slice A1 n1 c1) ∧ W.cell? ⟨w.heap.size, 1, none⟩ = some (.slice A2 n2 c2) ∧ W.heap[w.heap.size + 1]? = some (.cells #[.slice none 0 0, .slice none 0 0] 32 (0, 0))) from fun W hW => by
    have k1 := (hW.block w.heap.size (by have := (Array.getElem?_eq_some_iff.1 e1').1; exact this)).trans e1'
    have k := fun i => cell_of_row W w.heap.size i _ 32 (0, 0) k1
    exact ⟨k 0, k 1, (hW.block (w.heap.size + 1) (Array.getElem?_eq_some_iff.1 e2).1).trans e2⟩)
  obtain ⟨k0, k1, k2⟩ := HE.out w2 (Below.refl _ _)
  have HP : Hid (∀ W W', Below w2.heap.size w2 W → W' = (W.setCell ⟨w.heap.size + 1, 0, none⟩ (.slice A1 n1 c1)).setCell ⟨w.heap.size + 1, 1, none⟩ (.slice A2 n2 c2) → WrR w S m z (.returned (.tuple #[.agg #[.slice A1 n1 c1, .slice A2 n2 c2], .int .i64 z])) W') := Lib.hid fun W W' hW e => by
    have hbw : Below w.heap.size w W' := by rw [e]; exact ((hb.trans (hW.mono hb.size)).setCell (by show _ ≤ w.heap.size + 1; omega) _).setCell (by show _ ≤ w.heap.size + 1; omega) _
    exact ⟨_, _, _, _, _, _, rfl, h.below hbw, hbw⟩
  have HW2 : Hid (w2 = (w.alloc (.cells #[.slice A1 n1 c1, .slice A2 n2 c2] 32)).alloc (.cells #[.slice none 0 0, .slice none 0 0] 32)) := Lib.hid (by rw [hw2, hw1])
  have hnvi : (nv : Int) ≤ 4194304 := by omega
  rw [← hz]
  rcases Decidable.em (z = 0) with h0 | h0
  · have hn0 : nv = 0 := by
      rcases hno with h1 | h1
      · exact absurd (hz ▸ h0) h1
      · omega
    subst hn0
    subst h0
    have HC0 : Hid (Calls Try.prog 31 #[.agg #[.slice A1 n1 c1, .slice A2 n2 c2], .int .u64 (a : Int), .int .i64 0] w2 fun e w' => e = .returned (.int .i64 0) ∧ Below w2.heap.size w2 w') := HC
    clear HC
    clear h hmax ha hv hl hno hch hnv hz hb1 e1 s1 hw1 hb2 e2 hw2 hb e1' k2
    go_enter Try.func28, Try.ntmps28
    go_upto_region 1 with fail
    rw [← HW2.out]
    go_upto_region 3 with ((go_at_call 31; with_reducible refine HC0.out.mono ?_); rintro e w3 ⟨rfl, hb3⟩; have HB3 := Lib.hid hb3; obtain ⟨j0, j1, j2⟩ := HE.out w3 hb3; clear hb3)
    have q0 := cell_of_row w3 (w.heap.size + 1) 0 _ 32 (0, 0) j2
    have q1 := cell_of_row w3 (w.heap.size + 1) 1 _ 32 (0, 0) j2
    have q2 := fun k => frozen_of_row w3 (w.heap.size + 1) k _ 32 j2
    simp only [List.getElem?_toArray, List.getElem?_cons_zero, List.getElem?_cons_succ] at q0 q1
    have J2 := Lib.hid j2
    clear j2
    go_wp2
    refine bodyPost_ret (results_row1 rfl _ _ (w.heap.size + 1) 32 #[.slice A1 n1 c1, .slice A2 n2 c2] (0, 0) _ rfl (set2 _ _ _ _ _ _ _ J2.out) Try.underlying32 rfl info32) rfl ?_
    exact HP.out _ _ HB3.out rfl
  · have hne : ((z : Int) == 0) = false := by simp [h0]
    have hne2 : (z != 0) = true := by simp [h0]
    clear h hmax ha hv hl hno hch hnv hz hb1 e1 s1 hw1 hb2 e2 hw2 hb e1' k2
    go_enter Try.func28, Try.ntmps28
    go_upto_region 1 with fail
    rw [← HW2.out]
    go_upto_region 3 with ((go_at_call 31; with_reducible refine HC.out.mono ?_); rintro e w3 ⟨rfl, hb3⟩; have HB3 := Lib.hid hb3; obtain ⟨j0, j1, j2⟩ := HE.out w3 hb3; clear hb3)
    have q0 := cell_of_row w3 (w.heap.size + 1) 0 _ 32 (0, 0) j2
    have q1 := cell_of_row w3 (w.heap.size + 1) 1 _ 32 (0, 0) j2
    have q2 := fun k => frozen_of_row w3 (w.heap.size + 1) k _ 32 j2
    simp only [List.getElem?_toArray, List.getElem?_cons_zero, List.getElem?_cons_succ] at q0 q1
    have J2 := Lib.hid j2
    clear j2
    go_wp2
    refine bodyPost_ret (results_row1 rfl _ _ (w.heap.size + 1) 32 #[.slice A1 n1 c1, .slice A2 n2 c2] (0, 0) _ rfl (set2 _ _ _ _ _ _ _ J2.out) Try.underlying32 rfl info32) rfl ?_
    exact HP.out _ _ HB3.out rfl
end
end Go.Proofs.Ytmnlkejhhdbhlaa
