/- The contract of the function that adds a page. Conditions stand in each theorem. -/
import Derived.Test.YtddejcoagcaidaaH
import Derived.Deep.RegionLaw
namespace Go.Proofs.Ytddejcoagcaidaa
open Go.RowKit
set_option linter.unusedVariables false
set_option maxHeartbeats 2000000
set_option maxRecDepth 100000
theorem info91b : (Try.prog.info? 91).map (fun i => (i.zero, i.size, i.bytes)) = some (some (.agg #[.slice none 0 0, .slice none 0 0, .int .i64 0]), 3, 56) := by kernel_rfl
/-- What a closure leaves that changes a device. -/
def StepAny (w : World) (base b g m : Nat) (V : Nat → Value) (s s' : Dev) (e : Ending) (w' : World) : Prop := (∃ v, e = .returned v) ∧ Step w base b g m V s s' w'
theorem cell_three_new (w : World) (x y z : Value) (t : TypeId) : ∀ j u, [x, y, z][j]? = some u → (w.alloc (.cells #[x, y, z] t)).cell? ((⟨w.heap.size, 0, none⟩ : Addr).add j) = some u := by
  intro j u h
  rw [add_plain]
  match j, h with
  | 0, h => simp at h; subst h; simp
  | 1, h => simp at h; subst h; simp
  | 2, h => simp at h; subst h; simp
theorem after_row {w w2 : World} {base b g m : Nat} {V : Nat → Value} {s : Dev} (h : Dv w base b g m V s) {i : Nat} (hi : i < s.nb) {v : Value} (hv : V i = v) (hg : w.grownBy w2 v.ownBlock) : w2.cell? ⟨g, i * 2 + 1, none⟩ = some v ∧ w2.frozen? ⟨g, i * 2 + 1, none⟩ = false := by
  subst hv
  have hB : w2.heap[g]? = w.heap[g]? := hg.block g h.glt (fun e => h.row_g hi e.symm)
  exact ⟨(World.cell?_of_block (w := w) hB).trans (h.gcells hi).2, (World.frozen?_of_block (w := w) hB).trans (h.gfree _)⟩
theorem after_box {w w2 : World} {base b g m : Nat} {V : Nat → Value} {s : Dev} (h : Dv w base b g m V s) {i : Nat} (hi : i < s.nb) {v x : Value} (hv : V i = v) (hg : w.grownBy w2 v.ownBlock) {q : Nat} (hq : w.heap[q]? = some (.cells #[x] 103 (0, 0))) : w2.cell? ⟨q, 0, none⟩ = some x := by
  subst hv
  have hB : w2.heap[q]? = w.heap[q]? := hg.block q (Array.getElem?_eq_some_iff.1 hq).1 (fun e => by
    obtain ⟨cs, hc⟩ := h.rowAt hi e.symm
    exact absurd (ty_ne hq hc) (by decide))
  exact cell_of_row w2 q 0 _ 103 (0, 0) (hB.trans hq)
theorem add_fin {w W wa : World} {base b g m : Nat} {V : Nat → Value} {s : Dev} (h : Dv w base b g m V s) {i : Nat} (hi : i < s.nb) {xs : List Value} (hr : Rws s.lo w xs (s.bk i).pg) {A1 A2 : Option Addr} {n1 c1 n2 c2 ga capa N : Nat} {p : Pg}
    (h1 : BytT s.lo w (.slice A1 n1 c1) p.d) (h2 : BytT s.lo w (.slice A2 n2 c2) p.s) (hW : Below w.heap.size w W) {v : Value} (hv : V i = v) (hN : N = (s.bk i).pg.length)
    (ho : wa.ownsRow base 91 3 (.slice (some ⟨ga, 0, none⟩) (N + 1) capa) (N + 1) (xs ++ [.slice A1 n1 c1, .slice A2 n2 c2, .int .i64 p.st])) (hg : W.grownBy wa v.ownBlock) (hl : v.ownBlock = some ga ∨ ga = W.heap.size) :
    Step w base b g m V s (s.put i ⟨(s.bk i).er, (s.bk i).pg ++ [p]⟩) (wa.setCell ⟨g, i * 2 + 1, none⟩ (.slice (some ⟨ga, 0, none⟩) (N + 1) capa)) := by
  subst hv
  subst hN
  have hc : Chg (fun k => (V i).ownBlock = some k) w wa := (Chg.of_below hW).also (Chg.of_grown hg)
  have hNB : NoBytes (fun k => (V i).ownBlock = some k) w := fun k hk e cs fr e2 => by
    obtain ⟨cs', h'⟩ := h.rowAt hi e
    exact absurd (ty_ne h' e2) (by decide)
  refine h.repage hi (ps := (s.bk i).pg ++ [p]) (xs := xs ++ [.slice A1 n1 c1, .slice A2 n2 c2, .int .i64 p.st]) (by rw [List.length_append]; exact ho) (Rws.snoc (h1.chg hc hNB) (h2.chg hc hNB) _ _ (hr.chg_of hc hNB)) hc (fun k hk => ?_)
  simp only [Value.ownBlock, Option.some.injEq] at hk
  subst hk
  rcases hl with h3 | h3
  · exact .inl h3
  · have := hW.size; exact .inr (by omega)
theorem add_any {w : World} {base b g m : Nat} {V : Nat → Value} {s : Dev} (h : Dv w base b g m V s) (hG : Gd s) {i : Nat} (hi : i < s.nb) (q : Nat) (hqb : w.heap[q]? = some (.cells #[.pointer (some ⟨g, i * 2, none⟩)] 103 (0, 0)))
    {A1 A2 : Option Addr} {n1 c1 n2 c2 : Nat} (p : Pg) (h1 : BytT s.lo w (.slice A1 n1 c1) p.d) (h2 : BytT s.lo w (.slice A2 n2 c2) p.s) :
    Calls Try.prog 71 #[.agg #[.slice A1 n1 c1, .slice A2 n2 c2, .int .i64 p.st], .pointer (some ⟨q, 0, none⟩)] w (StepAny w base b g m V s (s.put i ⟨(s.bk i).er, (s.bk i).pg ++ [p]⟩)) := by
  obtain ⟨i91, hi91, hz0, hz1, hz2⟩ := info_parts info91b
  obtain ⟨xs, ho, hr⟩ := h.row i hi
  obtain ⟨A0, k0, hV⟩ := own_form ho
  have hq : w.cell? ⟨q, 0, none⟩ = some (.pointer (some ⟨g, i * 2, none⟩)) := cell_of_row w q 0 _ 103 (0, 0) hqb
  have hql := World.block_lt_of_cell? w _ hq
  have HQB := Lib.hid hqb
  clear hqb
  obtain ⟨_, hg1⟩ := h.gcells hi
  have hgf := h.gfree (i * 2 + 1)
  have hglt := h.glt
  rw [hV] at hg1
  have hnp := hG.pg i hi
  have hnp2 := hG.np
  have H := Lib.hid h
  have HO := Lib.hid ho
  have HR := Lib.hid hr
  have HV := Lib.hid hV
  have H1 := Lib.hid h1
  have H2 := Lib.hid h2
  have hlen : (s.bk i).pg.length ≤ 512 := by omega
  clear h hG ho hr hV h1 h2 hnp hnp2
  obtain ⟨N, hN⟩ : ∃ N, N = (s.bk i).pg.length := ⟨_, rfl⟩
  rw [← hN] at hg1 hlen
  have HN := Lib.hid hN
  clear hN
  go_enter Try.func71, Try.ntmps71
  go_wp2
  have hb2 : Below w.heap.size w ((w.alloc (.cells #[.slice A1 n1 c1, .slice A2 n2 c2, .int .i64 p.st] 91)).alloc (.cells #[.slice A1 n1 c1, .slice A2 n2 c2, .int .i64 p.st] 91)).drew := ((below_alloc w _).alloc (by simp) _).drew
  have HB2 := Lib.hid hb2
  have hD := H.out.below hb2
  have hOO : ((w.alloc (.cells #[.slice A1 n1 c1, .slice A2 n2 c2, .int .i64 p.st] 91)).alloc (.cells #[.slice A1 n1 c1, .slice A2 n2 c2, .int .i64 p.st] 91)).drew.ownsRow base 91 3 (.slice A0 N k0) N xs := by
    have h0 := HO.out
    rw [HV.out, ← HN.out] at h0
    exact (h0.alloc _).alloc _
  have HD := Lib.hid hD
  have HOO := Lib.hid hOO
  have hbs : base ≤ w.heap.size := by have := H.out.hg; omega
  have HVN : Hid (V i = .slice A0 N k0) := Lib.hid (by rw [HV.out, ← HN.out])
  clear hb2 hD hOO
  go_region_law (refine step_append_lies _ rfl (.tmp 7) (.tmp 9) 92 rfl base 91 i91 (.agg #[.slice none 0 0, .slice none 0 0, .int .i64 0]) 3 56 Try.underlying92 hi91 hz0 hz1 hz2 rfl (by decide) (.slice A0 N k0) N xs rfl ?_ ⟨w.heap.size + 1, 0, none⟩ 1 1 [.slice A1 n1 c1, .slice A2 n2 c2, .int .i64 p.st] rfl rfl ?_ ?_ (by decide) ?_ ?_ ?_ _ rfl ?_; (focus (exact HOO.out; done)); (focus (have := cell_three_new (w.alloc (.cells #[.slice A1 n1 c1, .slice A2 n2 c2, .int .i64 p.st] 91)) (.slice A1 n1 c1) (.slice A2 n2 c2) (.int .i64 p.st) 91; rw [World.size_alloc] at this; exact this; done)); (focus (intro u hu; simp at hu; rcases hu with rfl | rfl | rfl <;> rfl; done)); (focus (unfold maxLen; omega; done)); (focus (omega; done)); (focus (simp; omega; done)); intro ga capa wa hoa hga hla hlta; have HOA := Lib.hid hoa; have HGA := Lib.hid hga; have HLA := Lib.hid hla; obtain ⟨s0, s1⟩ := after_row HD.out hi HVN.out hga; have s2 := after_box HD.out hi HVN.out hga ((HB2.out.block q hql).trans HQB.out); clear hoa hga hla)
  all_goals
    go_end0
    exact ⟨⟨_, rfl⟩, add_fin H.out hi HR.out H1.out H2.out HB2.out HVN.out HN.out HOA.out HGA.out HLA.out⟩
end Go.Proofs.Ytddejcoagcaidaa
