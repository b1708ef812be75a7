/- The order of records; SortFunc of their rows. Conditions stand in each theorem. -/
import Derived.Test.YtajlddgemkkcdaaN
import Derived.Test.YtajlddgemkkcdaaLay
import Derived.Shelf.SlSortCmp.WholeK
namespace Go.Proofs.Ytajlddgemkkcdaa
open Go.RowKit Go.Sort Go.Lib
set_option linter.unusedVariables false
set_option maxHeartbeats 4000000
set_option maxRecDepth 100000
theorem cmpI_neg {a b : Int} : cmpI a b < 0 ↔ a < b := by unfold cmpI; (repeat' split) <;> omega
theorem cmpI_zero {a b : Int} : cmpI a b = 0 ↔ a = b := by unfold cmpI; (repeat' split) <;> omega
def NewLt (a b : Loc) : Prop := b.r.f < a.r.f ∨ b.r.f = a.r.f ∧ a.e < b.e
theorem newI_neg {a b : Loc} : newI a b < 0 ↔ NewLt a b := by
  unfold newI orI NewLt
  by_cases h : cmpI b.r.f a.r.f = 0
  · rw [if_pos h, cmpI_neg]
    have := cmpI_zero.1 h
    omega
  · rw [if_neg h, cmpI_neg]
    have : ¬ b.r.f = a.r.f := fun e => h (cmpI_zero.2 e)
    omega
def TurnLt (a b : Loc) : Prop := a.r.p < b.r.p ∨ a.r.p = b.r.p ∧ NewLt a b
theorem turnI_neg {a b : Loc} : turnI a b < 0 ↔ TurnLt a b := by
  unfold turnI orI TurnLt
  by_cases h : cmpI a.r.p b.r.p = 0
  · rw [if_pos h, newI_neg]
    have := cmpI_zero.1 h
    unfold NewLt
    omega
  · rw [if_neg h, cmpI_neg]
    have : ¬ a.r.p = b.r.p := fun e => h (cmpI_zero.2 e)
    unfold NewLt
    omega
instance (a b : Loc) : Decidable (TurnLt a b) := decidable_of_iff _ turnI_neg
theorem lt_turn (a b : Loc) : ltOf turnI a b = decide (TurnLt a b) := by
  unfold ltOf
  exact decide_eq_decide.2 turnI_neg
theorem swo_turn : SWO (ltOf turnI) := by
  refine ⟨fun x => ?_, fun x y z h1 h2 => ?_, fun x y z h1 h2 => ?_⟩
  · rw [lt_turn]
    exact decide_eq_false (by unfold TurnLt NewLt; omega)
  · rw [lt_turn] at *
    have h1 := of_decide_eq_true h1
    have h2 := of_decide_eq_true h2
    exact decide_eq_true (by unfold TurnLt NewLt at *; omega)
  · rw [lt_turn] at *
    have h1 := of_decide_eq_false h1
    have h2 := of_decide_eq_false h2
    exact decide_eq_false (by unfold TurnLt NewLt at *; omega)
instance : Inhabited Loc := ⟨⟨⟨0, 0, 0, 0⟩, 0, none, 0, 0⟩⟩
theorem cmp_turn (g n : Nat) (w : World) : CmpLays Try.prog 40 #[] Loc.cells 6 turnI g 0 n w := fun m os dk hdk x y => by
  have := inTurn_any x y (sortWorldK Loc.cells 6 w g 0 m dk os)
  exact this.mono fun e w' ⟨h1, h2⟩ => ⟨h1, h2⟩
theorem holds_loc {w : World} {g cap : Nat} {cur : Array Value} {L : List Loc} (hg : w.heap[g]? = some (.cells cur 78 (0, 0))) (ht : cur.toList.take (L.length * 6) = fl6 L) : HoldsK Loc.cells 6 w g 0 L.toArray := by
  intro t ht2
  rw [size_flatK] at ht2
  have hsz : L.toArray.size = L.length := by simp
  rw [hsz] at ht2
  have h1 : t / 6 < L.length := by omega
  have h7 : t % 6 < 6 := Nat.mod_lt _ (by decide)
  have e1 : (flatK Loc.cells 6 L.toArray)[t]! = L[t / 6].cells[t % 6]! := by
    rw [get_flatK Loc.cells 6 L.toArray t (by rw [hsz]; exact ht2), getElem!_pos L.toArray (t / 6) (by rw [hsz]; exact h1)]
    simp
  have e2 : cur[t]? = some L[t / 6].cells[t % 6]! := by
    have h2 := fl6_at L (t / 6) (t % 6) h1 h7
    rw [show t / 6 * 6 + t % 6 = t by omega, ← ht, List.getElem?_take, if_pos ht2] at h2
    have h3 : L[t / 6].cells[t % 6]? = some L[t / 6].cells[t % 6]! := by
      rw [List.getElem!_eq_getElem?_getD]
      have : t % 6 < L[t / 6].cells.length := h7
      rw [List.getElem?_eq_getElem this]; rfl
    rw [h3] at h2
    simpa using h2
  refine ⟨?_, ?_⟩
  · rw [Nat.zero_add, e1, cell_of_row _ _ _ _ _ (0, 0) hg]
    exact e2
  · rw [Nat.zero_add]; exact frozen_of_row w g _ _ 78 hg
/-- What the sorting of a row leaves. -/
def SrtPost (w : World) (base : Nat) (A : Option Addr) (c : Nat) (L : List Loc) (e : Ending) (w' : World) : Prop :=
  e = .returned (.tuple #[]) ∧ ∃ D : List Loc, D.Perm L ∧ D.Pairwise (fun a b => ¬ TurnLt b a) ∧ Own6 w' base (.slice A L.length c) D ∧ w.grownBy w' (Value.slice A L.length c).ownBlock
theorem sortLoc_any {w : World} {base : Nat} {A : Option Addr} {c : Nat} {L : List Loc} (hA : Own6 w base (.slice A L.length c) L) (hl : L.length ≤ 100000) :
    Calls Try.prog 39 #[.slice A L.length c, .func (.func 40) #[] #[]] w (SrtPost w base A c L) := by
  rcases hA with ⟨rfl, he⟩ | ⟨hne, ho⟩
  · refine (show Calls Try.prog 39 #[.slice A 0 c, .func (.func 40) #[] #[]] w _ from AnyF.slices_SortFunc_none sortL A c _ w).mono ?_
    rintro e w' ⟨rfl, rfl⟩
    exact ⟨rfl, [], .refl _, .nil, .inl ⟨rfl, he⟩, World.grownBy.refl _ _⟩
  · rcases ho.2 with ⟨_, h0⟩ | ⟨g, cap, cur, he, hb, hg, h1, h2, h3, h4⟩
    · exact absurd (List.length_eq_zero_iff.1 h0) hne
    · injection he with e1 _ e3
      subst e1 e3
      have hsz : L.toArray.size = L.length := by simp
      have hH := holds_loc (cap := c) hg h4
      have h := AnyQ.slices_SortFunc sortL 6 Try.isAgg78 Try.sizeOf78 Loc.cells (fun _ => rfl) loc_one turnI swo_turn 40 #[] g 0 c L.toArray w (enters_of Try.func40 (by kernel_rfl) rfl) (cmp_turn g _ w) hH (Array.getElem?_eq_some_iff.1 hg).1 (by rw [hsz]; omega)
      rw [hsz] at h
      refine h.mono ?_
      rintro e w' ⟨rfl, d', n, os, hp, hs, rfl⟩
      have hs' : d'.size = L.length := by rw [hp.1]; exact hsz
      have hb2 : ∀ k, k < w.heap.size → (sortWorldK Loc.cells 6 w g 0 n d' os).heap[k]? = (w.heap.modify g (onCells (putCells id 0 (flatK Loc.cells 6 d'))))[k]? := fun k hk => by
        simp only [sortWorldK, grow, putRowK, putRow, mapBlock]
        rw [Array.getElem?_append_left (by simpa using hk)]
        rfl
      have hgl := (Array.getElem?_eq_some_iff.1 hg).1
      have hgrow : w.grownBy (sortWorldK Loc.cells 6 w g 0 n d' os) (some g) := by
        refine ⟨rfl, rfl, rfl, ?_, fun k hk hne => ?_⟩
        · have : (sortWorldK Loc.cells 6 w g 0 n d' os).heap.size = w.heap.size + os.size := by simp [sortWorldK, grow, putRowK, putRow, mapBlock]
          omega
        · rw [hb2 k hk, Array.getElem?_modify, if_neg (fun e => hne (by rw [e]))]
      have hrow : (sortWorldK Loc.cells 6 w g 0 n d' os).heap[g]? = some (.cells (putCells id 0 (flatK Loc.cells 6 d') cur) 78 (0, 0)) := by
        rw [hb2 g hgl, Array.getElem?_modify, if_pos rfl, hg]
        rfl
      have hDl : d'.toList.length = L.length := by simpa using hs'
      refine ⟨rfl, d'.toList, ?_, ?_, .inr ⟨?_, ?_⟩, hgrow⟩
      · have h1 := hp.2.2
        have e1 : d'.extract 0 L.length = d' := by rw [← hs']; simp
        have e2 : L.toArray.extract 0 L.length = L.toArray := by rw [← hsz]; simp
        rw [e1, e2] at h1
        simpa using h1
      · rw [List.pairwise_iff_getElem]
        intro i j hi hj hij
        have hj' : j < d'.size := by simpa using hj
        have := hs i j (Nat.zero_le _) hij (by omega)
        rw [lt_turn, getElem!_pos d' i (by omega), getElem!_pos d' j hj'] at this
        simpa using of_decide_eq_false this
      · intro e
        rw [e] at hDl
        exact hne (List.length_eq_zero_iff.1 hDl.symm)
      · refine ⟨by rw [fl6_length], .inr ⟨g, c, _, by rw [hDl], hb, hrow, by rw [hDl]; exact h1, h2, by simpa [putCells] using h3, ?_⟩⟩
        apply List.ext_getElem?
        intro t
        rw [List.getElem?_take]
        by_cases ht : t < d'.toList.length * 6
        · rw [if_pos ht]
          have ht6 : t / 6 < d'.toList.length := by omega
          have h7 : t % 6 < 6 := Nat.mod_lt _ (by decide)
          have h8 := fl6_at d'.toList (t / 6) (t % 6) ht6 h7
          rw [show t / 6 * 6 + t % 6 = t by omega] at h8
          rw [h8]
          have htc : t < cur.size := by rw [h3, hDl] at *; omega
          simp only [putCells, Array.toList_mapIdx, List.getElem?_mapIdx]
          have hc : cur.toList[t]? = some cur[t] := by simp [htc]
          rw [hc]
          simp only [Option.map_some, Nat.zero_le, true_and, Nat.zero_add, size_flatK, Nat.sub_zero, id_eq]
          have hts : t < d'.size * 6 := by simpa using ht
          rw [if_pos hts, get_flatK Loc.cells 6 d' t hts, getElem!_pos d' (t / 6) (by simpa using ht6)]
          have : t % 6 < (d'.toList[t / 6]).cells.length := h7
          rw [List.getElem?_eq_getElem this, List.getElem!_eq_getElem?_getD]
          have h9 : t % 6 < (d'[t / 6]'(by simpa using ht6)).cells.length := h7
          simp only [Array.getElem_toList]
          rw [List.getElem?_eq_getElem h9]
          rfl
        · rw [if_neg ht, List.getElem?_eq_none (by rw [fl6_length]; omega)]
end Go.Proofs.Ytajlddgemkkcdaa
