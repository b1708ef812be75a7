/- The contracts of a mapping that is nil or zero. Conditions stand in each theorem. -/
import Derived.Test.YteiemegkdnjpgaaU
namespace Go.Proofs.Yteiemegkdnjpgaa
open Go.RowKit Go.Shelf
attribute [local go_sem] Oper.semAt_some
set_option linter.unusedVariables false
set_option maxHeartbeats 4000000
set_option maxRecDepth 100000
def zc : Array Value := #[.int .i64 0, .int .i64 0, .int .i64 0, .map none, .map none, .slice none 0 0]
/-- A nil pointer, or one at a zero mapping. -/
def Ze (W : World) (q : Option Addr) : Prop := q = none ∨ ∃ z, q = some ⟨z, 0, none⟩ ∧ W.heap[z]? = some (.cells zc 56 (0, 0))
section
variable {w w' : World} {q : Option Addr}
theorem Ze.below (h : Ze w q) (hb : Below w.heap.size w w') : Ze w' q := by
  rcases h with rfl | ⟨z, rfl, h⟩
  · exact .inl rfl
  · exact .inr ⟨z, rfl, (hb.block z (Array.getElem?_eq_some_iff.1 h).1).trans h⟩
theorem content_z (h : Ze w q) : Calls Try.prog 38 #[.pointer q] w fun e w' => e = .returned (.agg zc) ∧ Below w.heap.size w w' := by
  rcases h with rfl | ⟨z, rfl, h⟩
  · go_enter Try.func38, Try.ntmps38
    go_wp2
    refine bodyPost_ret (results_cell_row rfl _ _ w.heap.size 56 zc (0, 0) _ rfl (heap_alloc_new w _) Try.underlying56 rfl (by kernel_rfl)) rfl ⟨rfl, below_alloc w _⟩
  · have e := fun j => cell_of_row w z j _ 56 (0, 0) h
    have k0 : w.cell? ⟨z, 0, none⟩ = some (.int .i64 0) := e 0
    have k1 : w.cell? ⟨z, 1, none⟩ = some (.int .i64 0) := e 1
    have k2 : w.cell? ⟨z, 2, none⟩ = some (.int .i64 0) := e 2
    have k3 : w.cell? ⟨z, 3, none⟩ = some (.map none) := e 3
    have k4 : w.cell? ⟨z, 4, none⟩ = some (.map none) := e 4
    have k5 : w.cell? ⟨z, 5, none⟩ = some (.slice none 0 0) := e 5
    have hlt := (Array.getElem?_eq_some_iff.1 h).1
    have hne : z ≠ w.heap.size := by omega
    clear h e
    go_enter Try.func38, Try.ntmps38
    go_wp2
    refine bodyPost_ret (results_cell_row rfl _ _ w.heap.size 56 zc (0, 0) _ rfl (heap_alloc_new w _) Try.underlying56 rfl (by kernel_rfl)) rfl ⟨rfl, below_alloc w _⟩
theorem At_z (h : Ze w q) {x : Int} (hx : I64 x) : Calls Try.prog 22 #[.pointer q, .int .i64 x] w fun e w' => e = .returned (.tuple #[.int .i64 0, .bool false]) ∧ Below w.heap.size w w' := by
  have HC := Lib.hid (content_z h)
  have hl := fun W => look_nil_map W hx
  unfold zc at HC
  have hf := field1
  clear h hx
  go_enter Try.func22, Try.ntmps22
  go_wp2_with (((go_at_call 38; with_reducible refine HC.out.mono ?_); rintro e w' ⟨rfl, hb⟩; have HB := Lib.hid hb; clear hb))
  go_ret2
  exact ⟨rfl, HB.out⟩
theorem Sector_z (h : Ze w q) {x : Int} (hx : I64 x) : Calls Try.prog 23 #[.pointer q, .int .i64 x] w fun e w' => e = .returned (.tuple #[.int .i64 0, .bool false]) ∧ Below w.heap.size w w' := by
  have HC := Lib.hid (content_z h)
  have hl := fun W => look_nil_map W hx
  unfold zc at HC
  have hf := field2
  clear h hx
  go_enter Try.func23, Try.ntmps23
  go_wp2_with (((go_at_call 38; with_reducible refine HC.out.mono ?_); rintro e w' ⟨rfl, hb⟩; have HB := Lib.hid hb; clear hb))
  go_ret2
  exact ⟨rfl, HB.out⟩
theorem Count_z (h : Ze w q) : Calls Try.prog 25 #[.pointer q] w fun e w' => e = .returned (.int .i64 0) ∧ Below w.heap.size w w' := by
  have HC := Lib.hid (content_z h)
  have hl := fun (W : World) ty => Maps.len_nil (P := Try.prog) (w := W) Try.underlying53 ty
  unfold zc at HC
  have hf := field1
  clear h
  go_enter Try.func25, Try.ntmps25
  go_wp2_with (((go_at_call 38; with_reducible refine HC.out.mono ?_); rintro e w' ⟨rfl, hb⟩; have HB := Lib.hid hb; clear hb))
  go_ret
  exact ⟨rfl, HB.out⟩
theorem Sectors_z (h : Ze w q) : Calls Try.prog 26 #[.pointer q] w fun e w' => e = .returned (.int .i64 0) ∧ Below w.heap.size w w' := by
  have HC := Lib.hid (content_z h)
  unfold zc at HC
  have hf := field0
  have hf2 := field00
  clear h
  go_enter Try.func26, Try.ntmps26
  go_wp2_with (((go_at_call 38; with_reducible refine HC.out.mono ?_); rintro e w' ⟨rfl, hb⟩; have HB := Lib.hid hb; clear hb))
  go_ret
  exact ⟨rfl, HB.out⟩
theorem missing_z (h : Ze w q) : Calls Try.prog 31 #[.pointer q] w fun e w' => e = .returned (.bool true) ∧ Below w.heap.size w w' := by
  have HC := Lib.hid (Sectors_z h)
  clear h
  go_enter Try.func31, Try.ntmps31
  go_wp2_with (((go_at_call 26; with_reducible refine HC.out.mono ?_); rintro e w' ⟨rfl, hb⟩; have HB := Lib.hid hb; clear hb))
  go_ret
  exact ⟨rfl, HB.out⟩
theorem hasBlock_z (x : Int) (W : World) : Calls Try.prog 44 #[.agg #[.int .i64 0, .int .i64 0, .int .i64 0], .int .i64 x] W fun e w' => e = .returned (.bool false) ∧ Below W.heap.size W w' := by
  have h := hasBlock_any 0 0 0 x W (by omega)
  rw [decide_eq_false (by omega)] at h
  exact h
theorem Valid_z (h : Ze w q) (x : Int) : Calls Try.prog 24 #[.pointer q, .int .i64 x] w fun e w' => e = .returned (.int .i64 0) ∧ Below w.heap.size w w' := by
  have HC := Lib.hid (content_z h)
  have HH := Lib.hid (hasBlock_z x)
  unfold zc at HC
  clear h
  go_enter Try.func24, Try.ntmps24
  go_wp2_with (first
    | ((go_at_call 38; with_reducible refine HC.out.mono ?_); rintro e w1 ⟨rfl, hb⟩; have HB := Lib.hid hb; clear hb)
    | ((go_at_call 44; with_reducible refine (HH.out _).mono ?_); rintro e w2 ⟨rfl, hb⟩; have HF := Lib.hid (HB.out.trans (((below_alloc w1 _).trans (hb.mono (by simp))).mono HB.out.size)); clear hb))
  go_ret
  exact ⟨rfl, HF.out⟩
theorem Copy_z (h : Ze w q) : Calls Try.prog 18 #[.pointer q] w fun e w' => e = .returned (.pointer none) ∧ Below w.heap.size w w' := by
  have HC := Lib.hid (missing_z h)
  clear h
  go_enter Try.func18, Try.ntmps18
  go_wp2_with (((go_at_call 31; with_reducible refine HC.out.mono ?_); rintro e w' ⟨rfl, hb⟩; have HB := Lib.hid hb; clear hb))
  go_ret
  exact ⟨rfl, HB.out⟩
theorem Apply_z (h : Ze w q) (A : Option Addr) (n c : Nat) : Calls Try.prog 14 #[.pointer q, .slice A n c] w fun e w' => e = .returned (.int .i64 1) ∧ Below w.heap.size w w' := by
  have b1 := below_alloc w (.cells #[.pointer q] 23)
  have b2 : Below w.heap.size w ((w.alloc (.cells #[.pointer q] 23)).alloc (.cells #[.int .i64 0] 24)) := b1.alloc (by simp) _
  have HC := Lib.hid (missing_z (h.below b2))
  have HB2 := Lib.hid b2
  have x4 : Bx1 ((w.alloc (.cells #[.pointer q] 23)).alloc (.cells #[.int .i64 0] 24)) (w.heap.size + 1) 24 (.int .i64 0) := by
    have := heap_alloc_new (w.alloc (.cells #[.pointer q] 23)) (.cells #[.int .i64 0] 24)
    rwa [World.size_alloc] at this
  have HX := Lib.hid x4
  clear h b1 b2 x4
  go_enter_defers Try.func14, Try.ntmps14
  go_wp2_with (((go_at_call 31; with_reducible refine HC.out.mono ?_); rintro e w1 ⟨rfl, hb⟩; have HB := Lib.hid (HB2.out.trans (hb.mono HB2.out.size)); have x4 := HX.out.below hb; have c4 := x4.cell; have f4 := x4.free; have HX1 := Lib.hid x4; clear hb x4))
  exact end_apply (q := w.heap.size + 1) (x := .int .i64 1) (heap_setCell_same w1 _ 0 _ 24 _ HX1.out) rfl rfl ⟨rfl, HB.out.setCell (by show w.heap.size ≤ w.heap.size + 1; omega) _⟩
theorem cSorted_nil (W : World) : CallsIn Fence.wide 7 Try.prog 51 #[.func (.func 57) #[] #[.pointer (some ⟨W.heap.size, 0, none⟩)]] (W.alloc (.cells #[.map none] 53)) fun e w' =>
    e = .returned (.slice none 0 0) ∧ Below (W.heap.size + 1) (W.alloc (.cells #[.map none] 53)) w' := by
  have hseq : SeqGives Fence.wide 4 Try.prog 57 #[.pointer (some ⟨W.heap.size, 0, none⟩)] encZ (fun ss : List Int => ss = []) 0 (W.alloc (.cells #[.map none] 53)) :=
    AnyZI.keys_gives_nil (ρ := keysA_ren) { keysA with } Fence.wide _ trivial rfl W.heap.size _ (by simp) (by simp)
  have cS := AnyZI.sorted_in sortedA Fence.wide 7 trivial trivial trivial trivial rfl (by omega) (sortsA _) (enters_of Try.func56 (by kernel_rfl) rfl) 57 #[.pointer (some ⟨W.heap.size, 0, none⟩)] trivial (enters_of Try.func57 (by kernel_rfl) rfl) _ 0 (Nat.zero_le _) (by omega) _ hseq
  change CallsIn _ _ Try.prog 51 _ _ _ at cS
  refine cS.mono ?_
  rintro e w' ⟨v, ss, rfl, rfl, hrow, hnil, hb⟩
  rw [World.size_alloc] at hb
  exact ⟨by rw [hnil.2 rfl], hb⟩
theorem sortedKeys_z (w : World) : Calls Try.prog 40 #[.map none] w fun e w' => e = .returned (.slice none 0 0) ∧ Below w.heap.size w w' := by
  refine (callsIn_wide (n := 8)).1 ?_
  have HSO := Lib.hid (cSorted_nil w)
  have f52 : Fence.wide.fn 52 := trivial
  have f51 : Fence.wide.fn 51 := trivial
  refine callsIn_of_wp Try.func40 rfl trivial ?_ rfl
  simp only [Try.ntmps40, List.size_toArray, List.length_cons, List.length_nil, Nat.reduceAdd, Nat.reduceSub, Array.replicate_succ, Array.replicate_zero, List.push_toArray, List.append_toArray, List.nil_append, List.cons_append]
  gi_wp2_with (first
    | (gi_at_call 52; refine (cKeys _ _).mono ?_; rintro e w' ⟨rfl, rfl⟩)
    | ((gi_at_call 51; with_reducible refine HSO.out.mono ?_); rintro e w5 ⟨rfl, hb⟩; have HB := Lib.hid hb; clear hb))
  go_ret
  exact ⟨rfl, (below_alloc w _).trans (HB.out.mono (by omega))⟩
theorem inOrder_z (w : World) : Calls Try.prog 39 #[.slice none 0 0, .map none] w (SeqP w []) :=
  inOrder_any (ks := []) (f := fun _ => none) ⟨none, 0, rfl, Nat.le_refl _, fun h => absurd h (by simp)⟩ (by simp) (by simp) (fun W _ q hq => look_nil_map W hq)
theorem pagesOf_z (x : Int) (w : World) : Calls Try.prog 41 #[.agg #[.int .i64 0, .int .i64 0, .int .i64 0], .int .i64 x] w fun e w' => e = .returned (.slice none 0 0) ∧ Below w.heap.size w w' := by
  have HH := Lib.hid (hasBlock_z x)
  go_enter Try.func41, Try.ntmps41
  go_wp2_with ((go_at_call 44; with_reducible refine (HH.out _).mono ?_); rintro e w1 ⟨rfl, hb1⟩; have HB1 := Lib.hid ((below_alloc w _).trans (hb1.mono (by simp))); clear hb1)
  go_ret
  exact ⟨rfl, HB1.out⟩
theorem All_z (h : Ze w q) : Calls Try.prog 16 #[.pointer q] w (SeqP w []) := by
  have HC := Lib.hid (content_z h)
  clear h
  unfold zc at HC
  go_enter Try.func16, Try.ntmps16
  go_wp2_with ((go_at_call 38; with_reducible refine HC.out.mono ?_); rintro e w1 ⟨rfl, hb1⟩; have HB1 := Lib.hid hb1; clear hb1)
  have hbw : Below w.heap.size w (w1.alloc (.cells #[.int .i64 0, .int .i64 0, .int .i64 0, .map none, .map none, .slice none 0 0] 56)) := HB1.out.alloc HB1.out.size _
  have hrow := heap_alloc_new w1 (.cells #[.int .i64 0, .int .i64 0, .int .i64 0, .map none, .map none, .slice none 0 0] 56)
  have HW := Lib.hid hbw
  have HROW := Lib.hid hrow
  clear hbw hrow HB1
  have hws : (w1.alloc (.cells #[.int .i64 0, .int .i64 0, .int .i64 0, .map none, .map none, .slice none 0 0] 56)).heap.size = w1.heap.size + 1 := by simp
  generalize w1.alloc (.cells #[.int .i64 0, .int .i64 0, .int .i64 0, .map none, .map none, .slice none 0 0] 56) = W1 at *
  have k3 : W1.cell? ⟨w1.heap.size, 3, none⟩ = some (.map none) := by rw [cell_of_row W1 w1.heap.size 3 _ _ _ HROW.out]; rfl
  have HK := Lib.hid (sortedKeys_z W1.drew)
  go_region_with (first
    | ((go_at_call 40; with_reducible refine HK.out.mono ?_); rintro e w5 ⟨rfl, hb5⟩; have HB5 := Lib.hid (show Below W1.heap.size W1 w5 from (Below.refl _ _).drew.trans hb5); have k5 : w5.cell? ⟨w1.heap.size, 3, none⟩ = some (.map none) := (HB5.out.cell (p := ⟨w1.heap.size, 3, none⟩) (by show w1.heap.size < W1.heap.size; omega)).trans k3; clear hb5)
    | ((go_at_call 39; with_reducible refine (inOrder_z _).mono ?_); rintro e w6 hsq; have HSQ := Lib.hid (hsq.later (HW.out.trans (HB5.out.mono HW.out.size))); obtain ⟨B6, v6, rfl, _⟩ := hsq))
  all_goals
    go_wp2
    go_ret
    exact HSQ.out
theorem Pages_z (h : Ze w q) (x : Int) : Calls Try.prog 17 #[.pointer q, .int .i64 x] w (SeqP w []) := by
  have HC := Lib.hid (content_z h)
  clear h
  unfold zc at HC
  go_enter Try.func17, Try.ntmps17
  go_wp2_with ((go_at_call 38; with_reducible refine HC.out.mono ?_); rintro e w1 ⟨rfl, hb1⟩; have HB1 := Lib.hid hb1; clear hb1)
  have hbw : Below w.heap.size w (w1.alloc (.cells #[.int .i64 0, .int .i64 0, .int .i64 0, .map none, .map none, .slice none 0 0] 56)) := HB1.out.alloc HB1.out.size _
  have hrow := heap_alloc_new w1 (.cells #[.int .i64 0, .int .i64 0, .int .i64 0, .map none, .map none, .slice none 0 0] 56)
  have HW := Lib.hid hbw
  have HROW := Lib.hid hrow
  clear hbw hrow HB1
  have hws : (w1.alloc (.cells #[.int .i64 0, .int .i64 0, .int .i64 0, .map none, .map none, .slice none 0 0] 56)).heap.size = w1.heap.size + 1 := by simp
  generalize w1.alloc (.cells #[.int .i64 0, .int .i64 0, .int .i64 0, .map none, .map none, .slice none 0 0] 56) = W1 at *
  have kk := fun j => cell_of_row W1 w1.heap.size j _ _ _ HROW.out
  have k0 : W1.cell? ⟨w1.heap.size, 0, none⟩ = some (.int .i64 0) := kk 0
  have k1 : W1.cell? ⟨w1.heap.size, 1, none⟩ = some (.int .i64 0) := kk 1
  have k2 : W1.cell? ⟨w1.heap.size, 2, none⟩ = some (.int .i64 0) := kk 2
  have k4 : W1.cell? ⟨w1.heap.size, 4, none⟩ = some (.map none) := kk 4
  have HK := Lib.hid (pagesOf_z x W1.drew)
  clear kk
  go_region_with (first
    | ((go_at_call 41; with_reducible refine HK.out.mono ?_); rintro e w5 ⟨rfl, hb5⟩; have HB5 := Lib.hid (show Below W1.heap.size W1 w5 from (Below.refl _ _).drew.trans hb5); have k5 : w5.cell? ⟨w1.heap.size, 4, none⟩ = some (.map none) := (HB5.out.cell (p := ⟨w1.heap.size, 4, none⟩) (by show w1.heap.size < W1.heap.size; omega)).trans k4; clear hb5)
    | ((go_at_call 39; with_reducible refine (inOrder_z _).mono ?_); rintro e w6 hsq; have HSQ := Lib.hid (hsq.later (HW.out.trans (HB5.out.mono HW.out.size))); obtain ⟨B6, v6, rfl, _⟩ := hsq))
  all_goals
    go_wp2
    go_ret
    exact HSQ.out
end
end Go.Proofs.Yteiemegkdnjpgaa
