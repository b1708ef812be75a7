/- The walk of MappingCopies. No condition. -/
import Derived.Test.YteiemegkdnjpgaaYE
import Derived.Lib.MinMax
namespace Go.Proofs.Yteiemegkdnjpgaa
open Go.RowKit Go.Shelf
set_option linter.unusedVariables false
set_option maxHeartbeats 40000000
set_option maxRecDepth 100000
theorem lol_two {W : World} {T : Nat} {u0 u1 : Value} {l0 l1 : List (Int × Int)} (ht : W.heap[T]? = some (.cells #[u0, u1] 39 (0, 0))) (h0 : Ent W u0 l0) (h1 : Ent W u1 l1) : Lol W (.slice (some ⟨T, 0, none⟩) 2 2) [l0, l1] :=
  ⟨some ⟨T, 0, none⟩, 2, rfl, fun _ => ⟨T, 0, rfl, (Array.getElem?_eq_some_iff.1 ht).1, fun j hj => by
    have hj2 : j = 0 ∨ j = 1 := by simp at hj; omega
    rcases hj2 with rfl | rfl
    · exact ⟨u0, by rw [cell_of_row W T _ _ _ _ ht]; rfl, h0⟩
    · exact ⟨u1, by rw [cell_of_row W T _ _ _ _ ht]; rfl, h1⟩⟩⟩
theorem copies_early (a0 a1 a2 : Int) (v : Value) (ls : List (List (Int × Int))) (u0 u1 : Value) (l0 l1 : List (Int × Int)) (a5 a6 : Int) (w : World) (h : Lol w v ls) (hu0 : Ent w u0 l0) (hu1 : Ent w u1 l1)
    (hx : 30 < a0 ∨ 8 < a1 ∨ 8 < a2 ∨ fewB ls 20 = false ∨ fewB [l0, l1] 2 = false ∨ valB a0 a1 a2 = false) : Calls Try.prog 4 #[.int .i64 a0, .int .i64 a1, .int .i64 a2, v, .agg #[u0, u1], .int .i64 a5, .int .i64 a6] w (OkB w) := by
  have b0 := below_alloc w (.cells #[u0, u1] 39)
  have HB0 := Lib.hid b0
  have HW := Lib.hid (fun W => works_any W)
  have HF1 := Lib.hid (few_any v ls 20 _ (h.below b0) (by omega))
  have HF2 := Lib.hid (few_any _ [l0, l1] 2 _ (lol_two (heap_alloc_new w (.cells #[u0, u1] 39)) (hu0.below b0) (hu1.below b0)) (by omega))
  obtain ⟨A, c, rfl, -⟩ := h
  obtain ⟨A4, c4, rfl, -⟩ := hu0.form
  obtain ⟨A5, c5, rfl, -⟩ := hu1.form
  clear b0 hu0 hu1
  by_cases hs : 30 < a0
  · skip
    go_enter Try.func4, Try.ntmps4
    go_wp2_with (first
      | ((go_at_call 11; with_reducible refine HF1.out.mono ?_); rintro e w' ⟨rfl, rfl⟩)
      | ((go_at_call 11; with_reducible refine HF2.out.mono ?_); rintro e w' ⟨rfl, rfl⟩)
      | ((go_at_call 12; with_reducible refine (HW.out _).mono ?_); rintro e w9 hb9; have HB9 := Lib.hid (ok_then HB0.out hb9); obtain ⟨rfl, -⟩ := hb9))
    go_ret
    exact HB9.out
  by_cases hbk : 8 < a1
  · skip
    go_enter Try.func4, Try.ntmps4
    go_wp2_with (first
      | ((go_at_call 11; with_reducible refine HF1.out.mono ?_); rintro e w' ⟨rfl, rfl⟩)
      | ((go_at_call 11; with_reducible refine HF2.out.mono ?_); rintro e w' ⟨rfl, rfl⟩)
      | ((go_at_call 12; with_reducible refine (HW.out _).mono ?_); rintro e w9 hb9; have HB9 := Lib.hid (ok_then HB0.out hb9); obtain ⟨rfl, -⟩ := hb9))
    go_ret
    exact HB9.out
  by_cases hpg : 8 < a2
  · skip
    go_enter Try.func4, Try.ntmps4
    go_wp2_with (first
      | ((go_at_call 11; with_reducible refine HF1.out.mono ?_); rintro e w' ⟨rfl, rfl⟩)
      | ((go_at_call 11; with_reducible refine HF2.out.mono ?_); rintro e w' ⟨rfl, rfl⟩)
      | ((go_at_call 12; with_reducible refine (HW.out _).mono ?_); rintro e w9 hb9; have HB9 := Lib.hid (ok_then HB0.out hb9); obtain ⟨rfl, -⟩ := hb9))
    go_ret
    exact HB9.out
  cases hf : fewB ls 20
  · rw [hf] at HF1
    clear hf
    go_enter Try.func4, Try.ntmps4
    go_wp2_with (first
      | ((go_at_call 11; with_reducible refine HF1.out.mono ?_); rintro e w' ⟨rfl, rfl⟩)
      | ((go_at_call 11; with_reducible refine HF2.out.mono ?_); rintro e w' ⟨rfl, rfl⟩)
      | ((go_at_call 12; with_reducible refine (HW.out _).mono ?_); rintro e w9 hb9; have HB9 := Lib.hid (ok_then HB0.out hb9); obtain ⟨rfl, -⟩ := hb9))
    go_ret
    exact HB9.out
  cases hf2 : fewB [l0, l1] 2
  · rw [hf] at HF1
    rw [hf2] at HF2
    clear hf hf2
    go_enter Try.func4, Try.ntmps4
    go_wp2_with (first
      | ((go_at_call 11; with_reducible refine HF1.out.mono ?_); rintro e w' ⟨rfl, rfl⟩)
      | ((go_at_call 11; with_reducible refine HF2.out.mono ?_); rintro e w' ⟨rfl, rfl⟩)
      | ((go_at_call 12; with_reducible refine (HW.out _).mono ?_); rintro e w9 hb9; have HB9 := Lib.hid (ok_then HB0.out hb9); obtain ⟨rfl, -⟩ := hb9))
    go_ret
    exact HB9.out
  rw [hf] at HF1
  rw [hf2] at HF2
  have hv : valB a0 a1 a2 = false := by
    rcases hx with h | h | h | h | h | h
    · exact absurd h hs
    · exact absurd h hbk
    · exact absurd h hpg
    · rw [hf] at h; cases h
    · rw [hf2] at h; cases h
    · exact h
  have HN := Lib.hid (New_bad a0 a1 a2 (w.alloc (.cells #[.slice A4 l0.length c4, .slice A5 l1.length c5] 39)) hv)
  have HRN := Lib.hid (fun W : World => (show Calls Try.prog 9 #[.int .i64 a0, .int .i64 a1, .int .i64 a2] W fun e w' => e = .returned (.tuple #[.agg #[.int .i64 0, .int .i64 0, .int .i64 0, .slice none 0 0], .int .i64 2]) ∧ Below W.heap.size W w' from rnew_bad W hv))
  clear hv hx hf hf2
  go_enter Try.func4, Try.ntmps4
  go_wp2_with (first
    | ((go_at_call 11; with_reducible refine HF1.out.mono ?_); rintro e w' ⟨rfl, rfl⟩)
    | ((go_at_call 11; with_reducible refine HF2.out.mono ?_); rintro e w' ⟨rfl, rfl⟩)
    | ((go_at_call 8; with_reducible refine HN.out.mono ?_); rintro e w2 ⟨rfl, hb⟩; have HB2 := Lib.hid (HB0.out.trans (hb.mono HB0.out.size)); clear hb)
    | ((go_at_call 9; with_reducible refine (HRN.out w2).mono ?_); rintro e w3 ⟨rfl, hb⟩; have HB3 := Lib.hid (HB2.out.trans ((hb.trans ((below_alloc w3 (.cells #[.int .i64 0, .int .i64 0, .int .i64 0, .slice none 0 0] 29)).mono hb.size)).mono HB2.out.size)); clear hb)
    | ((go_at_call 10; with_reducible refine (num_any _ _).mono ?_); rintro e w' ⟨rfl, rfl⟩)
    | ((go_at_call 12; with_reducible refine (HW.out _).mono ?_); rintro e w9 hb9; have HB9 := Lib.hid (ok_then HB3.out hb9); obtain ⟨rfl, -⟩ := hb9))
  go_ret
  exact HB9.out
end Go.Proofs.Yteiemegkdnjpgaa
