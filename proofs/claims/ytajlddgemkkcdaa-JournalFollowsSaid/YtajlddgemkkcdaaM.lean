/- byIndex where a record has one page. Conditions stand in each theorem. -/
import Derived.Test.YtajlddgemkkcdaaLB
import Derived.Laws.EntriesVeiled
namespace Go.Proofs.Ytajlddgemkkcdaa
open Go.RowKit
set_option linter.unusedVariables false
set_option maxHeartbeats 4000000
set_option maxRecDepth 100000
attribute [local go_sem ↓ 100000] builtin_appX
theorem ins1_any (g c : Nat) (fv : Value) (w : World) : Calls Try.prog 106 #[.slice (some ⟨g, 0, none⟩) 1 c, .int .i64 0, .int .i64 1, fv] w fun e w' => e = .returned (.tuple #[]) ∧ w' = w := by
  go_enter Try.func106, Try.ntmps106
  go_wp2
  refine wp_loop_rounds 1 ?_
  rw [rounds_succ]
  go_wp2
  go_end0
  exact ⟨rfl, rfl⟩
theorem stable1_any (g c : Nat) (fv : Value) (w : World) : Calls Try.prog 95 #[.slice (some ⟨g, 0, none⟩) 1 c, .int .i64 1, fv] w fun e w' => e = .returned (.tuple #[]) ∧ w' = w := by
  go_enter Try.func95, Try.ntmps95
  go_wp2
  refine wp_loop_rounds 1 ?_
  rw [rounds_succ]
  go_wp2_with (go_at_call 106; refine (ins1_any _ _ _ _).mono ?_; rintro e w' ⟨rfl, rfl⟩)
  refine wp_loop_rounds 1 ?_
  rw [rounds_succ]
  go_wp2
  go_end0
  exact ⟨rfl, rfl⟩
theorem sort1_any (g c : Nat) (fv : Value) (w : World) : Calls Try.prog 67 #[.slice (some ⟨g, 0, none⟩) 1 c, fv] w fun e w' => e = .returned (.tuple #[]) ∧ w' = w := by
  go_enter Try.func67, Try.ntmps67
  go_wp2_with (go_at_call 95; refine (stable1_any _ _ _ _).mono ?_; rintro e w' ⟨rfl, rfl⟩)
  go_end0
  exact ⟨rfl, rfl⟩
theorem compact1_any (g c : Nat) (fv : Value) (w : World) : Calls Try.prog 69 #[.slice (some ⟨g, 0, none⟩) 1 c, fv] w fun e w' => e = .returned (.slice (some ⟨g, 0, none⟩) 1 c) ∧ w' = w := by
  go_enter Try.func69, Try.ntmps69
  go_wp2
  go_ret
  exact ⟨rfl, rfl⟩
/-- What Clone leaves of places. -/
def ClPost (w : World) (P : List Nat) (e : Ending) (w' : World) : Prop := (∃ A c, e = .returned (.slice A P.length c) ∧ w'.ownsRow w.heap.size 3 1 (.slice A P.length c) P.length (iv P)) ∧ Below w.heap.size w w'
theorem iclone_any (base g c : Nat) (P : List Nat) (w : World) (h : w.ownsRow base 3 1 (.slice (some ⟨g, 0, none⟩) P.length c) P.length (iv P)) (hl : P.length ≤ 100000) (h0 : 0 < P.length) :
    Calls Try.prog 66 #[.slice (some ⟨g, 0, none⟩) P.length c] w (ClPost w P) := by
  have hq : ∀ (w : World) (a : Option Addr) (n c n' c' : Nat), (binOp .eql 50 (.slice a n c) (.slice none n' c')).run Try.prog w = .ok (.bool a.isNone) w := fun w a n c n' c' => Lib.run_eql_slice_nil w _ _ a n c n' c' Try.underlying50
  obtain ⟨i0, hi0, hz0, hz1, hz2⟩ := info_parts8 info3
  have hr2 := own_below8 h ((Below.refl _ w).alloc (Nat.le_refl _) (.cells #[] 3))
  have hcells : ∀ j v, (iv P)[j]? = some v → (w.alloc (.cells #[] 3)).cell? ((⟨g, 0, none⟩ : Addr).add j) = some v := by
    intro j v hv
    have hj : j < P.length := by rw [← iv_length]; exact (List.getElem?_eq_some_iff.1 hv).1
    rw [add_plain, Nat.zero_add]
    have := hr2.cellAt j (by omega)
    exact this.trans hv
  obtain ⟨v', w2, hrun, hown2, hgrow, _, hloc⟩ := run_append_own_at (P := Try.prog) (w.alloc (.cells #[] 3)) w.heap.size 50 50 3 i0 _ 1 8 Try.underlying50 hi0 hz0 hz1 hz2 rfl (by decide) (.slice (some ⟨w.heap.size, 0, none⟩) 0 0) 0 [] (World.ownsRow_made w #[] 0 (Nat.le_refl _) (Nat.zero_le _) (by simp)) ⟨g, 0, none⟩ P.length c (iv P) (by rw [iv_length]; omega) hcells (iv_one _) (by unfold maxLen; omega) (by omega) (by simp)
  obtain ⟨A1, c1, rfl⟩ := own_form8 hown2
  have hfin : ClPost w P (.returned (.slice A1 P.length c1)) w2 := by
    simp only [Nat.zero_add, List.nil_append] at hown2
    exact ⟨⟨A1, c1, rfl, hown2⟩, ((Below.refl _ w).alloc (Nat.le_refl _) _).grown hgrow (by simp) (by intro k hk; simp [Value.ownBlock] at hk; omega)⟩
  have Hrun := Lib.hid (appX_run hrun)
  have HF := Lib.hid hfin
  clear hr2 hrun hown2 hgrow hloc hfin h hcells
  rw [Nat.zero_add] at Hrun
  have hrun := Hrun.out
  clear Hrun
  go_enter Try.func66, Try.ntmps66
  go_wp2
  go_ret
  exact HF.out
def ClPost1 (w : World) (p : Nat) (e : Ending) (w' : World) : Prop := (∃ g c, e = .returned (.slice (some ⟨g, 0, none⟩) 1 c) ∧ w'.ownsRow w.heap.size 3 1 (.slice (some ⟨g, 0, none⟩) 1 c) 1 (iv [p])) ∧ Below w.heap.size w w'
theorem iclone1_any (base g c : Nat) (p : Nat) (w : World) (h : w.ownsRow base 3 1 (.slice (some ⟨g, 0, none⟩) 1 c) 1 (iv [p])) : Calls Try.prog 66 #[.slice (some ⟨g, 0, none⟩) 1 c] w (ClPost1 w p) := by
  refine (show Calls Try.prog 66 #[.slice (some ⟨g, 0, none⟩) 1 c] w (ClPost w [p]) from iclone_any base g c [p] w h (by simp) (by simp)).mono ?_
  rintro e w' ⟨⟨A1, c1, rfl, ho⟩, hb1⟩
  obtain ⟨g1, rfl⟩ : ∃ g1, A1 = some ⟨g1, 0, none⟩ := by
    rcases ho.2 with ⟨_, h0⟩ | ⟨g, cap, cur, e1, _⟩
    · cases h0
    · injection e1 with e1 _ _; exact ⟨g, e1⟩
  exact ⟨⟨g1, c1, rfl, ho⟩, hb1⟩
theorem by1_any (base : Nat) (u v : Value) (p : Nat) (w : World) (h : w.ownsRow base 3 1 u 1 (iv [p])) (A : Option Addr) (n c : Nat) (hv : v = .slice A n c) :
    Calls Try.prog 52 #[u, v] w (BiPost w [p]) := by
  subst hv
  obtain ⟨gu, cu, rfl⟩ : ∃ gu cu, u = .slice (some ⟨gu, 0, none⟩) 1 cu := by
    rcases h.2 with ⟨_, h0⟩ | ⟨g, cap, cur, e1, _⟩
    · cases h0
    · exact ⟨g, cap, e1⟩
  have HC := Lib.hid (fun (W : World) (hb : Below w.heap.size w W) => iclone1_any base gu cu p W (own_below8 h hb))
  clear h
  go_enter Try.func52, Try.ntmps52
  go_wp2_with (first
    | ((go_at_call 66; with_reducible refine (HC.out _ (((Below.refl _ w).alloc (Nat.le_refl _) _).alloc (by simp) _)).mono ?_); rintro e w1 ⟨⟨g1, c1, rfl, ho⟩, hb1⟩; have HO := Lib.hid ho; have HB1 := Lib.hid hb1; clear ho hb1)
    | ((go_at_call 67; with_reducible refine (sort1_any _ _ _ _).mono ?_); rintro e w' ⟨rfl, rfl⟩)
    | ((go_at_call 69; with_reducible refine (compact1_any _ _ _ _).mono ?_); rintro e w' ⟨rfl, rfl⟩))
  go_ret
  exact ⟨⟨_, _, rfl, Pls.of_own HO.out⟩, (((Below.refl _ w).alloc (Nat.le_refl _) _).alloc (by simp) _).trans (HB1.out.mono (by simp; omega))⟩
end Go.Proofs.Ytajlddgemkkcdaa
