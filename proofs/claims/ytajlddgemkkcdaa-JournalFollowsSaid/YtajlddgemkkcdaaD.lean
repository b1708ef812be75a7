/- The contracts of areValid, and of the functions of the library that it calls. Conditions stand in each theorem. -/
import Derived.Test.YtajlddgemkkcdaaC
namespace Go.Proofs.Ytajlddgemkkcdaa
open Go.RowKit
set_option linter.unusedVariables false
set_option maxHeartbeats 4000000
set_option maxRecDepth 100000
theorem notValid_any (p : Int × Int) (w : World) : Calls Try.prog 44 #[.agg #[.int .i64 p.1, .int .i64 p.2]] w (Ret w (.bool (!vldB p))) := by
  have H := Lib.hid (fun W => isValid_any p W)
  obtain ⟨b, hb⟩ : ∃ b, vldB p = b := ⟨_, rfl⟩
  rw [hb] at H ⊢
  clear hb
  go_enter Try.func44, Try.ntmps44
  go_wp2_with ((go_at_call 45; with_reducible refine (H.out _).mono ?_); rintro e w' ⟨rfl, hg⟩; have HG := Lib.hid hg; clear hg)
  go_ret
  exact ⟨rfl, ((Gr.refl _).alloc _).trans HG.out⟩
def IdxPost (w : World) (l : List (Int × Int)) (e : Ending) (w' : World) : Prop := (∃ r : Int, e = .returned (.int .i64 r) ∧ decide (0 ≤ r) = !allB l) ∧ Gr w w'
theorem index_any (v : Value) (l : List (Int × Int)) (w : World) (h : Ent w v l) (hm : l.length ≤ 1000000) : Calls Try.prog 61 #[v, .func (.func 44) #[] #[]] w (IdxPost w l) := by
  obtain ⟨A, c, rfl, hc, hr⟩ := h
  have HR := Lib.hid hr
  have HY : Hid ((∀ j (hj : j < l.length), vldB l[j] = true) → allB l = true) := Lib.hid allB_yes
  have HN : Hid (∀ j (hj : j < l.length), vldB l[j] = false → allB l = false) := Lib.hid (fun j hj h => allB_no hj h)
  clear hr
  have hli : (l.length : Int) ≤ 1000000 := by omega
  go_enter Try.func61, Try.ntmps61
  go_wp2
  go_loopw [8] (fun i wr => ∃ k : Nat, k ≤ l.length ∧ i = .int .i64 k ∧ Hid (∀ j (hj : j < l.length), j < k → vldB l[j] = true) ∧ Hid (Gr w wr)) (fun i _ => l.length - (RowKit.intOf i).toNat)
  case atStart => exact ⟨0, Nat.zero_le _, rfl, Lib.hid (fun j hj h => absurd h (by omega)), Gr.refl _⟩
  case round =>
    obtain ⟨k, hk, rfl, HA, HB⟩ := hrel
    by_cases hlt : k < l.length
    · obtain ⟨g, o, rfl, hg, hcell⟩ := HR.out (by omega)
      have c1 := HB.out.cell (hcell k hlt).1
      have c2 := HB.out.cell (hcell k hlt).2
      have HNX : Hid (vldB l[k] = true → ∀ j (hj : j < l.length), j < k + 1 → vldB l[j] = true) := Lib.hid (fun e j hj h => by
        rcases Nat.lt_or_ge j k with h1 | h1
        · exact HA.out j hj h1
        · have : j = k := by omega
          subst this
          exact e)
      have HNO := Lib.hid (HN.out k hlt)
      have HC := Lib.hid (notValid_any l[k] wr)
      obtain ⟨x, hx⟩ : ∃ x, x = l[k] := ⟨_, rfl⟩
      rw [← hx] at c1 c2 HNX HNO HC
      clear hx hcell
      cases hv : vldB x
      · rw [hv] at HC
        have HF := Lib.hid (HNO.out hv)
        clear hv
        go_wp2_with ((go_at_call 44; with_reducible refine HC.out.mono ?_); rintro e w1 ⟨rfl, hg⟩; have HG := Lib.hid hg; clear hg)
        go_ret
        exact ⟨⟨k, rfl, by rw [HF.out]; simp⟩, HB.out.trans HG.out⟩
      · rw [hv] at HC
        have HX := Lib.hid (HNX.out hv)
        clear hv
        go_wp2_with ((go_at_call 44; with_reducible refine HC.out.mono ?_); rintro e w1 ⟨rfl, hg⟩; have HG := Lib.hid hg; clear hg)
        go_roundw
        case rel => exact ⟨k + 1, by omega, by go_num, HX, Lib.hid (HB.out.trans HG.out)⟩
        case measure => simp [RowKit.intOf]; omega
    · go_wp2
      go_ret
      exact ⟨⟨-1, rfl, by rw [HY.out (fun j hj => HA.out j hj (by omega))]; rfl⟩, HB.out⟩
theorem contains_any (v : Value) (l : List (Int × Int)) (w : World) (h : Ent w v l) (hm : l.length ≤ 1000000) : Calls Try.prog 43 #[v, .func (.func 44) #[] #[]] w (Ret w (.bool (!allB l))) := by
  have HI := Lib.hid (index_any v l w h hm)
  clear h
  go_enter Try.func43, Try.ntmps43
  go_wp2_with ((go_at_call 61; with_reducible refine HI.out.mono ?_); rintro e w1 ⟨⟨r, rfl, hr⟩, hb⟩; have HB := Lib.hid hb; have HR := Lib.hid hr; clear hb hr)
  go_ret
  exact ⟨by rw [← HR.out]; rfl, HB.out⟩
theorem areValid_any (v : Value) (l : List (Int × Int)) (w : World) (h : Ent w v l) (hm : l.length ≤ 1000000) : Calls Try.prog 23 #[v] w (Ret w (.bool (allB l))) := by
  have HI := Lib.hid (contains_any v l w h hm)
  obtain ⟨b, hb⟩ : ∃ b, allB l = b := ⟨_, rfl⟩
  rw [hb] at HI ⊢
  clear h hb
  cases b
  all_goals
    go_enter Try.func23, Try.ntmps23
    go_wp2_with ((go_at_call 43; with_reducible refine HI.out.mono ?_); rintro e w1 ⟨rfl, hg⟩; have HG := Lib.hid hg; clear hg)
    go_ret
    exact ⟨rfl, HG.out⟩
end Go.Proofs.Ytajlddgemkkcdaa
