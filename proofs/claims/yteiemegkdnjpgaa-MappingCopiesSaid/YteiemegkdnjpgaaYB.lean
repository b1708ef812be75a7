/- The walk of MappingPlays. No condition. -/
import Derived.Test.YteiemegkdnjpgaaYU
import Derived.Test.YteiemegkdnjpgaaYW
import Derived.Deep.DeepCutAuto
namespace Go.Proofs.Yteiemegkdnjpgaa
open Go.RowKit Go.Shelf
set_option linter.unusedVariables false
set_option maxHeartbeats 16000000
set_option maxRecDepth 100000
/-- The blocks of a mapping, its own one among them. -/
def Fs (bb m1 m2 g : Nat) (k : Nat) : Prop := k = bb ∨ Ft m1 m2 g k
theorem ws_put {w W : World} {bb m1 m2 g cap s b p X : Nat} {L : List (Int × Int)} (h : WS w bb m1 m2 g cap s b p L W) (hX : ¬ Fs bb m1 m2 g X) (hw : w.heap.size ≤ X) (x0 x1 x2 x3 : Value) : WS w bb m1 m2 g cap s b p L ((((W.setCell ⟨X, 0, none⟩ x0).setCell ⟨X, 1, none⟩ x1).setCell ⟨X, 2, none⟩ x2).setCell ⟨X, 3, none⟩ x3) :=
  ⟨h.1.chg (chgr W X x0 x1 x2 x3) (fun e => hX (.inl e.symm)) (fun k hk e => hX (.inr (by rw [← e]; exact hk))), h.2.trans ((chgr W X x0 x1 x2 x3).below h.2.size (fun i hi => by omega))⟩
theorem fs_lt {w W : World} {bb m1 m2 g cap s b p : Nat} {L : List (Int × Int)} (h : WS w bb m1 m2 g cap s b p L W) : ∀ k, Fs bb m1 m2 g k → k < W.heap.size := fun k hk => by
  rcases hk with rfl | hk
  · exact h.1.lt
  · exact h.1.ft_lt hk
theorem ws_play {w W : World} {bb m1 m2 g cap s b p X : Nat} {u : Value} {L L' : List (Int × Int)} (h : WS w bb m1 m2 g cap s b p L W) (hr : Rf X s b p (Fs bb m1 m2 g) u L' W) {v : Value} {xs : List (Int × Int)} (hv : Ent w v xs) (hl : xs.length ≤ 4096) (hR : Rng xs) : Calls Try.prog 14 #[.pointer (some ⟨bb, 0, none⟩), v] W fun e w' => e = .returned (.int .i64 (appE s b p L xs)) ∧ WS w bb m1 m2 g cap s b p (appS s b p L L xs) w' ∧ Rf X s b p (Fs bb m1 m2 g) u L' w' :=
  (Apply_any h.1 (hv.below h.2) (fun h0 k hk hf => by have := old_own hv h0 hk; have := h.1.ft_ge hf; omega) hl hR).mono fun e w' ⟨a1, a2, a3⟩ => ⟨a1, h.mv a2 a3, hr.chg (a3.mono fun i hi => .inr hi)⟩
theorem plays_any (a0 a1 a2 : Int) (v : Value) (ls : List (List (Int × Int))) (w : World) (h : Lol w v ls) (hR : ∀ l ∈ ls, Rng l) : Calls Try.prog 3 #[.int .i64 a0, .int .i64 a1, .int .i64 a2, v] w (OkB w) := by
  have HW := Lib.hid (fun W => works_any W)
  have HFW := Lib.hid (fun W (hW : Lol W v ls) => few_any v ls 30 W hW (by omega))
  have HLL := Lib.hid (fun (W : World) (hW : Below w.heap.size w W) => h.below hW)
  have HR := Lib.hid hR
  obtain ⟨A, c, rfl, hr⟩ := h
  have HL := Lib.hid hr
  clear hr hR
  cases hv : valB a0 a1 a2
  · have HN := Lib.hid (New_bad a0 a1 a2 w hv)
    have HRN := Lib.hid (fun W : World => (show Calls Try.prog 9 #[.int .i64 a0, .int .i64 a1, .int .i64 a2] W fun e w' => e = .returned (.tuple #[.agg #[.int .i64 0, .int .i64 0, .int .i64 0, .slice none 0 0], .int .i64 2]) ∧ Below W.heap.size W w' from rnew_bad W hv))
    clear hv
    by_cases hs : 30 < a0
    · skip
      go_enter Try.func3, Try.ntmps3
      go_wp2_with (first
        | ((go_at_call 8; with_reducible refine HN.out.mono ?_); rintro e w0 ⟨rfl, hb⟩; have HB0 := Lib.hid hb; clear hb)
        | ((go_at_call 9; with_reducible refine (HRN.out w0).mono ?_); rintro e w1 ⟨rfl, hb⟩; have HB1 := Lib.hid (HB0.out.trans ((hb.trans ((below_alloc w1 (.cells #[.int .i64 0, .int .i64 0, .int .i64 0, .slice none 0 0] 29)).mono hb.size)).mono HB0.out.size)); clear hb)
        | ((go_at_call 10; with_reducible refine (num_any _ _).mono ?_); rintro e w' ⟨rfl, rfl⟩)
        | ((go_at_call 11; with_reducible refine (HFW.out _ (HLL.out _ HB1.out)).mono ?_); rintro e w' ⟨rfl, rfl⟩)
        | ((go_at_call 12; with_reducible refine (HW.out _).mono ?_); rintro e w9 hb9; have HB9 := Lib.hid (ok_then HB1.out hb9); obtain ⟨rfl, -⟩ := hb9))
      go_ret
      exact HB9.out
    by_cases hbk : 8 < a1
    · skip
      go_enter Try.func3, Try.ntmps3
      go_wp2_with (first
        | ((go_at_call 8; with_reducible refine HN.out.mono ?_); rintro e w0 ⟨rfl, hb⟩; have HB0 := Lib.hid hb; clear hb)
        | ((go_at_call 9; with_reducible refine (HRN.out w0).mono ?_); rintro e w1 ⟨rfl, hb⟩; have HB1 := Lib.hid (HB0.out.trans ((hb.trans ((below_alloc w1 (.cells #[.int .i64 0, .int .i64 0, .int .i64 0, .slice none 0 0] 29)).mono hb.size)).mono HB0.out.size)); clear hb)
        | ((go_at_call 10; with_reducible refine (num_any _ _).mono ?_); rintro e w' ⟨rfl, rfl⟩)
        | ((go_at_call 11; with_reducible refine (HFW.out _ (HLL.out _ HB1.out)).mono ?_); rintro e w' ⟨rfl, rfl⟩)
        | ((go_at_call 12; with_reducible refine (HW.out _).mono ?_); rintro e w9 hb9; have HB9 := Lib.hid (ok_then HB1.out hb9); obtain ⟨rfl, -⟩ := hb9))
      go_ret
      exact HB9.out
    by_cases hpg : 8 < a2
    · skip
      go_enter Try.func3, Try.ntmps3
      go_wp2_with (first
        | ((go_at_call 8; with_reducible refine HN.out.mono ?_); rintro e w0 ⟨rfl, hb⟩; have HB0 := Lib.hid hb; clear hb)
        | ((go_at_call 9; with_reducible refine (HRN.out w0).mono ?_); rintro e w1 ⟨rfl, hb⟩; have HB1 := Lib.hid (HB0.out.trans ((hb.trans ((below_alloc w1 (.cells #[.int .i64 0, .int .i64 0, .int .i64 0, .slice none 0 0] 29)).mono hb.size)).mono HB0.out.size)); clear hb)
        | ((go_at_call 10; with_reducible refine (num_any _ _).mono ?_); rintro e w' ⟨rfl, rfl⟩)
        | ((go_at_call 11; with_reducible refine (HFW.out _ (HLL.out _ HB1.out)).mono ?_); rintro e w' ⟨rfl, rfl⟩)
        | ((go_at_call 12; with_reducible refine (HW.out _).mono ?_); rintro e w9 hb9; have HB9 := Lib.hid (ok_then HB1.out hb9); obtain ⟨rfl, -⟩ := hb9))
      go_ret
      exact HB9.out
    cases hf : fewB ls 30
    · rw [hf] at HFW
      clear hf
      go_enter Try.func3, Try.ntmps3
      go_wp2_with (first
        | ((go_at_call 8; with_reducible refine HN.out.mono ?_); rintro e w0 ⟨rfl, hb⟩; have HB0 := Lib.hid hb; clear hb)
        | ((go_at_call 9; with_reducible refine (HRN.out w0).mono ?_); rintro e w1 ⟨rfl, hb⟩; have HB1 := Lib.hid (HB0.out.trans ((hb.trans ((below_alloc w1 (.cells #[.int .i64 0, .int .i64 0, .int .i64 0, .slice none 0 0] 29)).mono hb.size)).mono HB0.out.size)); clear hb)
        | ((go_at_call 10; with_reducible refine (num_any _ _).mono ?_); rintro e w' ⟨rfl, rfl⟩)
        | ((go_at_call 11; with_reducible refine (HFW.out _ (HLL.out _ HB1.out)).mono ?_); rintro e w' ⟨rfl, rfl⟩)
        | ((go_at_call 12; with_reducible refine (HW.out _).mono ?_); rintro e w9 hb9; have HB9 := Lib.hid (ok_then HB1.out hb9); obtain ⟨rfl, -⟩ := hb9))
      go_ret
      exact HB9.out
    rw [hf] at HFW
    clear hf
    go_enter Try.func3, Try.ntmps3
    go_wp2_with (first
      | ((go_at_call 8; with_reducible refine HN.out.mono ?_); rintro e w0 ⟨rfl, hb⟩; have HB0 := Lib.hid hb; clear hb)
      | ((go_at_call 9; with_reducible refine (HRN.out w0).mono ?_); rintro e w1 ⟨rfl, hb⟩; have HB1 := Lib.hid (HB0.out.trans ((hb.trans ((below_alloc w1 (.cells #[.int .i64 0, .int .i64 0, .int .i64 0, .slice none 0 0] 29)).mono hb.size)).mono HB0.out.size)); clear hb)
      | ((go_at_call 10; with_reducible refine (num_any _ _).mono ?_); rintro e w' ⟨rfl, rfl⟩)
      | ((go_at_call 11; with_reducible refine (HFW.out _ (HLL.out _ HB1.out)).mono ?_); rintro e w' ⟨rfl, rfl⟩))
    go_loopw [13] (fun i wr => i = .int .i64 0 ∧ wr = wr ∧ Hid (Below w.heap.size w wr)) (fun _ _ => 0)
    case atStart => exact ⟨rfl, rfl, HB1⟩
    case round =>
      obtain ⟨rfl, -, HBR⟩ := hrel
      by_cases h0 : 0 < ls.length
      · have h1 : (0 : Int) < (ls.length : Int) := by omega
        go_wp2_with (first
          | ((go_at_call 12; with_reducible refine (HW.out _).mono ?_); rintro e w9 hb9; have HB9 := Lib.hid (ok_then HBR.out hb9); obtain ⟨rfl, -⟩ := hb9))
        go_ret
        exact HB9.out
      · have h1 : ¬ (0 : Int) < (ls.length : Int) := by omega
        go_wp2_with (first
          | ((go_at_call 12; with_reducible refine (HW.out _).mono ?_); rintro e w9 hb9; have HB9 := Lib.hid (ok_then HBR.out hb9); obtain ⟨rfl, -⟩ := hb9))
        go_ret
        exact HB9.out
  · obtain ⟨s, b, p, rfl, rfl, rfl, hF⟩ := valB_nat hv
    have HN := Lib.hid (new_ws (w := w) (Below.refl _ _) hF)
    have HRN := Lib.hid (fun W : World => (show Calls Try.prog 9 #[.int .i64 (s : Int), .int .i64 (b : Int), .int .i64 (p : Int)] W fun e w' => e = .returned (.tuple #[.agg #[.int .i64 (s : Int), .int .i64 (b : Int), .int .i64 (p : Int), .slice none 0 0], .int .i64 0]) ∧ Below W.heap.size W w' from rnew_ok W hv))
    have HF := Lib.hid hF
    clear hv hF
    by_cases hs : 30 < (s : Int)
    · skip
      go_enter Try.func3, Try.ntmps3
      go_wp2_with (first
        | ((go_at_call 8; with_reducible refine HN.out.mono ?_); rintro e w0 ⟨bb, m1, m2, g, cap, rfl, hS⟩; have S0 := Lib.hid hS; clear hS)
        | ((go_at_call 9; with_reducible refine (HRN.out w0).mono ?_); rintro e w1 ⟨rfl, hb⟩; have HB1 := Lib.hid (S0.out.2.trans ((hb.trans ((below_alloc w1 (.cells #[.int .i64 (s : Int), .int .i64 (b : Int), .int .i64 (p : Int), .slice none 0 0] 29)).mono hb.size)).mono S0.out.2.size)); have HBW := Lib.hid hb; clear hb)
        | ((go_at_call 10; with_reducible refine (num_any _ _).mono ?_); rintro e w' ⟨rfl, rfl⟩)
        | ((go_at_call 11; with_reducible refine (HFW.out _ (HLL.out _ HB1.out)).mono ?_); rintro e w' ⟨rfl, rfl⟩)
        | ((go_at_call 12; with_reducible refine (HW.out _).mono ?_); rintro e w9 hb9; have HB9 := Lib.hid (ok_then HB1.out hb9); obtain ⟨rfl, -⟩ := hb9))
      go_ret
      exact HB9.out
    by_cases hbk : 8 < (b : Int)
    · skip
      go_enter Try.func3, Try.ntmps3
      go_wp2_with (first
        | ((go_at_call 8; with_reducible refine HN.out.mono ?_); rintro e w0 ⟨bb, m1, m2, g, cap, rfl, hS⟩; have S0 := Lib.hid hS; clear hS)
        | ((go_at_call 9; with_reducible refine (HRN.out w0).mono ?_); rintro e w1 ⟨rfl, hb⟩; have HB1 := Lib.hid (S0.out.2.trans ((hb.trans ((below_alloc w1 (.cells #[.int .i64 (s : Int), .int .i64 (b : Int), .int .i64 (p : Int), .slice none 0 0] 29)).mono hb.size)).mono S0.out.2.size)); have HBW := Lib.hid hb; clear hb)
        | ((go_at_call 10; with_reducible refine (num_any _ _).mono ?_); rintro e w' ⟨rfl, rfl⟩)
        | ((go_at_call 11; with_reducible refine (HFW.out _ (HLL.out _ HB1.out)).mono ?_); rintro e w' ⟨rfl, rfl⟩)
        | ((go_at_call 12; with_reducible refine (HW.out _).mono ?_); rintro e w9 hb9; have HB9 := Lib.hid (ok_then HB1.out hb9); obtain ⟨rfl, -⟩ := hb9))
      go_ret
      exact HB9.out
    by_cases hpg : 8 < (p : Int)
    · skip
      go_enter Try.func3, Try.ntmps3
      go_wp2_with (first
        | ((go_at_call 8; with_reducible refine HN.out.mono ?_); rintro e w0 ⟨bb, m1, m2, g, cap, rfl, hS⟩; have S0 := Lib.hid hS; clear hS)
        | ((go_at_call 9; with_reducible refine (HRN.out w0).mono ?_); rintro e w1 ⟨rfl, hb⟩; have HB1 := Lib.hid (S0.out.2.trans ((hb.trans ((below_alloc w1 (.cells #[.int .i64 (s : Int), .int .i64 (b : Int), .int .i64 (p : Int), .slice none 0 0] 29)).mono hb.size)).mono S0.out.2.size)); have HBW := Lib.hid hb; clear hb)
        | ((go_at_call 10; with_reducible refine (num_any _ _).mono ?_); rintro e w' ⟨rfl, rfl⟩)
        | ((go_at_call 11; with_reducible refine (HFW.out _ (HLL.out _ HB1.out)).mono ?_); rintro e w' ⟨rfl, rfl⟩)
        | ((go_at_call 12; with_reducible refine (HW.out _).mono ?_); rintro e w9 hb9; have HB9 := Lib.hid (ok_then HB1.out hb9); obtain ⟨rfl, -⟩ := hb9))
      go_ret
      exact HB9.out
    cases hf : fewB ls 30
    · rw [hf] at HFW
      clear hf
      go_enter Try.func3, Try.ntmps3
      go_wp2_with (first
        | ((go_at_call 8; with_reducible refine HN.out.mono ?_); rintro e w0 ⟨bb, m1, m2, g, cap, rfl, hS⟩; have S0 := Lib.hid hS; clear hS)
        | ((go_at_call 9; with_reducible refine (HRN.out w0).mono ?_); rintro e w1 ⟨rfl, hb⟩; have HB1 := Lib.hid (S0.out.2.trans ((hb.trans ((below_alloc w1 (.cells #[.int .i64 (s : Int), .int .i64 (b : Int), .int .i64 (p : Int), .slice none 0 0] 29)).mono hb.size)).mono S0.out.2.size)); have HBW := Lib.hid hb; clear hb)
        | ((go_at_call 10; with_reducible refine (num_any _ _).mono ?_); rintro e w' ⟨rfl, rfl⟩)
        | ((go_at_call 11; with_reducible refine (HFW.out _ (HLL.out _ HB1.out)).mono ?_); rintro e w' ⟨rfl, rfl⟩)
        | ((go_at_call 12; with_reducible refine (HW.out _).mono ?_); rintro e w9 hb9; have HB9 := Lib.hid (ok_then HB1.out hb9); obtain ⟨rfl, -⟩ := hb9))
      go_ret
      exact HB9.out
    obtain ⟨hl1, hl2⟩ := few_len hf
    have HL2 := Lib.hid hl2
    rw [hf] at HFW
    clear hf hl2
    go_enter Try.func3, Try.ntmps3
    go_wp2_with (first
      | ((go_at_call 8; with_reducible refine HN.out.mono ?_); rintro e w0 ⟨bb, m1, m2, g, cap, rfl, hS⟩; have S0 := Lib.hid hS; clear hS)
      | ((go_at_call 9; with_reducible refine (HRN.out w0).mono ?_); rintro e w1 ⟨rfl, hb⟩; have HB1 := Lib.hid (S0.out.2.trans ((hb.trans ((below_alloc w1 (.cells #[.int .i64 (s : Int), .int .i64 (b : Int), .int .i64 (p : Int), .slice none 0 0] 29)).mono hb.size)).mono S0.out.2.size)); have HBW := Lib.hid hb; clear hb)
      | ((go_at_call 10; with_reducible refine (num_any _ _).mono ?_); rintro e w' ⟨rfl, rfl⟩)
      | ((go_at_call 11; with_reducible refine (HFW.out _ (HLL.out _ HB1.out)).mono ?_); rintro e w' ⟨rfl, rfl⟩))
    obtain ⟨X, hX⟩ : ∃ X, X = w1.heap.size := ⟨_, rfl⟩
    have HP0 : Hid (WS w bb m1 m2 g cap s b p [] (w1.alloc (.cells #[.int .i64 (s : Int), .int .i64 (b : Int), .int .i64 (p : Int), .slice none 0 0] 29)) ∧ Rf X s b p (Fs bb m1 m2 g) (.slice none 0 0) [] (w1.alloc (.cells #[.int .i64 (s : Int), .int .i64 (b : Int), .int .i64 (p : Int), .slice none 0 0] 29))) := Lib.hid
      ⟨S0.out.later (HBW.out.trans ((below_alloc w1 _).mono HBW.out.size)), by rw [hX]; exact ⟨heap_alloc_new w1 _, Ent.nil _ _ _, fun h => absurd h (by simp), fun hf => by have := fs_lt S0.out _ hf; have := HBW.out.size; omega⟩⟩
    have HXW := Lib.hid (show w.heap.size ≤ X from by rw [hX]; exact Nat.le_trans S0.out.2.size HBW.out.size)
    rw [← hX]
    clear hX HB1 HBW S0 HN HRN
    go_loopw [13, 14, 15] (fun i _ _ wr => ∃ (k : Nat) (L : List (Int × Int)) (u : Value), k ≤ ls.length ∧ i = .int .i64 k ∧ Hid (WS w bb m1 m2 g cap s b p L wr ∧ Rf X s b p (Fs bb m1 m2 g) u L wr)) (fun i _ _ _ => ls.length - (RowKit.intOf i).toNat)
    case atStart => exact ⟨0, _, _, Nat.zero_le _, rfl, HP0⟩
    case round =>
      clear HP0
      obtain ⟨k, L, u, hk, rfl, HP⟩ := hrel
      obtain ⟨Au, cu, hue, -⟩ := HP.out.2.ent.form
      subst hue
      by_cases hlt : k < ls.length
      · obtain ⟨g', o, rfl, hg', hc⟩ := HL.out (by omega)
        obtain ⟨ux, h1, h2⟩ := hc k hlt
        have hcx := (HP.out.1.bel.cell (p := ⟨g', o + k, none⟩) hg').trans h1
        have HG := Lib.hid hg'
        have H1 := Lib.hid h1
        have HXE := Lib.hid h2
        have HRK := Lib.hid (HR.out _ (List.getElem_mem hlt))
        have HLK := Lib.hid (HL2.out _ (List.getElem_mem hlt))
        obtain ⟨A2, c2, hux, -⟩ := h2.form
        subst hux
        clear h1 h2 hc
        generalize ls[k] = xs at *
        have H13 := Lib.hid (fun (W' : World) (hW : Below wr.heap.size wr W') => (show Calls Try.prog 13 #[.agg #[.int .i64 (s : Int), .int .i64 (b : Int), .int .i64 (p : Int), (.slice Au L.length cu)], .slice A2 xs.length c2] W' fun e w' => ∃ u', e = .returned (.tuple #[.agg #[.int .i64 (s : Int), .int .i64 (b : Int), .int .i64 (p : Int), u'], .int .i64 (appE s b p L xs)]) ∧ Ent w' u' (appS s b p L L xs) ∧ (u' = (.slice Au L.length cu) ∨ (0 < (appS s b p L L xs).length → ∀ k, u'.ownBlock = some k → W'.heap.size ≤ k)) ∧ Below W'.heap.size W' w' from
          rapply_any s b p HP.out.1.1.fit (HP.out.2.ent.below hW) ((HXE.out.below HP.out.1.bel).below hW) (by have := HLK.out; omega) HRK.out))
        have H14 := Lib.hid (fun (W : World) (u' : Value) (L' : List (Int × Int)) (hp : WS w bb m1 m2 g cap s b p L W ∧ Rf X s b p (Fs bb m1 m2 g) u' L' W) => ws_play hp.1 hp.2 HXE.out (by have := HLK.out; omega) HRK.out)
        generalize appS s b p L L xs = L1 at *
        generalize appE s b p L xs = E1 at *
        generalize xs.length = nx at *
        clear HXE HRK HLK
        go_upto_region 10 with fail
        go_cut [14, 15] from 67 to 75 (fun t f wx => ∃ (Y : Nat) (u' : Value), t = .pointer (some ⟨Y, 0, none⟩) ∧ f = .int .i64 E1 ∧ Hid (Qs wr Y s b p (.slice Au L.length cu) u' L1 wx))
        case first =>
          have hXl := HP.out.2.lt
          have hgl : g' < wr.heap.size := Nat.lt_of_lt_of_le hg' HP.out.1.bel.size
          have x0 := HP.out.2.c0
          have x1 := HP.out.2.c1
          have x2 := HP.out.2.c2
          have x3 := HP.out.2.c3
          have hk0 : (0 : Int) ≤ (k : Int) := by omega
          have hk1 : (k : Int) < (ls.length : Int) := by omega
          have Bd0 := Lib.hid (show Below wr.heap.size wr wr.drew from (Below.refl _ _).drew)
          have Bd1 := Lib.hid (show Below wr.heap.size wr (wr.alloc (.cells #[.int .i64 0, .int .i64 0, .int .i64 0, .slice none 0 0] 29)).drew from (below_alloc wr _).drew)
          have HZ1 := Lib.hid (show (wr.alloc (.cells #[.int .i64 0, .int .i64 0, .int .i64 0, .slice none 0 0] 29)).drew.heap[wr.heap.size]? = some (.cells #[.int .i64 0, .int .i64 0, .int .i64 0, .slice none 0 0] 29 (0, 0)) from heap_alloc_new wr _)
          have HLT1 := Lib.hid (show wr.heap.size < (wr.alloc (.cells #[.int .i64 0, .int .i64 0, .int .i64 0, .slice none 0 0] 29)).drew.heap.size from (Array.getElem?_eq_some_iff.1 HZ1.out).1)
          go_region_with ((go_at_call 13; with_reducible refine (H13.out _ (by first | exact Bd0.out | exact Bd1.out)).mono ?_); rintro e w5 ⟨u', rfl, he5, ho5, hb5⟩; obtain ⟨A5, n5, hv5, -⟩ := he5.form; subst hv5; (try (have z5 := (hb5.block wr.heap.size HLT1.out).trans HZ1.out; have zc0 := cell_of_row w5 _ 0 _ _ _ z5; have zc1 := cell_of_row w5 _ 1 _ _ _ z5; have zc2 := cell_of_row w5 _ 2 _ _ _ z5; have zc3 := cell_of_row w5 _ 3 _ _ _ z5; have zf0 := frozen_of_row w5 _ 0 _ _ z5; have zf1 := frozen_of_row w5 _ 1 _ _ z5; have zf2 := frozen_of_row w5 _ 2 _ _ z5; have zf3 := frozen_of_row w5 _ 3 _ _ z5; replace zc0 : w5.cell? ⟨wr.heap.size, 0, none⟩ = some (.int .i64 0) := zc0; replace zc1 : w5.cell? ⟨wr.heap.size, 1, none⟩ = some (.int .i64 0) := zc1; replace zc2 : w5.cell? ⟨wr.heap.size, 2, none⟩ = some (.int .i64 0) := zc2; replace zc3 : w5.cell? ⟨wr.heap.size, 3, none⟩ = some (.slice none 0 0) := zc3; clear z5)); have HE5 := Lib.hid he5; have HO5 := Lib.hid ho5; have HB5 := Lib.hid hb5; clear he5 ho5 hb5)
          all_goals
            go_wp2
            go_meet
            case rel =>
              first
                | exact ⟨_, _, rfl, rfl, Lib.hid (qs_first HP.out.2.ent Bd1.out HZ1.out HLT1.out HE5.out HO5.out HB5.out)⟩
                | exact ⟨_, _, rfl, rfl, Lib.hid (qs_second Bd0.out HE5.out HO5.out HB5.out)⟩
        case rest =>
          obtain ⟨Y, u', rfl, rfl, HQ⟩ := hcut
          obtain ⟨A5, n5, hv5, -⟩ := HQ.out.ent.form
          subst hv5
          have HPL : Hid (WS w bb m1 m2 g cap s b p L wc ∧ Rf X s b p (Fs bb m1 m2 g) (.slice Au L.length cu) L wc) := Lib.hid ⟨HP.out.1.later HQ.out.bel, HP.out.2.later HQ.out.bel⟩
          have q0 := HQ.out.c0
          have q1 := HQ.out.c1
          have q2 := HQ.out.c2
          have q3 := HQ.out.c3
          have x0 := HPL.out.2.c0
          have x1 := HPL.out.2.c1
          have x2 := HPL.out.2.c2
          have x3 := HPL.out.2.c3
          have xf0 := HPL.out.2.free 0
          have xf1 := HPL.out.2.free 1
          have xf2 := HPL.out.2.free 2
          have xf3 := HPL.out.2.free 3
          have HP6 : Hid (WS w bb m1 m2 g cap s b p L ((((wc.setCell ⟨X, 0, none⟩ (.int .i64 (s : Int))).setCell ⟨X, 1, none⟩ (.int .i64 (b : Int))).setCell ⟨X, 2, none⟩ (.int .i64 (p : Int))).setCell ⟨X, 3, none⟩ (.slice A5 L1.length n5)) ∧ Rf X s b p (Fs bb m1 m2 g) (.slice A5 L1.length n5) L1 ((((wc.setCell ⟨X, 0, none⟩ (.int .i64 (s : Int))).setCell ⟨X, 1, none⟩ (.int .i64 (b : Int))).setCell ⟨X, 2, none⟩ (.int .i64 (p : Int))).setCell ⟨X, 3, none⟩ (.slice A5 L1.length n5))) := Lib.hid ⟨ws_put HPL.out.1 HPL.out.2.nx HXW.out _ _ _ _, HPL.out.2.put HQ.out.ent (HQ.out.apart HP.out.2 (fs_lt HP.out.1))⟩
          clear hcx
          go_upto_region 12 with fail
          obtain ⟨W6, hW6⟩ : ∃ W6, W6 = ((((wc.setCell ⟨X, 0, none⟩ (.int .i64 (s : Int))).setCell ⟨X, 1, none⟩ (.int .i64 (b : Int))).setCell ⟨X, 2, none⟩ (.int .i64 (p : Int))).setCell ⟨X, 3, none⟩ (.slice A5 L1.length n5)) := ⟨_, rfl⟩
          rw [← hW6] at HP6 ⊢
          clear hW6 q0 q1 q2 q3 x0 x1 x2 x3 xf0 xf1 xf2 xf3 HPL HQ
          have hcx := (HP6.out.1.bel.cell (p := ⟨g', o + k, none⟩) HG.out).trans H1.out
          have H15 := Lib.hid (fun (W : World) (hp : WS w bb m1 m2 g cap s b p L1 W ∧ Rf X s b p (Fs bb m1 m2 g) (.slice A5 L1.length n5) L1 W) => (show Calls Try.prog 15 #[.pointer (some ⟨bb, 0, none⟩), .agg #[.int .i64 (s : Int), .int .i64 (b : Int), .int .i64 (p : Int), (.slice A5 L1.length n5)]] W (OkB W) from is_any hp.1.1 hp.2.ent))
          go_wp2_with (first
            | ((go_at_call 14; with_reducible refine (H14.out _ _ _ HP6.out).mono ?_); rintro e W7 ⟨rfl, hs7, hr7⟩; have HP7 : Hid (WS w bb m1 m2 g cap s b p L1 W7 ∧ Rf X s b p (Fs bb m1 m2 g) (.slice A5 L1.length n5) L1 W7) := Lib.hid ⟨hs7, hr7⟩; have x0 := hr7.c0; have x1 := hr7.c1; have x2 := hr7.c2; have x3 := hr7.c3; clear hs7 hr7)
            | ((go_at_call 10; with_reducible refine (num_any _ _).mono ?_); rintro e w' ⟨rfl, rfl⟩)
            | ((go_at_call 15; with_reducible refine (H15.out _ HP7.out).mono ?_); rintro e W8 ⟨rfl, hb8⟩; have HP8 : Hid (WS w bb m1 m2 g cap s b p L1 W8 ∧ Rf X s b p (Fs bb m1 m2 g) (.slice A5 L1.length n5) L1 W8) := Lib.hid ⟨HP7.out.1.later hb8, HP7.out.2.later hb8⟩; clear hb8))
          go_roundw
          case rel => exact ⟨k + 1, L1, _, by omega, by go_num, HP8⟩
          case measure => simp [RowKit.intOf]; omega
      · have hkl : k = ls.length := by omega
        subst hkl
        go_wp2_with ((go_at_call 12; with_reducible refine (HW.out _).mono ?_); rintro e w9 hb9; have HB9 := Lib.hid (ok_then HP.out.1.bel hb9); obtain ⟨rfl, -⟩ := hb9)
        go_ret
        exact HB9.out
end Go.Proofs.Yteiemegkdnjpgaa
