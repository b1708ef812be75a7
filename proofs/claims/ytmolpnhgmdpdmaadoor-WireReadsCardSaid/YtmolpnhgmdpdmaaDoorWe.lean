/- WireWrites' walk. Conditions stand in each theorem. -/
import Derived.Test.YtmolpnhgmdpdmaaDoorWd
namespace Go.Proofs.YtmolpnhgmdpdmaaDoor
open Go.RowKit
set_option linter.unusedVariables false
set_option maxHeartbeats 2000000

def Flips (w : World) (b n : Nat) : Prop := ∀ t, t < n → (∃ x, w.cell? ⟨b, t, none⟩ = some (.int .u8 x)) ∧ w.frozen? ⟨b, t, none⟩ = false
theorem flip_step {w : World} {b n j : Nat} {y : Int} (h : Flips w b n) (hj : j < n) : Flips (w.setCell ⟨b, j, none⟩ (.int .u8 y)) b n := by
  intro t ht
  refine ⟨?_, by rw [World.frozen?_setCell]; exact (h t ht).2⟩
  by_cases e : j = t
  · subst e
    obtain ⟨x, hx⟩ := (h j hj).1
    exact ⟨y, by apply World.cell?_setCell_same; exact hx⟩
  · have h1 : (w.setCell ⟨b, j, none⟩ (.int .u8 y)).cell? ⟨b, t, none⟩ = w.cell? ⟨b, t, none⟩ := by
      apply World.cell?_setCell_other
      intro e'
      injection e' with _ e'
      exact e e'
    rw [h1]
    exact (h t ht).1
set_option maxRecDepth 100000 in
theorem writes_any (v : Value) (xs : List ActD) (w : World) (h : Al w v xs) : Calls Tryd.prog 7 #[v] w fun e w' => e = .returned (.bool true) ∧ Below w.heap.size w w' := by
  have Hfew := Lib.hid (few_any v xs w h)
  obtain ⟨A, c, rfl, hc, hm, hok, hr⟩ := h
  have hm' : (xs.length : Int) ≤ 9223372036854775807 := by have := hm; unfold maxLen at this; omega
  have Hok := Lib.hid hok; have Hr := Lib.hid hr
  clear hok hr hm
  go_enter Tryd.func7, Tryd.ntmps7
  go_wp2_with fail
  refine Hfew.out.mono ?_
  rintro e w' ⟨hcase, rfl⟩
  rcases hcase with ⟨rfl, h40, hfe⟩ | rfl
  · have Hfe := Lib.hid hfe
    clear hfe Hfew
    go_wp2
    go_loopw [4, 5] (fun u i wr => ∃ (k : Nat) (l : List UInt8) (vw : Value), k ≤ xs.length ∧ i = .int .i64 k ∧ Hid (l.length ≤ 1000 * k) ∧ Hid (WS w wr w.heap.size vw u l)) (fun _ i _ => xs.length - (intOf i).toNat)
    case atStart => exact ⟨0, [], _, Nat.zero_le _, rfl, Lib.hid (by simp), Lib.hid (ws_new w)⟩
    case round =>
      obtain ⟨k, l, vw, hk, rfl, HL, HS⟩ := hrel
      by_cases hlt : k < xs.length
      · obtain ⟨b, o, rfl, hb, hcell⟩ := Hr.out (by omega)
        obtain ⟨a, ha⟩ : ∃ a, a = xs[k] := ⟨_, rfl⟩
        have hoka := Hok.out xs[k] (List.getElem_mem hlt)
        have hfea := Hfe.out xs[k] (List.getElem_mem hlt)
        have hce := hcell k hlt
        rw [← ha] at hoka hfea hce
        have hbel := HS.out.below
        have c0 := (hbel.cell (by exact hb)).trans hce.1
        have c1 := (hbel.cell (by exact hb)).trans hce.2.1
        have c2 := (hbel.cell (by exact hb)).trans hce.2.2.1
        have c3 := (hbel.cell (by exact hb)).trans hce.2.2.2.1
        have c4 := (hbel.cell (by exact hb)).trans hce.2.2.2.2
        have hl1 : l.length + 1000 ≤ 1048576 := by have := HL.out; omega
        obtain ⟨m, hml, hadd⟩ := add_any w.heap.size vw l a wr w HS.out.is (ActD.ok_below hoka hbel) hoka hfea (Nat.le_refl _) HS.out.vge hl1
        have Hadd := Lib.hid hadd; have Hml := Lib.hid hml; have Hl1 := Lib.hid hl1
        obtain ⟨aK, aV, aN, afv, abv, afs, aB⟩ := a
        dsimp only at c0 c1 c2 c3 c4
        have i0 : (0 : Int) ≤ k := by omega
        have i1 : (k : Int) < xs.length := by omega
        clear hcell hoka hfea hce ha hb hbel hl1 hml hadd
        go_wp2_with fail
        refine (show Calls Tryd.prog 26 _ _ _ from Hadd.out).mono ?_
        rintro e w1 ⟨⟨r, rfl, hr⟩, v1, h1, hch, hat⟩
        obtain ⟨o1, b1, -, -⟩ := ws_add HS.out h1 hch hat
        obtain ⟨u2, w2, hrun, h2, h3, h4⟩ := run_append_own_src w1 w.heap.size l.length _ r l m 23 o1 hr (by have := Hl1.out; have := Hml.out; omega) b1.size
        have hs2 := ws_app HS.out h1 hch hat h2 h3 h4
        obtain ⟨L, hL⟩ : ∃ L, L = l ++ m := ⟨_, rfl⟩
        rw [← hL] at hs2
        have hLl : L.length ≤ 1000 * (k + 1) := by rw [hL, List.length_append]; have := HL.out; have := Hml.out; omega
        obtain ⟨A2, d2, hu2, -, -⟩ := Byt.of_own hs2.own
        subst hu2
        have HS2 := Lib.hid hs2; have Hrun := Lib.hid hrun; have HLl := Lib.hid hLl
        clear h1 hch hat o1 b1 hr hrun h2 h3 h4 hs2 hL hLl HL HS Hadd Hml Hl1 c0 c1 c2 c3 c4
        go_wp2_with (at_builtin; refine wpList_append_run rfl (.tmp 28) (.tmp 29) 23 23 rfl _ _ _ w2 rfl rfl Hrun.out ?_)
        refine (Bytes_any _ v1 L _ HS2.out.is).mono ?_
        rintro e w3 ⟨⟨r8, rfl, ho⟩, hb3⟩
        obtain ⟨A8, d8, hr8, hgot⟩ := got_form ho
        have HY8 := Lib.hid (Byt.of_own ho)
        subst hr8
        have HS3 := Lib.hid (ws_below HS2.out hb3)
        have HB3 := Lib.hid hb3; have Hgot := Lib.hid hgot
        clear ho hb3 hgot Hrun
        go_wp2_with fail
        refine (Len_any _ v1 L _ HS3.out.is).mono ?_
        rintro e w' ⟨rfl, rfl⟩
        go_wp2_with fail
        refine (Same_eq _ _ L _ HY8.out (Byt.of_own HS3.out.own)).mono ?_
        rintro e w' ⟨rfl, rfl⟩
        clear HY8
        have hLn : (L.length : Int) ≤ 40000 := by have := HLl.out; omega
        go_wp2
        go_loopw [9] (fun i wq => ∃ j : Nat, j ≤ L.length ∧ i = .int .i64 j ∧ Hid (Below w2.heap.size w2 wq) ∧ Hid (0 < L.length → ∃ b, A8 = some ⟨b, 0, none⟩ ∧ w2.heap.size ≤ b ∧ b < wq.heap.size ∧ Flips wq b L.length)) (fun i _ => L.length - (intOf i).toNat)
        case atStart => exact ⟨0, Nat.zero_le _, rfl, HB3, Lib.hid Hgot.out⟩
        case round =>
          clear Hgot HB3 HS3
          obtain ⟨j, hj, rfl, HBq, HFq⟩ := hrel
          by_cases hjl : j < L.length
          · obtain ⟨b8, rfl, hb8, hb8l, hfl⟩ := HFq.out (by omega)
            obtain ⟨⟨x, hx⟩, hfr⟩ := hfl j hjl
            have hx' : wr.cell? ⟨b8, 0 + j, none⟩ = some (.int .u8 x) := by rw [Nat.zero_add]; exact hx
            have hfr' : wr.frozen? ⟨b8, 0 + j, none⟩ = false := by rw [Nat.zero_add]; exact hfr
            have j0 : (0 : Int) ≤ j := by omega
            have j1 : (j : Int) < L.length := by omega
            have HF := Lib.hid hfl; have Hb8 := Lib.hid (And.intro hb8 hb8l)
            clear hfl hb8 hb8l HFq
            go_wp2
            go_roundw
            case rel =>
              refine ⟨j + 1, hjl, by go_num, Lib.hid (HBq.out.setCell Hb8.out.1 _), Lib.hid fun _ => ⟨b8, rfl, Hb8.out.1, by simpa [World.setCell] using Hb8.out.2, ?_⟩⟩
              have hst := flip_step (j := j) (y := IntKind.u8.wrap (255 - x)) HF.out hjl
              exact hst
            case measure => simp [intOf]; omega
          · have HS3 := Lib.hid (ws_below HS2.out HBq.out)
            clear HFq HBq HS2
            go_wp2
            go_roundw
            case rel => exact ⟨k + 1, L, v1, hlt, by go_num, HLl, HS3⟩
            case measure => simp [intOf]; omega
      · clear Hok Hr Hfe
        go_wp2_with fail
        refine (known_any _).mono ?_
        rintro e wk ⟨rfl, hb⟩
        have Hb := Lib.hid (HS.out.below.trans (hb.mono HS.out.below.size)); clear hb
        go_wp2
        go_ret
        exact ⟨rfl, Hb.out⟩
  · clear Hfew Hok Hr
    go_wp2_with fail
    refine (known_any _).mono ?_
    rintro e wk ⟨rfl, hb⟩
    have Hb := Lib.hid hb; clear hb
    go_wp2
    go_ret
    exact ⟨rfl, Hb.out⟩
end Go.Proofs.YtmolpnhgmdpdmaaDoor
