/- Slices of entries; the contracts of the law's same, of isValid, of the reference's right. Conditions stand in each theorem. -/
import Derived.Test.YtajlddgemkkcdaaA
namespace Go.Proofs.Ytajlddgemkkcdaa
open Go.RowKit
set_option linter.unusedVariables false
set_option maxHeartbeats 4000000
set_option maxRecDepth 100000
/-- A slice value that reads as the entries l. -/
def Ent (w : World) (v : Value) (l : List (Int × Int)) : Prop :=
  ∃ A c, v = .slice A l.length c ∧ l.length ≤ c ∧ (0 < l.length → ∃ g o, A = some ⟨g, o, none⟩ ∧ g < w.heap.size ∧ ∀ j (hj : j < l.length), w.cell? ⟨g, o + j * 2, none⟩ = some (.int .i64 l[j].1) ∧ w.cell? ⟨g, o + j * 2 + 1, none⟩ = some (.int .i64 l[j].2))
def Rng (l : List (Int × Int)) : Prop := ∀ p ∈ l, I64 p.1 ∧ I64 p.2
theorem Ent.keep {w w' : World} {v : Value} {l : List (Int × Int)} (h : Ent w v l) (hs : w.heap.size ≤ w'.heap.size) (hk : ∀ p : Addr, p.block < w.heap.size → w'.cell? p = w.cell? p) : Ent w' v l := by
  obtain ⟨A, c, rfl, hc, hr⟩ := h
  refine ⟨A, c, rfl, hc, fun hn => ?_⟩
  obtain ⟨g, o, rfl, hg, hcell⟩ := hr hn
  refine ⟨g, o, rfl, by omega, fun j hj => ?_⟩
  exact ⟨(hk _ hg).trans (hcell j hj).1, (hk _ hg).trans (hcell j hj).2⟩
theorem Ent.below {w w' : World} {v : Value} {l : List (Int × Int)} (h : Ent w v l) (hb : Below w.heap.size w w') : Ent w' v l := h.keep hb.size fun _ hp => hb.cell hp
theorem Ent.nil (w : World) : Ent w (.slice none 0 0) [] := ⟨_, 0, rfl, by simp, fun h => absurd h (by simp)⟩
theorem Ent.at_ {w : World} {v : Value} {l : List (Int × Int)} (h : Ent w v l) {k : Nat} (hk : k < l.length) : ∃ g o c, v = .slice (some ⟨g, o, none⟩) l.length c ∧ w.cell? ⟨g, o + k * 2, none⟩ = some (.int .i64 l[k].1) ∧ w.cell? ⟨g, o + k * 2 + 1, none⟩ = some (.int .i64 l[k].2) := by
  obtain ⟨A, c, rfl, _, hr⟩ := h
  obtain ⟨g, o, rfl, _, hc⟩ := hr (by omega)
  exact ⟨g, o, c, rfl, (hc k hk).1, (hc k hk).2⟩
theorem same_any (v u : Value) (l m : List (Int × Int)) (w : World) (hv : Ent w v l) (hu : Ent w u m) (hl : l.length ≤ 1000000) (hm : m.length ≤ 1000000) :
    Calls Try.prog 17 #[v, u] w (Ret w (.bool (decide (l = m)))) := by
  obtain ⟨A, c, rfl, _, hr⟩ := hv
  obtain ⟨B, d, rfl, _, hs⟩ := hu
  by_cases hlen : l.length = m.length
  · have HR := Lib.hid hr
    have HS := Lib.hid hs
    have hli : (l.length : Int) ≤ 1000000 := by omega
    have HEQ : Hid ((∀ j (hj : j < l.length) (hj' : j < m.length), l[j] = m[j]) → decide (l = m) = true) := Lib.hid (fun h => decide_eq_true (List.ext_getElem hlen h))
    have HNE : Hid (∀ j (hj : j < l.length) (hj' : j < m.length), l[j] ≠ m[j] → decide (l = m) = false) := Lib.hid (fun j hj hj' h => decide_eq_false (fun e => h (by subst e; rfl)))
    have HLEN := Lib.hid hlen
    rw [← hlen]
    generalize decide (l = m) = R at *
    clear hr hs hlen
    go_enter Try.func17, Try.ntmps17
    go_upto_region 4 with fail
    go_loopw [5] (fun i wr => ∃ (k : Nat), k ≤ l.length ∧ i = .int .i64 k ∧ Hid (∀ j (hj : j < l.length) (hj' : j < m.length), j < k → l[j] = m[j]) ∧ Hid (Gr w wr)) (fun i _ => l.length - (RowKit.intOf i).toNat)
    case atStart => exact ⟨0, Nat.zero_le _, rfl, Lib.hid (fun j hj hj' h => absurd h (by omega)), Gr.refl _⟩
    case round =>
      obtain ⟨k, hk, rfl, HJ, HG⟩ := hrel
      by_cases hlt : k < l.length
      · have hltm : k < m.length := by have := HLEN.out; omega
        obtain ⟨g1, o1, rfl, hg1, hc1⟩ := HR.out (by omega)
        obtain ⟨g2, o2, rfl, hg2, hc2⟩ := HS.out (by omega)
        have y1 := HG.out.cell (hc1 k hlt).1
        have y2 := HG.out.cell (hc1 k hlt).2
        have z1 := HG.out.cell (hc2 k hltm).1
        have z2 := HG.out.cell (hc2 k hltm).2
        have HNX : Hid (l[k] = m[k] → ∀ j (hj : j < l.length) (hj' : j < m.length), j < k + 1 → l[j] = m[j]) := Lib.hid (fun e j hj hj' h => by
          rcases Nat.lt_or_ge j k with h1 | h1
          · exact HJ.out j hj hj' h1
          · have : j = k := by omega
            subst this
            exact e)
        have HNO := Lib.hid (HNE.out k hlt hltm)
        obtain ⟨x, hx⟩ : ∃ x, x = l[k] := ⟨_, rfl⟩
        obtain ⟨y, hy⟩ : ∃ y, y = m[k] := ⟨_, rfl⟩
        rw [← hx] at y1 y2 HNX HNO
        rw [← hy] at z1 z2 HNX HNO
        have hk0 : (0 : Int) ≤ (k : Int) := by omega
        have hk1 : (k : Int) < (l.length : Int) := by omega
        clear hx hy hc1 hc2
        obtain ⟨xa, xb⟩ := x
        obtain ⟨ya, yb⟩ := y
        dsimp only at y1 y2 z1 z2
        by_cases ea : xa = ya
        · by_cases eb : xb = yb
          · subst ea eb
            have HN2 := Lib.hid (HNX.out rfl)
            go_wp2
            go_big_quiet (fail)
            go_wp2
            go_roundw
            case rel => exact ⟨k + 1, by omega, by go_num, HN2, Lib.hid (HG.out.drewN _)⟩
            case measure => simp [RowKit.intOf]; omega
          · have hRf := HNO.out (fun e => eb (by injection e))
            have HRf := Lib.hid hRf
            subst ea
            clear hRf
            go_wp2
            go_big_quiet (fail)
            go_wp2
            go_ret
            exact ⟨by rw [HRf.out]; rfl, HG.out.drewN _⟩
        · have hRf := HNO.out (fun e => ea (by injection e))
          have HRf := Lib.hid hRf
          clear hRf
          go_wp2
          go_big_quiet (fail)
          go_wp2
          go_ret
          exact ⟨by rw [HRf.out]; rfl, HG.out.drewN _⟩
      · have hR := HEQ.out (fun j hj hj' => HJ.out j hj hj' (by omega))
        have HRt := Lib.hid hR
        clear hR
        go_wp2
        go_ret
        exact ⟨by rw [HRt.out]; rfl, HG.out⟩
  · have hR : decide (l = m) = false := decide_eq_false (fun e => hlen (by rw [e]))
    have HR := Lib.hid hR
    have hb : ((l.length : Int) == (m.length : Int)) = false := by simpa using (by omega : ¬ (l.length : Int) = (m.length : Int))
    have hb2 : ¬ (l.length : Int) = (m.length : Int) := by omega
    clear hR hr hs
    go_enter Try.func17, Try.ntmps17
    go_wp2
    go_ret
    exact ⟨by rw [HR.out]; rfl, Gr.refl _⟩
/-- An entry that may be encoded. -/
def vldB (p : Int × Int) : Bool := wiB p.1 0 4294967294 && wiB p.2 (-1) 4294967294
theorem isValid_any (p : Int × Int) (w : World) : Calls Try.prog 45 #[.agg #[.int .i64 p.1, .int .i64 p.2]] w (Ret w (.bool (vldB p))) := by
  unfold vldB
  have H1 := Lib.hid (fun W => within_any p.1 0 4294967294 W)
  have H2 := Lib.hid (fun W => within_any p.2 (-1) 4294967294 W)
  cases h1 : wiB p.1 0 4294967294
  · rw [h1] at H1
    clear h1
    go_enter Try.func45, Try.ntmps45
    go_wp2_with ((go_at_call 28; with_reducible refine (H1.out _).mono ?_); rintro e w' ⟨rfl, hg⟩; have HG := Lib.hid hg; clear hg)
    go_ret
    exact ⟨rfl, (Gr.refl _).alloc _ |>.trans HG.out⟩
  · rw [h1] at H1
    cases h2 : wiB p.2 (-1) 4294967294
    all_goals
      rw [h2] at H2
      clear h1 h2
      have y2 : (w.alloc (.cells #[.int .i64 p.1, .int .i64 p.2] 40)).cell? ⟨w.heap.size, 1, none⟩ = some (.int .i64 p.2) := (cell_of_row _ w.heap.size 1 _ 40 (0, 0) (heap_alloc_new w _)).trans rfl
      have HY := Lib.hid y2
      clear y2
      go_enter Try.func45, Try.ntmps45
      go_wp2_with (first
        | ((go_at_call 28; with_reducible refine (H1.out _).mono ?_); rintro e w' ⟨rfl, hg⟩; have HG := Lib.hid hg; have y3 := hg.cell HY.out; clear hg)
        | ((go_at_call 28; with_reducible refine (H2.out _).mono ?_); rintro e w'' ⟨rfl, hg⟩; have HG2 := Lib.hid hg; clear hg))
      go_ret
      exact ⟨rfl, ((Gr.refl _).alloc _).trans (HG.out.trans HG2.out)⟩
end Go.Proofs.Ytajlddgemkkcdaa
