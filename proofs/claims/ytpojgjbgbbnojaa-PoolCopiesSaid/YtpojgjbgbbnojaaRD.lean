/- The contracts of the reference's Spread and New. Conditions stand in each theorem. -/
import Derived.Test.YtpojgjbgbbnojaaRC
namespace Go.Proofs.Ytpojgjbgbbnojaa
open Go.RowKit
set_option linter.unusedVariables false
set_option maxHeartbeats 2000000
set_option maxRecDepth 100000
theorem rSpread_any {w : World} {g cap : Nat} {l : List Blk} (h : Rf w g l) (hl : l.length ≤ 4096) : Calls Try.prog 36 #[.slice (some ⟨g, 0, none⟩) l.length cap] w (Ret w (.tuple #[.int .i64 (sprA l), .int .i64 (sprB l)])) := by
  have HR := Lib.hid h
  have hl2 : (l.length : Int) ≤ 4096 := by omega
  have HE := Lib.hid (sp_end l)
  clear h
  go_enter Try.func36, Try.ntmps36
  go_wp2
  go_loopw [4, 5, 6, 7] (fun a b f i wr => ∃ (k : Nat), k ≤ l.length ∧ i = .int .i64 k ∧ a = .int .i64 (spA l k) ∧ b = .int .i64 (spB l k) ∧ f = .bool (spF l k) ∧ Hid (Below w.heap.size w wr)) (fun _ _ _ i _ => l.length - (RowKit.intOf i).toNat)
  case atStart => exact ⟨0, Nat.zero_le _, rfl, rfl, rfl, rfl, Lib.hid (Below.refl _ _)⟩
  case round =>
    obtain ⟨k, hk, rfl, rfl, rfl, rfl, HB⟩ := hrel
    by_cases hlt : k < l.length
    · obtain ⟨c0, c1⟩ := (HR.out.below HB.out).at hlt
      by_cases hst : l[k].st = 4
      · obtain ⟨q1, q2, q3⟩ := sp_bad hlt hst
        have HQ := Lib.hid (show spA l (k + 1) = spA l k ∧ spB l (k + 1) = spB l k ∧ spF l (k + 1) = spF l k from ⟨q1, q2, q3⟩)
        rw [hst] at c0
        clear q1 q2 q3 hst
        generalize spA l k = a at *
        generalize spB l k = b at *
        generalize spF l k = f at *
        generalize l[k].er = er at *
        go_wp2
        go_roundw
        case rel => exact ⟨k + 1, by omega, by go_num, by rw [HQ.out.1], by rw [HQ.out.2.1], by rw [HQ.out.2.2], HB⟩
        case measure => simp [RowKit.intOf]; omega
      · have HQ := Lib.hid (sp_ok hlt hst)
        have g1 : decide (l[k].st = 4) = false := decide_eq_false hst
        have g2 : (l[k].st == 4) = false := by simpa using hst
        generalize spA l k = a at *
        generalize spB l k = b at *
        generalize spF l k = f at *
        generalize l[k].er = er at *
        generalize l[k].st = st at *
        cases f
        · go_wp2
          go_roundw
          case rel => exact ⟨k + 1, by omega, by go_num, by rw [HQ.out.2.1]; simp, by rw [HQ.out.2.2]; simp, by rw [HQ.out.1], HB⟩
          case measure => simp [RowKit.intOf]; omega
        · by_cases h1 : er < a
          · by_cases h2 : b < er
            · go_wp2
              go_roundw
              case rel => exact ⟨k + 1, by omega, by go_num, by rw [HQ.out.2.1, if_pos (.inr h1)], by rw [HQ.out.2.2, if_pos (.inr h2)], by rw [HQ.out.1], HB⟩
              case measure => simp [RowKit.intOf]; omega
            · go_wp2
              go_roundw
              case rel => exact ⟨k + 1, by omega, by go_num, by rw [HQ.out.2.1, if_pos (.inr h1)], by rw [HQ.out.2.2, if_neg (by rintro (h0 | h0); cases h0; exact h2 h0)], by rw [HQ.out.1], HB⟩
              case measure => simp [RowKit.intOf]; omega
          · by_cases h2 : b < er
            · go_wp2
              go_roundw
              case rel => exact ⟨k + 1, by omega, by go_num, by rw [HQ.out.2.1, if_neg (by rintro (h0 | h0); cases h0; exact h1 h0)], by rw [HQ.out.2.2, if_pos (.inr h2)], by rw [HQ.out.1], HB⟩
              case measure => simp [RowKit.intOf]; omega
            · go_wp2
              go_roundw
              case rel => exact ⟨k + 1, by omega, by go_num, by rw [HQ.out.2.1, if_neg (by rintro (h0 | h0); cases h0; exact h1 h0)], by rw [HQ.out.2.2, if_neg (by rintro (h0 | h0); cases h0; exact h2 h0)], by rw [HQ.out.1], HB⟩
              case measure => simp [RowKit.intOf]; omega
    · have hkl : k = l.length := by omega
      subst hkl
      rw [HE.out.1, HE.out.2]
      generalize sprA l = a at *
      generalize sprB l = b at *
      go_wp2
      go_ret2
      exact ⟨rfl, HB.out⟩
/-- What the reference's New leaves. -/
def RN (w : World) (xs : List Int) (e : Ending) (w' : World) : Prop := ∃ g cap, e = .returned (.tuple #[.slice (some ⟨g, 0, none⟩) (mk xs).length cap, .int .i64 0]) ∧ Rf w' g (mk xs) ∧ Below w.heap.size w w'
def RNb (w : World) (e : Ending) (w' : World) : Prop := e = .returned (.tuple #[.slice none 0 0, .int .i64 2]) ∧ Below w.heap.size w w'
def RNP (w : World) (xs : List Int) (e : Ending) (w' : World) : Prop := if erAll xs = true then RN w xs e w' else RNb w e w'
theorem rNew_len (v : Value) (xs : List Int) (w : World) (hx : Ints w v xs) (hl : xs.length = 0 ∨ 4096 < xs.length) : Calls Try.prog 10 #[v] w (RNb w) := by
  obtain ⟨A, c, rfl, _⟩ := hx
  rcases hl with hl | hl
  · rw [hl]
    go_enter Try.func10, Try.ntmps10
    go_wp2
    go_ret2
    exact ⟨rfl, Below.refl _ _⟩
  · have d1 : ¬ (xs.length : Int) < 1 := by omega
    have d2 : (4096 : Int) < (xs.length : Int) := by omega
    have d3 : decide (xs.length < 1) = false := decide_eq_false (by omega)
    have d4 : decide (4096 < xs.length) = true := decide_eq_true hl
    go_enter Try.func10, Try.ntmps10
    go_wp2
    go_ret2
    exact ⟨rfl, Below.refl _ _⟩
theorem mk_take {xs : List Int} {k : Nat} (h : k < xs.length) : mk (xs.take (k + 1)) = mk (xs.take k) ++ [⟨xs[k], 1⟩] := by
  unfold mk
  rw [List.take_succ_eq_append_getElem h, List.map_append]
  rfl
theorem erAll_take {xs : List Int} {k : Nat} (h : k < xs.length) (he : erB xs[k] = true) (h2 : erAll (xs.take k) = true) : erAll (xs.take (k + 1)) = true := by
  unfold erAll at *
  rw [List.take_succ_eq_append_getElem h, List.all_append, h2]
  simp [he]
theorem rNew_any (v : Value) (xs : List Int) (w : World) (hx : Ints w v xs) (hl1 : 1 ≤ xs.length) (hl2 : xs.length ≤ 4096) : Calls Try.prog 10 #[v] w (RNP w xs) := by
  obtain ⟨i71, hi71, hz0, hz1, hz2⟩ := info_parts info71
  have i1 : (1 : Int) ≤ xs.length := by omega
  have i2 : (xs.length : Int) ≤ 4096 := by omega
  obtain ⟨A, c, rfl, hr⟩ := hx
  obtain ⟨gx, o, rfl, hgx, hcell⟩ := hr (by omega)
  have HC := Lib.hid hcell
  clear hr hcell
  go_enter Try.func10, Try.ntmps10
  go_wp2
  go_loopw [4, 5] (fun v i wr => ∃ (k : Nat) (x : Value), k ≤ xs.length ∧ i = .int .i64 k ∧ x = v ∧ Hid (wr.ownsRow w.heap.size 71 2 x k (sv (mk (xs.take k)))) ∧ Hid (erAll (xs.take k) = true) ∧ Hid (Below w.heap.size w wr)) (fun _ i _ => xs.length - (RowKit.intOf i).toNat)
  case atStart => exact ⟨0, _, Nat.zero_le _, rfl, rfl, Lib.hid (World.ownsRow_nil _ _ _ _), Lib.hid rfl, Lib.hid (Below.refl _ _)⟩
  case round =>
    obtain ⟨k, x, hk, rfl, rfl, HO, HA, HB⟩ := hrel
    by_cases hlt : k < xs.length
    · have c1 : wr.cell? ⟨gx, o + k, none⟩ = some (.int .i64 xs[k]) := (HB.out.cell hgx).trans (HC.out k hlt)
      have HT := Lib.hid (mk_take hlt)
      have HN := Lib.hid (fun h => erAll_no hlt h)
      have HY := Lib.hid (fun h => erAll_take hlt h HA.out)
      generalize xs[k] = n at *
      cases he : erB n
      · have HNN := Lib.hid (HN.out he)
        have hc : n < 0 ∨ (0 ≤ n ∧ 1099511627776 < n) := by unfold erB wiB at he; have := of_decide_eq_false he; omega
        clear he HN HY HO
        rcases hc with h1 | ⟨h1, h2⟩
        all_goals
          go_wp2
          go_ret2
          unfold RNP
          rw [if_neg (by rw [HNN.out]; decide)]
          exact ⟨rfl, HB.out⟩
      · have hc : 0 ≤ n ∧ n ≤ 1099511627776 := by unfold erB wiB at he; exact of_decide_eq_true he
        obtain ⟨h1, h2⟩ := hc
        obtain ⟨ga, capa, w2, hrun, hown2, hgrow, hlies, _⟩ := run_append_lies (P := Try.prog) (wr.alloc (.cells #[.int .i64 1, .int .i64 n] 71)) 30 30 w.heap.size 71 i71 _ 2 16 Try.underlying30 hi71 hz0 hz1 hz2 rfl (by decide) x k (sv (mk (xs.take k))) (HO.out.alloc _) ⟨wr.heap.size, 0, none⟩ 1 1 [.int .i64 1, .int .i64 n] rfl (World.news_of_block (heap_alloc_new wr _)) (by intro u hu; simp at hu; rcases hu with rfl | rfl <;> rfl) (by omega) (by unfold maxLen; omega) (by omega) (by have := HB.out.size; simp; omega) wr.heap.size.succ (by simp)
        have Hrun := Lib.hid hrun
        have HO2 := Lib.hid (show w2.ownsRow w.heap.size 71 2 (.slice (some ⟨ga, 0, none⟩) (k + 1) capa) (k + 1) (sv (mk (xs.take (k + 1)))) from by
          rw [HT.out, sv_snoc]
          exact hown2)
        have HB2 := Lib.hid (show Below w.heap.size w w2 from (HB.out.alloc HB.out.size _).grown hgrow (by have := HB.out.size; simp; omega) (fun j e => (HO.out.lt j e).1))
        have HA2 := Lib.hid (HY.out he)
        clear hrun hown2 hgrow hlies HT he HN HY
        go_wp2_with (at_builtin; refine wpList_append_run rfl (.tmp 32) (.tmp 38) 30 30 rfl _ _ _ w2 rfl rfl Hrun.out ?_)
        go_roundw
        case rel => exact ⟨k + 1, _, by omega, by go_num, rfl, HO2, HA2, HB2⟩
        case measure => simp [RowKit.intOf]; omega
    · have hkl : k = xs.length := by omega
      subst hkl
      have ho := HO.out
      have ha := HA.out
      rw [List.take_length] at ho ha
      obtain ⟨g, cap, cur, rfl, hg, hn, hrow, _, _, hat⟩ := rf_of_sv (l := mk xs) ho (by omega)
      have HF := Lib.hid (show RNP w xs (.returned (.tuple #[.slice (some ⟨g, 0, none⟩) xs.length cap, .int .i64 0])) wr from by
        unfold RNP
        rw [if_pos ha]
        exact ⟨g, cap, by rw [← hn], ⟨cur, _, hrow, hat⟩, HB.out⟩)
      clear ho ha hn hrow hat
      go_wp2
      go_ret2
      exact HF.out
end Go.Proofs.Ytpojgjbgbbnojaa
