/- The walk of PoolHolds. Conditions stand in each theorem. -/
import Derived.Test.YtpojgjbgbbnojaaI
namespace Go.Proofs.Ytpojgjbgbbnojaa
open Go.RowKit
set_option linter.unusedVariables false
set_option maxHeartbeats 4000000
set_option maxRecDepth 100000
theorem info3 : (Try.prog.info? 3).map (fun i => (i.zero, i.size, i.bytes)) = some (some (.int .i64 0), 1, 8) := by kernel_rfl
def zc (n : Nat) : Array Value := madeCells #[.int .i64 0] n
theorem make_ints (n : Nat) (hn : n ≤ 4096) (W : World) : (Instr.makeSlice 22 (.int .i64 (n : Int)) (.int .i64 (n : Int))).run Try.prog W = .ok (.slice (some ⟨W.heap.size, 0, none⟩) n n) (W.alloc (.cells (zc n) 3)) := by
  obtain ⟨i0, hi0, hz0, hz1, hz2⟩ := info_parts info3
  have hr := run_makeSlice (P := Try.prog) W 22 3 i0 _ Try.underlying22 hi0 hz0 .i64 .i64 n n (by omega) (Int.le_refl _) (by rw [hz1]; omega) (by rw [hz2]; omega) (by omega)
  simp only [Int.toNat_natCast] at hr
  rw [hr, hz1, Nat.mul_one]
  rfl
/-- The cells behind k stores. -/
def fc (N : Nat) (e : Int) (k : Nat) : List Value := List.replicate k (.int .i64 e) ++ List.replicate (N - k) (.int .i64 0)
theorem zc_fc (N : Nat) (e : Int) : zc N = (fc N e 0).toArray := by
  apply Array.ext
  · simp [zc, fc, size_madeCells]
  · intro i h1 h2
    simp [zc, madeCells, fc, Nat.mod_one]
theorem fc_step {N k : Nat} (e : Int) (h : k < N) : (fc N e k).set k (.int .i64 e) = fc N e (k + 1) := by
  unfold fc
  rw [List.set_append_right _ _ (by simp), List.length_replicate, Nat.sub_self, show N - k = (N - (k + 1)) + 1 by omega, List.replicate_succ, List.set_cons_zero, List.replicate_succ', List.append_assoc]
  rfl
theorem fc_set {N k : Nat} (e : Int) (h : k < N) : (fc N e k).toArray.setIfInBounds k (.int .i64 e) = (fc N e (k + 1)).toArray := by
  rw [← fc_step e h]
  simp
theorem fc_at {N k : Nat} (e : Int) (h : k < N) : (fc N e k).toArray[k]? = some (.int .i64 0) := by
  unfold fc
  rw [List.getElem?_toArray, List.getElem?_append_right (by simp), List.length_replicate, Nat.sub_self]
  rw [List.getElem?_replicate, if_pos (by omega)]
theorem fc_length {N k : Nat} (e : Int) (h : k ≤ N) : (fc N e k).length = N := by unfold fc; simp; omega
theorem fc_ints {w W : World} {N : Nat} {e : Int} (h : W.heap[w.heap.size]? = some (.cells (fc N e N).toArray 3 (0, 0))) : Ints W (.slice (some ⟨w.heap.size, 0, none⟩) N N) (List.replicate N e) := by
  refine ⟨_, N, by simp, fun _ => ⟨w.heap.size, 0, rfl, (Array.getElem?_eq_some_iff.1 h).1, fun j hj => ?_⟩⟩
  have hj' : j < N := by simpa using hj
  rw [Nat.zero_add, cell_of_row W w.heap.size j _ 3 (0, 0) h]
  simp [fc, hj']
theorem erAll_rep {N : Nat} {e : Int} (h0 : 0 ≤ e) (h1 : e ≤ 1000000) : erAll (List.replicate N e) = true := by
  unfold erAll
  rw [List.all_eq_true]
  intro x hx
  rw [List.eq_of_mem_replicate hx]
  exact decide_eq_true (by omega)
section
variable {w W : World} {b g cap : Nat}
theorem hold_tk {N i : Nat} {e0 : Int} (h : WS w b g cap (hold N e0 i) W) (hN : 0 < N) : Calls Try.prog 17 #[.pointer (some ⟨b, 0, none⟩)] W fun e w' => e = .returned (.tuple #[.int .i64 ((i % N : Nat) : Int), .int .i64 0]) ∧ WS w b g cap ((hold N e0 i).set (i % N) ⟨e0 + ((i / N : Nat) : Int), 2⟩) w' := by
  have ht := hold_take e0 i hN
  refine ws_take h _ _ _ (by rw [ht]) (by unfold tkE; rw [ht]; rfl) ?_
  unfold tkS
  rw [ht, if_pos rfl, hold_ers e0 i hN]
theorem hold_rl {N i : Nat} {e0 : Int} (h : WS w b g cap ((hold N e0 i).set (i % N) ⟨e0 + ((i / N : Nat) : Int), 2⟩) W) (hN : 0 < N) (he : e0 + ((i / N : Nat) : Int) < 1099511627776) : Calls Try.prog 21 #[.pointer (some ⟨b, 0, none⟩), .int .i64 ((i % N : Nat) : Int)] W fun e w' => e = .returned (.int .i64 0) ∧ WS w b g cap (hold N e0 (i + 1)) w' := by
  have hm := Nat.mod_lt i hN
  have hl : i % N < ((hold N e0 i).set (i % N) ⟨e0 + ((i / N : Nat) : Int), 2⟩).length := by rw [List.length_set, hold_length]; exact hm
  have hy := mv_yes (may := fun x => relB x.er x.st) (to := 1) (more := 1) hl (by rw [List.getElem_set_self]; simp [relB, eqB]; exact he)
  refine ws_rel h _ _ _ hy.1 (hy.2.trans ?_)
  rw [List.getElem_set_self, List.set_set]
  exact hold_next e0 i hN
theorem hold_sp {N i : Nat} {e0 : Int} (h : WS w b g cap (hold N e0 i) W) (hN : 0 < N) : Calls Try.prog 19 #[.pointer (some ⟨b, 0, none⟩)] W fun e w' => ∃ B : Int, e = .returned (.tuple #[.int .i64 (e0 + ((i / N : Nat) : Int)), .int .i64 B]) ∧ WS w b g cap (hold N e0 i) w' ∧ e0 + ((i / N : Nat) : Int) ≤ B ∧ B ≤ e0 + ((i / N : Nat) : Int) + 1 := by
  obtain ⟨h1, h2, h3⟩ := hold_spread e0 i hN
  exact (ws_spread h _ _ h1 rfl).mono fun e w' ⟨a1, a2⟩ => ⟨_, a1, a2, by omega, by omega⟩
end
theorem holds_out (n e t : Int) (w : World) (h : n < 1 ∨ 20 < n ∨ e < 0 ∨ 1000000 < e ∨ 200 < t) : Calls Try.prog 7 #[.int .i64 n, .int .i64 e, .int .i64 t] w (OkB w) := by
  have HW := Lib.hid (works_any w)
  by_cases h1 : n < 1
  · go_enter Try.func7, Try.ntmps7
    go_wp2_with ((go_at_call 8; with_reducible refine HW.out.mono ?_); rintro e w1 ⟨rfl, hb⟩; have HB := Lib.hid hb; clear hb)
    go_ret
    exact ⟨rfl, HB.out⟩
  by_cases h2 : 20 < n
  · go_enter Try.func7, Try.ntmps7
    go_wp2_with ((go_at_call 8; with_reducible refine HW.out.mono ?_); rintro e w1 ⟨rfl, hb⟩; have HB := Lib.hid hb; clear hb)
    go_ret
    exact ⟨rfl, HB.out⟩
  by_cases h3 : e < 0
  · go_enter Try.func7, Try.ntmps7
    go_wp2_with ((go_at_call 8; with_reducible refine HW.out.mono ?_); rintro e w1 ⟨rfl, hb⟩; have HB := Lib.hid hb; clear hb)
    go_ret
    exact ⟨rfl, HB.out⟩
  by_cases h4 : 1000000 < e
  · go_enter Try.func7, Try.ntmps7
    go_wp2_with ((go_at_call 8; with_reducible refine HW.out.mono ?_); rintro e w1 ⟨rfl, hb⟩; have HB := Lib.hid hb; clear hb)
    go_ret
    exact ⟨rfl, HB.out⟩
  have h5 : 200 < t := by omega
  clear h
  go_enter Try.func7, Try.ntmps7
  go_wp2_with ((go_at_call 8; with_reducible refine HW.out.mono ?_); rintro e w1 ⟨rfl, hb⟩; have HB := Lib.hid hb; clear hb)
  go_ret
  exact ⟨rfl, HB.out⟩
theorem holds_main (N : Nat) (e0 t : Int) (w : World) (hN1 : 1 ≤ N) (hN2 : N ≤ 20) (he0 : 0 ≤ e0) (he1 : e0 ≤ 1000000) (ht : t ≤ 200) : Calls Try.prog 7 #[.int .i64 (N : Int), .int .i64 e0, .int .i64 t] w (OkB w) := by
  have hmk := make_ints N (by omega)
  have i1 : (1 : Int) ≤ N := by omega
  have i2 : (N : Int) ≤ 20 := by omega
  have HZ := Lib.hid (zc_fc N e0)
  have HN := Lib.hid (fun W (hW : Below w.heap.size w W) hx => new_ws (w := w) (W := W) (.slice (some ⟨w.heap.size, 0, none⟩) N N) (List.replicate N e0) hW hx (by simpa using hN1) (by simp; omega) (erAll_rep he0 he1))
  go_enter Try.func7, Try.ntmps7
  go_wp2
  go_loopw [8] (fun i wr => ∃ k : Nat, k ≤ N ∧ i = .int .i64 k ∧ Hid (wr.heap[w.heap.size]? = some (.cells (fc N e0 k).toArray 3 (0, 0))) ∧ Hid (Below w.heap.size w wr)) (fun i _ => N - (RowKit.intOf i).toNat)
  case atStart => exact ⟨0, Nat.zero_le _, rfl, Lib.hid (by rw [← HZ.out]; exact heap_alloc_new w _), Lib.hid (below_alloc w _)⟩
  case round =>
    obtain ⟨k, hk, rfl, HH, HB⟩ := hrel
    by_cases hlt : k < N
    · have f1 := frozen_of_row wr w.heap.size k _ 3 HH.out
      have c1 := cell_of_row wr w.heap.size k _ 3 (0, 0) HH.out
      rw [fc_at e0 hlt] at c1
      clear hmk
      go_wp2
      go_roundw
      case rel => exact ⟨k + 1, by omega, by go_num, Lib.hid (by rw [← fc_set e0 hlt]; exact heap_setCell_same wr w.heap.size k _ 3 _ HH.out), Lib.hid (HB.out.setCell (Nat.le_refl _) _)⟩
      case measure => simp [RowKit.intOf]; omega
    · have hkl : k = N := by omega
      subst hkl
      have HX := Lib.hid (fc_ints HH.out)
      have HNN := Lib.hid (HN.out wr HB.out HX.out)
      rw [mk_rep] at HNN
      clear hmk HN HZ HX HH
      go_wp2_with (first
        | ((go_at_call 9; with_reducible refine HNN.out.mono ?_); rintro e W0 ⟨b, g, cap, rfl, h⟩; have S0 := Lib.hid h; clear h)
        | ((go_at_call 11; with_reducible refine (num_any _ _).mono ?_); rintro e w' ⟨rfl, rfl⟩))
      clear HNN
      go_loopw [11] (fun i wr => ∃ k' : Nat, k' ≤ t.toNat ∧ i = .int .i64 k' ∧ Hid (WS w b g cap (hold k e0 k') wr)) (fun i _ => t.toNat - (RowKit.intOf i).toNat)
      case atStart => exact ⟨0, Nat.zero_le _, rfl, S0⟩
      case round =>
        obtain ⟨i, hi, rfl, HS⟩ := hrel
        by_cases hlt2 : (i : Int) < t
        · have hq : ((i + 1) / k : Nat) ≤ 201 := Nat.le_trans (Nat.div_le_self _ _) (by omega)
          have hq0 : (i / k : Nat) ≤ 201 := Nat.le_trans (Nat.div_le_self _ _) (by omega)
          have T := Lib.hid (hold_tk HS.out hN1)
          have R := Lib.hid (fun W h => hold_rl (W := W) (w := w) (b := b) (g := g) (cap := cap) (i := i) (e0 := e0) h hN1 (by omega))
          have S := Lib.hid (fun W h => hold_sp (W := W) (w := w) (b := b) (g := g) (cap := cap) (i := i + 1) (e0 := e0) h hN1)
          have hd : ((i : Int) + 1) / (k : Int) = (((i + 1) / k : Nat) : Int) := by rw [Int.natCast_ediv]; rfl
          have HK := Lib.hid hi
          generalize i % k = M at *
          generalize i / k = Q0 at *
          generalize ((i + 1) / k : Nat) = Q at *
          have hq1 : (Q : Int) ≤ 201 := by omega
          have i3 : (i : Int) ≤ 200 := by omega
          clear hi hq
          go_wp2_with (first
            | ((go_at_call 17; with_reducible refine T.out.mono ?_); rintro e W1 ⟨rfl, h⟩; have S1 := Lib.hid h; clear h)
            | ((go_at_call 21; with_reducible refine (R.out _ S1.out).mono ?_); rintro e W2 ⟨rfl, h⟩; have S2 := Lib.hid h; clear h)
            | ((go_at_call 19; with_reducible refine (S.out _ S2.out).mono ?_); rintro e W3 ⟨B, rfl, h, hB1, hB2⟩; have S3 := Lib.hid h; clear h)
            | ((go_at_call 11; with_reducible refine (num_any _ _).mono ?_); rintro e w' ⟨rfl, rfl⟩))
          go_roundw
          case rel => exact ⟨i + 1, by omega, by go_num, S3⟩
          case measure => simp [RowKit.intOf]; omega
        · have HW := Lib.hid (works_any wr)
          go_wp2_with ((go_at_call 8; with_reducible refine HW.out.mono ?_); rintro e w1 ⟨rfl, hb⟩; have HB1 := Lib.hid hb; clear hb)
          go_ret
          exact ⟨rfl, HS.out.2.trans (HB1.out.mono HS.out.2.size)⟩
theorem holds_any (n e t : Int) (w : World) : Calls Try.prog 7 #[.int .i64 n, .int .i64 e, .int .i64 t] w (OkB w) := by
  by_cases h : n < 1 ∨ 20 < n ∨ e < 0 ∨ 1000000 < e ∨ 200 < t
  · exact holds_out n e t w h
  · obtain ⟨N, rfl⟩ : ∃ N : Nat, n = N := ⟨n.toNat, by omega⟩
    exact holds_main N e t w (by omega) (by omega) (by omega) (by omega) (by omega)
end Go.Proofs.Ytpojgjbgbbnojaa
