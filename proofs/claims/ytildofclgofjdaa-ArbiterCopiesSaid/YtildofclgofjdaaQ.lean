/- The iterator that Queues returns: its contract. Conditions stand in each theorem. -/
import Derived.RangeFuncNested
import Derived.RangeFuncBound
import Derived.RangeFuncCalls
import Derived.RangeFuncLeaves
import Derived.Shelf.Abstract
import Derived.Shelf.RegionOpen
import Derived.OwnWalkIn
import Derived.TacticsInMore
import Derived.LoopNIn
import Derived.LoopIn
import Derived.Maps.OwnIn
import Derived.Test.YtildofclgofjdaaP
namespace Go.Proofs.Ytildofclgofjdaa
open Go.RowKit Go.Shelf
attribute [local go_sem] Oper.semAt_some
set_option linter.unusedVariables false
set_option maxHeartbeats 400000
set_option maxRecDepth 100000
/-- A number and a class that fit. -/
abbrev QC := { p : Int × Int // I64 p.1 ∧ I64 p.2 }
abbrev qv (x : QC) : Array Value := #[.int .i64 x.1.1, .int .i64 x.1.2]
/-- The blocks from lo up to hi are as they were. -/
def Kpt (lo hi : Nat) (W W' : World) : Prop := ∀ k, lo ≤ k → k < hi → W'.heap[k]? = W.heap[k]?
theorem Kpt.refl (lo hi : Nat) (W : World) : Kpt lo hi W W := fun _ _ _ => rfl
theorem Kpt.trans {lo hi : Nat} {A B C : World} (h : Kpt lo hi A B) (k : Kpt lo hi B C) : Kpt lo hi A C := fun i h1 h2 => (k i h1 h2).trans (h i h1 h2)
theorem Kpt.cell {lo hi : Nat} {W W' : World} (h : Kpt lo hi W W') {b o : Nat} (h1 : lo ≤ b) (h2 : b < hi) : W'.cell? ⟨b, o, none⟩ = W.cell? ⟨b, o, none⟩ := World.cell?_of_block (w := W) (h b h1 h2)
/-- What the iterator reads, in blocks from lo up to hi: the numbers and the map. -/
structure It (lo hi : Nat) (W : World) (B4 B3 : Nat) (L : List (Int × Int)) : Prop where
  b4 : lo ≤ B4 ∧ B4 < hi
  b3 : lo ≤ B3 ∧ B3 < hi
  srt : Srt L
  row : ∃ A c, W.cell? ⟨B4, 0, none⟩ = some (.slice A L.length c) ∧ (0 < L.length → ∃ g o, A = some ⟨g, o, none⟩ ∧ lo ≤ g ∧ g < hi ∧ ∀ j (hj : j < L.length), W.cell? ⟨g, o + j, none⟩ = some (.int .i64 L[j].1))
  map : 0 < L.length → ∃ mc, lo ≤ mc ∧ mc < hi ∧ W.cell? ⟨B3, 0, none⟩ = some (.map (some mc)) ∧ Mp W mc L
theorem It.keep {lo hi : Nat} {W W' : World} {B4 B3 : Nat} {L : List (Int × Int)} (h : It lo hi W B4 B3 L) (hb : Kpt lo hi W W') : It lo hi W' B4 B3 L := by
  obtain ⟨b4, b3, srt, ⟨A, c, hc, hr⟩, hm⟩ := h
  refine ⟨b4, b3, srt, ⟨A, c, (hb.cell b4.1 b4.2).trans hc, fun h0 => ?_⟩, fun h0 => ?_⟩
  · obtain ⟨g, o, e, hg1, hg, hj⟩ := hr h0
    exact ⟨g, o, e, hg1, hg, fun j hj' => (hb.cell hg1 hg).trans (hj j hj')⟩
  · obtain ⟨mc, hmc1, hmc, h1, h2⟩ := hm h0
    exact ⟨mc, hmc1, hmc, (hb.cell b3.1 b3.2).trans h1, h2.kept (hb mc hmc1 hmc)⟩
theorem srt_i64 {L : List (Int × Int)} (h : Srt L) (j : Nat) (hj : j < L.length) : I64 L[j].1 ∧ I64 L[j].2 := by
  have := h.2 _ (List.getElem_mem hj)
  unfold I64
  omega
theorem look_at_j {L : List (Int × Int)} (h : Srt L) (j : Nat) (hj : j < L.length) : (look L L[j].1).getD 0 = L[j].2 := by
  have e : look L L[j].1 = some L[j].2 := look_of_mem h (by exact List.getElem_mem hj)
  rw [e]
  rfl
set_option maxHeartbeats 2000000 in
theorem iter_in (n : Nat) (hn : 1 ≤ n) (l B4 B3 lo hi : Nat) (L : List (Int × Int)) (J Jx : List QC → World → Prop)
    (hY : ∀ pre x W, J pre W → pre.length < L.length → YieldAt Fence.wide (n - 1) Try.prog l #[.int .i64 x.1.1, .int .i64 x.1.2] W fun e W' =>
      (e = .returned (.bool true) ∧ J (pre ++ [x]) W' ∧ Kpt lo hi W W') ∨ (e = .returned (.bool false) ∧ Jx (pre ++ [x]) W'))
    (W : World) (hIt : It lo hi W B4 B3 L) (h0 : J [] W) :
    CallsIn Fence.wide n Try.prog 43 #[.func (.yield l) #[] #[], .pointer (some ⟨B4, 0, none⟩), .pointer (some ⟨B3, 0, none⟩)] W fun e W' => (∃ v, e = .returned v) ∧
      ((∃ ys : List QC, ys.map (·.1) = L ∧ J ys W') ∨ (∃ pre : List QC, pre.map (·.1) <+: L ∧ Jx pre W')) := by
  have hlen := hIt.srt.len
  obtain ⟨A, c, hc, hr⟩ := hIt.row
  have HR := Lib.hid hr
  have HI := Lib.hid hIt
  have HY := Lib.hid hY
  clear hr hIt hY
  refine callsIn_of_wp Try.func43 rfl trivial ?_ rfl
  simp only [Try.ntmps43, List.size_toArray, List.length_cons, List.length_nil, Nat.reduceAdd, Nat.reduceSub, Array.replicate_succ, Array.replicate_zero, List.push_toArray, List.append_toArray, List.nil_append, List.cons_append]
  gi_wp2
  gi_loopw [8] (fun i wr => ∃ (k : Nat) (pre : List QC), k ≤ L.length ∧ i = .int .i64 k ∧ Hid (pre.map (·.1) = L.take k) ∧ Hid (Kpt lo hi W wr) ∧ Hid (J pre wr))
    (fun i _ => L.length - (RowKit.intOf i).toNat)
  case atStart => exact ⟨0, [], Nat.zero_le _, rfl, rfl, Kpt.refl _ _ _, h0⟩
  case round =>
    obtain ⟨k, pre, hk, rfl, HP, HB, HJ⟩ := hrel
    by_cases hlt : k < L.length
    · obtain ⟨g, o, rfl, hg1, hg, hcell⟩ := HR.out (by omega)
      have c1 : wr.cell? ⟨g, o + k, none⟩ = some (.int .i64 L[k].1) := (HB.out.cell hg1 hg).trans (hcell k hlt)
      obtain ⟨mc, hmc1, hmc, c3, hmp⟩ := (HI.out.keep HB.out).map (by omega)
      have lk := hmp.look_at (srt_i64 HI.out.srt k hlt).1
      rw [look_at_j HI.out.srt k hlt] at lk
      have hpl : pre.length = k := by have := congrArg List.length HP.out; simp at this; omega
      obtain ⟨fn, tmps, assign, body, hy, hR⟩ := HY.out pre ⟨L[k], srt_i64 HI.out.srt k hlt⟩ wr HJ.out (by omega)
      dsimp only at hy
      have HT : Hid ((pre ++ [(⟨L[k], srt_i64 HI.out.srt k hlt⟩ : QC)]).map (fun x : QC => x.1) = L.take (k + 1)) := by rw [List.map_append, HP.out, List.take_succ_eq_append_getElem hlt]; exact Lib.hid rfl
      have HRR := Lib.hid hR
      clear hcell hmp hpl hR
      gi_wp2
      refine HRR.out.mono ?_
      rintro e W3 (⟨rfl, hJ3, hk3⟩ | ⟨rfl, hJx3⟩)
      · have HJ3 := Lib.hid hJ3
        have HB3 := Lib.hid (HB.out.trans hk3)
        clear hJ3 hk3
        gi_wp2
        go_roundw
        case rel => exact ⟨k + 1, _, by omega, by go_num, HT.out, HB3.out, HJ3.out⟩
        case measure => simp [RowKit.intOf]; omega
      · have HJ3 := Lib.hid hJx3
        clear hJx3
        gi_wp2
        refine bodyPost_ret (results_none rfl _ _ _) rfl ?_
        exact ⟨⟨_, rfl⟩, .inr ⟨_, by rw [HT.out]; exact List.take_prefix _ _, HJ3.out⟩⟩
    · have hkl : k = L.length := by omega
      subst hkl
      have hp := HP.out
      rw [List.take_length] at hp
      have HP2 := Lib.hid hp
      clear hp
      gi_wp2
      go_end0
      exact ⟨⟨_, rfl⟩, .inl ⟨pre, HP2.out, HJ.out⟩⟩
theorem iter_stops (n : Nat) (hn : 1 ≤ n) (B4 B3 lo hi : Nat) (L : List (Int × Int)) (w : World) (hIt : It lo hi w B4 B3 L) (hn₀ : hi ≤ w.heap.size) :
    SeqStopsK Fence.wide n Try.prog 43 #[.pointer (some ⟨B4, 0, none⟩), .pointer (some ⟨B3, 0, none⟩)] qv (Kpt lo hi) (fun xs => xs.map (·.1) = L) (fun pre => pre.map (·.1) <+: L) L.length w := fun l J Jx W hW hJ hJx hY h0 =>
  iter_in n hn l B4 B3 lo hi L J Jx hY W (hIt.keep (fun k _ hk => hW.block k (by omega))) h0
end Go.Proofs.Ytildofclgofjdaa
