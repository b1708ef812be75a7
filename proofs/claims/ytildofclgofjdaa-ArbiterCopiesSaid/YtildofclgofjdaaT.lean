/- What every arbiter's state keeps; the contract of the law's picks. Conditions stand in each theorem. -/
import Derived.Test.YtildofclgofjdaaS
namespace Go.Proofs.Ytildofclgofjdaa
open Go.RowKit
set_option linter.unusedVariables false
set_option maxHeartbeats 400000
set_option maxRecDepth 100000
theorem new_ok {wt : Bool} {bu hi me lo : Int} (h : valB wt bu hi me lo = true) : Ok (St.new wt bu hi me lo) := by
  unfold valB at h
  rw [Bool.and_eq_true] at h
  have hb := bur_in h.1
  have hw : wt = true → ∀ k, 1 ≤ k → k ≤ 3 → 1 ≤ wts hi me lo k ∧ wts hi me lo k ≤ 256 := by
    rintro rfl k h1 h3
    have h2 := h.2
    simp only [Bool.not_true, Bool.false_or, Bool.and_eq_true] at h2
    obtain ⟨⟨a, b⟩, c⟩ := h2
    unfold wgtB at a b c
    have a := of_decide_eq_true a
    have b := of_decide_eq_true b
    have c := of_decide_eq_true c
    have : k = 1 ∨ k = 2 ∨ k = 3 := by omega
    rcases this with rfl | rfl | rfl
    · exact a
    · exact b
    · exact c
  refine ⟨Srt.nil, hb, fun k => ⟨by show -1 ≤ (-1 : Int); omega, by show (-1 : Int) ≤ 65535; omega⟩, hw, fun h k h1 h3 => ?_⟩
  have := hw h k h1 h3
  exact ⟨by show 0 ≤ wts hi me lo k; omega, this.2⟩
theorem with_ok {s : St} (h : Ok s) {L : List (Int × Int)} (hL : Srt L) : Ok (s.with L) := ⟨hL, h.bu, h.last, h.wgt, h.cr⟩
theorem pkP_mem {s : St} (h : Ok s) {l : List (Int × Int)} (hc : anyB l = true) : s.pkP l ∈ s.wait l (s.pkC l) := low_mem _ _ (pkC_pos h hc).1
theorem pkP_pos {s : St} (h : Ok s) {l : List (Int × Int)} (hc : anyB l = true) : 0 < (s.pkP l).2 := by
  have hm := pkP_mem h hc
  unfold St.wait at hm
  have := (List.mem_filter.1 hm).2
  simp only [Bool.and_eq_true, decide_eq_true_eq] at this
  exact this.1
theorem pk1_cr (s : St) (l : List (Int × Int)) : (s.pk1 l).cr = (s.chS (s.cnt l)).cr := rfl
theorem pk1_bu (s : St) (l : List (Int × Int)) : (s.pk1 l).bu = s.bu := chS_bu s _
theorem pkM_range {s : St} (h : Ok s) {l : List (Int × Int)} (hc : anyB l = true) : 0 < s.pkM l ∧ s.pkM l ≤ (s.pkP l).2 ∧ (s.bu ≠ 0 → s.pkM l ≤ s.bu) ∧ (s.pkC l ≠ 0 → s.pkM l ≤ (s.chS (s.cnt l)).cr (s.pkC l)) := by
  have hp := pkP_pos h hc
  have hb := h.bu
  have hcr := (pkC_pos h hc).2
  unfold St.pkM St.tk bst
  rw [pk1_bu, pk1_cr]
  generalize (s.chS (s.cnt l)).cr (s.pkC l) = c at *
  generalize (s.pkP l).2 = n at *
  by_cases h0 : s.pkC l = 0
  · rw [if_pos h0]
    refine ⟨?_, ?_, ?_, fun h => absurd h0 h⟩ <;> split <;> omega
  · rw [if_neg h0]
    have := (hcr h0).1
    refine ⟨?_, ?_, ?_, fun _ => ?_⟩ <;> split <;> omega
theorem pkS_ok {s : St} (h : Ok s) {l : List (Int × Int)} (ha : acc s.L [] l = true) (hc : anyB l = true) : Ok (s.pkS l) := by
  have h1 := chS_ok h (s.cnt l)
  have hnum := wait_nums h.srt ha (s.pkC l) _ (pkP_mem h hc)
  have hr := pkM_range h hc
  have hlast : ∀ k, -1 ≤ (s.pk1 l).last k ∧ (s.pk1 l).last k ≤ 65535 := fun k => by
    unfold St.pk1 upd
    show -1 ≤ (if k = s.pkC l then (s.pkP l).1 else (s.chS (s.cnt l)).last k) ∧ (if k = s.pkC l then (s.pkP l).1 else (s.chS (s.cnt l)).last k) ≤ 65535
    split
    · omega
    · exact h1.last k
  have hp1 : Ok (s.pk1 l) := ⟨h1.srt, h1.bu, hlast, h1.wgt, h1.cr⟩
  unfold St.pkS St.tkS
  by_cases h0 : s.pkC l = 0
  · rw [if_pos h0]
    exact hp1
  · rw [if_neg h0]
    refine ⟨hp1.srt, hp1.bu, hp1.last, hp1.wgt, fun hw k k1 k3 => ?_⟩
    show 0 ≤ upd (s.pk1 l).cr (s.pkC l) ((s.pk1 l).cr (s.pkC l) - s.pkM l) k ∧ upd (s.pk1 l).cr (s.pkC l) ((s.pk1 l).cr (s.pkC l) - s.pkM l) k ≤ 256
    unfold upd
    split
    · have h4 := chC_lt s (s.cnt l)
      have h5 := hp1.cr hw (s.pkC l) (by omega) (by unfold St.pkC; omega)
      have h6 := hr.2.2.2 h0
      rw [pk1_cr] at h5 ⊢
      omega
    · exact hp1.cr hw k k1 k3
theorem pkS_L (s : St) (l : List (Int × Int)) : (s.pkS l).L = s.L := by
  unfold St.pkS St.tkS
  split
  · exact chS_L s _
  · exact chS_L s _
theorem pkS_wt (s : St) (l : List (Int × Int)) : (s.pkS l).wt = s.wt := by
  unfold St.pkS St.tkS
  split
  · exact chS_wt s _
  · exact chS_wt s _
theorem pkS_bu (s : St) (l : List (Int × Int)) : (s.pkS l).bu = s.bu := by
  unfold St.pkS St.tkS
  split
  · exact chS_bu s _
  · exact chS_bu s _
def PksPost (w : World) (b m : Nat) (s : St) (e : Ending) (w' : World) : Prop := e = .returned (.bool true) ∧ Arb w' b m s ∧ Chg (· = b) w w'
theorem picks_yes (b m : Nat) (s : St) (w : World) (h : Arb w b m s) (hs : Ok s) (v : Value) (l : List (Int × Int)) (hl : Lds w v l) (hR : Rng l) (hm : l.length ≤ 1000000000) (ha : acc s.L [] l = true) (hc : anyB l = true) (q n : Int) (hq : (s.pkP l).1 = q) (hn : s.pkM l = n) :
    Calls Try.prog 18 #[.pointer (some ⟨b, 0, none⟩), .int .i64 q, .int .i64 n, v] w (PksPost w b m (s.pkS l)) := by
  have HP := Pick_ok b m s w h hs v l hl hR hm ha hc
  rw [hq, hn] at HP
  have HP2 := Lib.hid HP
  clear HP h hs hl hR ha hc hq hn
  go_enter Try.func18, Try.ntmps18
  go_wp2_with ((go_at_call 17; with_reducible refine HP2.out.mono ?_); rintro e w1 ⟨rfl, hA, hC⟩; have HA := Lib.hid hA; have HC := Lib.hid hC; clear hA hC)
  go_ret
  exact ⟨rfl, HA.out, HC.out⟩
end Go.Proofs.Ytildofclgofjdaa
