/- The contract of Encode. Conditions stand in each theorem. -/
import Derived.Test.YtajlddgemkkcdaaF
namespace Go.Proofs.Ytajlddgemkkcdaa
open Go.RowKit
set_option linter.unusedVariables false
set_option maxHeartbeats 4000000
set_option maxRecDepth 100000
/-- The error of Encode, and its bytes. -/
def encE (n : Int) (l : List (Int × Int)) : Int := if capF n = 0 ∨ allB l = false then 2 else if capF n < l.length then 5 else 0
def encL (n : Int) (l : List (Int × Int)) : List UInt8 := if encE n l = 0 then bytesF ((l.length : Int) :: numsF l) ++ List.replicate (n.toNat - 4 * ((l.length : Int) :: numsF l).length) 0 else []
def EncPost (w : World) (b : List UInt8) (k : Int) (e : Ending) (w' : World) : Prop := (∃ v, e = .returned (.tuple #[v, .int .i64 k]) ∧ w'.ownsRow w.heap.size 5 1 v b.length (bv b)) ∧ Below w.heap.size w w'
theorem allB_at {l : List (Int × Int)} (h : allB l = true) : ∀ j (hj : j < l.length), vldB l[j] = true := by
  intro j hj
  unfold allB at h
  rw [List.all_eq_true] at h
  exact h _ (List.getElem_mem hj)
theorem nums_rng {l : List (Int × Int)} (h : allB l = true) (hl : l.length ≤ 4294967295) : ∀ n ∈ (l.length : Int) :: numsF l, 0 ≤ n ∧ n ≤ 4294967295 := by
  intro n hn
  rcases List.mem_cons.1 hn with rfl | hn
  · omega
  · unfold numsF at hn
    obtain ⟨p, hp, hx⟩ := List.mem_flatMap.1 hn
    obtain ⟨j, hj, rfl⟩ := List.mem_iff_getElem.1 hp
    obtain ⟨a, b, c, d⟩ := (vldB_iff l[j]).1 (allB_at h j hj)
    simp only [List.mem_cons, List.not_mem_nil, or_false] at hx
    rcases hx with rfl | rfl <;> omega
theorem capF_pos {n : Int} (h : capF n ≠ 0) : 12 ≤ n ∧ n ≤ 8192 ∧ capF n = (n - 4) / 8 := by
  unfold capF at h ⊢
  by_cases h1 : 12 ≤ n ∧ n ≤ 8192
  · rw [if_pos h1]; exact ⟨h1.1, h1.2, rfl⟩
  · rw [if_neg h1] at h; exact absurd rfl h
theorem encode_any (n : Int) (v : Value) (l : List (Int × Int)) (w : World) (hv : Ent w v l) (hl : l.length ≤ 100000) :
    Calls Try.prog 8 #[.int .i64 n, v] w (EncPost w (encL n l) (encE n l)) := by
  have HV := Lib.hid hv
  have HC := Lib.hid (fun W => cap_any n W)
  have HA := Lib.hid (fun (W : World) (hW : Below w.heap.size w W) => areValid_any v l W (hv.below hW) (by omega))
  have hli : (l.length : Int) ≤ 100000 := by omega
  obtain ⟨A, d, rfl, _, _⟩ := hv
  by_cases hc : capF n = 0
  · have e1 : encE n l = 2 := by unfold encE; rw [if_pos (.inl hc)]
    have e2 : encL n l = [] := by unfold encL; rw [if_neg (by rw [e1]; decide)]
    rw [e1, e2]
    rw [hc] at HC
    clear e1 e2 hc HA
    go_enter Try.func8, Try.ntmps8
    go_wp2_with ((go_at_call 11; with_reducible refine (HC.out _).mono ?_); rintro e w1 ⟨rfl, hg⟩; have HG := Lib.hid hg; clear hg)
    go_ret2
    exact ⟨⟨_, rfl, World.ownsRow_nil _ _ _ _⟩, HG.out.below⟩
  obtain ⟨n1, n2, hcn⟩ := capF_pos hc
  cases ha : allB l with
  | false =>
    have e1 : encE n l = 2 := by unfold encE; rw [if_pos (.inr ha)]
    have e2 : encL n l = [] := by unfold encL; rw [if_neg (by rw [e1]; decide)]
    rw [e1, e2]
    rw [ha] at HA
    have hcb : (capF n == 0) = false := by simpa using hc
    clear e1 e2 ha hcn
    generalize capF n = c at *
    go_enter Try.func8, Try.ntmps8
    go_wp2_with (first
      | ((go_at_call 11; with_reducible refine (HC.out _).mono ?_); rintro e w1 ⟨rfl, hg⟩; have HG := Lib.hid hg.below; clear hg)
      | ((go_at_call 23; with_reducible refine (HA.out _ HG.out).mono ?_); rintro e w2 ⟨rfl, hg⟩; have HG2 := Lib.hid (HG.out.trans (hg.below.mono HG.out.size)); clear hg))
    go_ret2
    exact ⟨⟨_, rfl, World.ownsRow_nil _ _ _ _⟩, HG2.out⟩
  | true =>
    rw [ha] at HA
    have hcb : (capF n == 0) = false := by simpa using hc
    by_cases hlong : capF n < (l.length : Int)
    · have e1 : encE n l = 5 := by unfold encE; rw [if_neg (by simp [hc, ha]), if_pos hlong]
      have e2 : encL n l = [] := by unfold encL; rw [if_neg (by rw [e1]; decide)]
      rw [e1, e2]
      clear e1 e2 ha hcn
      generalize capF n = c at *
      go_enter Try.func8, Try.ntmps8
      go_wp2_with (first
        | ((go_at_call 11; with_reducible refine (HC.out _).mono ?_); rintro e w1 ⟨rfl, hg⟩; first | (have HG2 := Lib.hid (HG1.out.trans (hg.below.mono HG1.out.size)); clear hg) | (have HG := Lib.hid hg.below; clear hg))
        | ((go_at_call 23; with_reducible refine (HA.out _ HG.out).mono ?_); rintro e w2 ⟨rfl, hg⟩; have HG1 := Lib.hid (HG.out.trans (hg.below.mono HG.out.size)); clear hg))
      go_ret2
      exact ⟨⟨_, rfl, World.ownsRow_nil _ _ _ _⟩, HG2.out⟩
    · have e1 : encE n l = 0 := by unfold encE; rw [if_neg (by simp [hc, ha]), if_neg hlong]
      have e2 : encL n l = bytesF ((l.length : Int) :: numsF l) ++ List.replicate (n.toNat - 4 * ((l.length : Int) :: numsF l).length) 0 := by unfold encL; rw [if_pos e1]
      rw [e1, e2]
      have hln : ((l.length : Int) :: numsF l).length = 2 * l.length + 1 := by rw [List.length_cons, numsF_length]
      have hfit : 4 * ((l.length : Int) :: numsF l).length ≤ n.toNat := by rw [hln]; omega
      have HRN := Lib.hid (nums_rng ha (by omega))
      have HFI := Lib.hid hfit
      have HLS := Lib.hid (show l.length ≤ 2000 by omega)
      have HAT := Lib.hid (allB_at ha)
      have HF := Lib.hid (fun (W : World) (hW : Below w.heap.size w W) => fields_any (.slice A l.length d) l W (HV.out.below hW) HLS.out HAT.out)
      have hnn : ((n.toNat : Nat) : Int) = n := by omega
      have HNN := Lib.hid hnn
      have hn8 : n.toNat ≤ 8192 := by omega
      have HFL := Lib.hid (fun (W : World) (B : Option Addr) (c : Nat) (base : Nat) (ho : W.ownsRow base 34 1 (.slice B ((l.length : Int) :: numsF l).length c) ((l.length : Int) :: numsF l).length (uv ((l.length : Int) :: numsF l))) => (show Calls Try.prog 24 #[.int .i64 n, .slice B ((l.length : Int) :: numsF l).length c] W (FillPost W (bytesF ((l.length : Int) :: numsF l) ++ List.replicate (n.toNat - 4 * ((l.length : Int) :: numsF l).length) 0)) from by
        have := filled_any n.toNat B c _ W base ho HRN.out HFI.out hn8
        rwa [hnn] at this))
      clear e1 e2 ha hcn hln hfit hnn hn8
      generalize ((l.length : Int) :: numsF l) = ns at *
      generalize bytesF ns ++ List.replicate (n.toNat - 4 * ns.length) 0 = bs at *
      generalize capF n = c at *
      go_enter Try.func8, Try.ntmps8
      go_wp2_with (first
        | ((go_at_call 25; with_reducible refine (HF.out _ HG2.out).mono ?_); rintro e w4 ⟨⟨B, c2, rfl, ho⟩, hb⟩; have HO := Lib.hid ho; have HG3 := Lib.hid (HG2.out.trans (hb.mono HG2.out.size)); clear ho hb)
        | ((go_at_call 24; with_reducible refine (HFL.out _ _ _ _ HO.out).mono ?_); rintro e w5 ⟨⟨v', rfl, ho⟩, hb⟩; have HO5 := Lib.hid ho; have HG4 := Lib.hid hb; clear ho hb)
        | ((go_at_call 11; with_reducible refine (HC.out _).mono ?_); rintro e w1 ⟨rfl, hg⟩; first | (have HG2 := Lib.hid (HG1.out.trans (hg.below.mono HG1.out.size)); clear hg) | (have HG := Lib.hid hg.below; clear hg))
        | ((go_at_call 23; with_reducible refine (HA.out _ HG.out).mono ?_); rintro e w2 ⟨rfl, hg⟩; have HG1 := Lib.hid (HG.out.trans (hg.below.mono HG.out.size)); clear hg))
      go_ret2
      have h9 := HO5.out
      exact ⟨⟨v', rfl, ⟨h9.1, h9.2.imp id fun ⟨g, cap, cur, e1, e2, r⟩ => ⟨g, cap, cur, e1, Nat.le_trans HG3.out.size e2, r⟩⟩⟩, HG3.out.trans (HG4.out.mono HG3.out.size)⟩
end Go.Proofs.Ytajlddgemkkcdaa
