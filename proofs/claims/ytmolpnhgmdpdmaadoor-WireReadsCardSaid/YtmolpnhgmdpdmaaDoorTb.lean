/- The contracts of wire.Put and of the reference's Put and Same: both give the same bytes and error. Conditions: the value is an unsigned 64-bit integer. -/
import Derived.Test.YtmolpnhgmdpdmaaDoorTa
namespace Go.Proofs.YtmolpnhgmdpdmaaDoor
open Go.RowKit
set_option linter.unusedVariables false
set_option maxHeartbeats 400000

def BytErr (w : World) (l : List UInt8) (k : Int) (e : Ending) (w' : World) : Prop := ∃ v, e = .returned (.tuple #[v, .int .i64 k]) ∧ Byt w' v l ∧ Below w.heap.size w w'
/-- The bytes of Put, and its error. -/
def putL (v n : Int) : List UInt8 := if n < 1 ∨ 8 < n then [] else if onesZ (8 * n).toNat < v then [] else putB v.toNat n.toNat
def putE (v n : Int) : Int := if n < 1 ∨ 8 < n then 2 else if onesZ (8 * n).toNat < v then 3 else 0
theorem put_size {v n : Int} (h : n < 1 ∨ 8 < n) : putL v n = [] ∧ putE v n = 2 := by simp [putL, putE, h]
theorem put_range {v n : Int} (h0 : 1 ≤ n) (h1 : n ≤ 8) (hv : onesZ (8 * n).toNat < v) : putL v n = [] ∧ putE v n = 3 := by
  have h : ¬ (n < 1 ∨ 8 < n) := by omega
  simp [putL, putE, h, hv]
theorem put_ok {v n : Int} (h0 : 1 ≤ n) (h1 : n ≤ 8) (hv : v ≤ onesZ (8 * n).toNat) : putL v n = putB v.toNat n.toNat ∧ putE v n = 0 := by
  have h : ¬ (n < 1 ∨ 8 < n) := by omega
  have h' : ¬ onesZ (8 * n).toNat < v := by omega
  simp [putL, putE, h, h']

theorem Put_any (v n : Int) (w : World) (hv : 0 ≤ v) : Calls Tryd.prog 11 #[.int .u64 v, .int .i64 n] w (BytErr w (putL v n) (putE v n)) := by
  by_cases h : n < 1 ∨ 8 < n
  · have HP := Lib.hid (put_size (v := v) h)
    have H := Lib.hid h; clear h
    go_enter Tryd.func11, Tryd.ntmps11
    go_wp2_with fail
    refine (checkField_size _ _ _ H.out).mono ?_
    rintro e w' ⟨rfl, rfl⟩
    go_wp2
    go_ret2
    exact ⟨_, by rw [HP.out.2]; rfl, by rw [HP.out.1]; exact Byt.none _, Below.refl _ _⟩
  · have h0 : 1 ≤ n := by omega
    have h1 : n ≤ 8 := by omega
    clear h
    by_cases hr : onesZ (8 * n).toNat < v
    · have HP := Lib.hid (put_range h0 h1 hr)
      have H := Lib.hid hr; clear hr
      go_enter Tryd.func11, Tryd.ntmps11
      go_wp2_with fail
      refine (checkField_range _ _ _ h0 h1 H.out).mono ?_
      rintro e w' ⟨rfl, rfl⟩
      go_wp2
      go_ret2
      exact ⟨_, by rw [HP.out.2]; rfl, by rw [HP.out.1]; exact Byt.none _, Below.refl _ _⟩
    · have hr' : v ≤ onesZ (8 * n).toNat := by omega
      have HP := Lib.hid (put_ok h0 h1 hr')
      have H := Lib.hid hr'; clear hr hr'
      go_enter Tryd.func11, Tryd.ntmps11
      go_wp2_with fail
      refine (checkField_ok _ _ _ h0 h1 H.out).mono ?_
      rintro e w' ⟨rfl, rfl⟩
      go_wp2_with fail
      refine (appendField_any (.slice none 0 0) 0 [] v n w.heap.size w (World.ownsRow_nil _ _ _ _) hv (by omega) h1 (by omega) (Nat.le_refl _)).mono ?_
      rintro e w1 ⟨v1, rfl, hown, hg, -⟩
      have Hown := Lib.hid hown; clear hown
      have Hg := Lib.hid hg; clear hg
      go_wp2
      go_ret2
      refine ⟨v1, by rw [HP.out.2]; rfl, by rw [HP.out.1]; exact Byt.of_own (by simpa using Hown.out), ?_⟩
      exact (Below.refl _ _).grown Hg.out (Nat.le_refl _) (by simp [Value.ownBlock])

theorem Same_eq (v1 v2 : Value) (l : List UInt8) (w : World) (h1 : Byt w v1 l) (h2 : Byt w v2 l) : Calls Tryd.prog 13 #[v1, v2] w fun e w' => e = .returned (.bool true) ∧ w = w' := by
  have r1 := run_string 23 9 5 Tryd.underlying23 Tryd.underlying5 Tryd.underlying9 h1
  have r2 := run_string 23 9 5 Tryd.underlying23 Tryd.underlying5 Tryd.underlying9 h2
  clear h1 h2
  go_enter Tryd.func13, Tryd.ntmps13
  go_wp2
  go_ret
  exact ⟨rfl, rfl⟩

theorem shift_byte (X k : Nat) : (.int .u8 ((X : Int) / (256 : Int) ^ k % 256) : Value) = .int .u8 ((UInt8.ofNat (X / 256 ^ k)).toNat : Int) := by
  rw [← byte_shift, Int.pow_mul]; rfl
theorem div_pow (X k : Nat) : ((X / 256 ^ k : Nat) : Int) / 256 = ((X / 256 ^ (k + 1) : Nat) : Int) := by
  rw [Nat.pow_succ, ← Nat.div_div_eq_div_mul]; omega

def qp (X k : Nat) : Nat := X / 256 ^ k
theorem qp_succ (X k : Nat) : (Value.int .u64 ((qp X k : Int) / 256)) = .int .u64 (qp X (k + 1) : Int) := by
  unfold qp; rw [div_pow]
theorem refPut_step {w wr w1 : World} {o : Obj} {v v' : Value} {k X : Nat}
    (hown : w1.ownsRow w.heap.size 5 1 v' (k + 1) (bv (putB X k) ++ [.int .u8 ((qp X k : Int) % 256)])) (hb : Below w.heap.size w wr) (hg : (wr.alloc o).grownBy w1 v.ownBlock) (hv : wr.ownsRow w.heap.size 5 1 v k (bv (putB X k))) :
    w1.ownsRow w.heap.size 5 1 v' (k + 1) (bv (putB X (k + 1))) ∧ Below w.heap.size w w1 := by
  refine ⟨?_, (hb.alloc hb.size o).grown hg (Nat.le_trans hb.size (by simp)) fun j hj => (hv.lt j hj).1⟩
  have e : (.int .u8 ((qp X k : Int) % 256) : Value) = .int .u8 ((UInt8.ofNat (X / 256 ^ k)).toNat : Int) := by
    rw [← shift_byte]; unfold qp; congr 1
  rw [putB_succ, bv_append, ← show bv [UInt8.ofNat (X / 256 ^ k)] = [.int .u8 ((qp X k : Int) % 256)] by rw [e]; rfl] at *
  exact hown
set_option maxRecDepth 100000 in
theorem refPut_row (X N : Nat) (w : World) (hX : X < 18446744073709551616) (h0 : 1 ≤ N) (h1 : N ≤ 8) (post : Ending → World → Prop)
    (hyes : X / 256 ^ N = 0 → ∀ v w', w'.ownsRow w.heap.size 5 1 v N (bv (putB X N)) → Below w.heap.size w w' → post (.returned (.tuple #[v, .int .i64 0])) w')
    (hno : 0 < X / 256 ^ N → ∀ w', Below w.heap.size w w' → post (.returned (.tuple #[.slice none 0 0, .int .i64 3])) w') :
    Calls Tryd.prog 12 #[.int .u64 X, .int .i64 N] w post := by
  obtain ⟨i0, hi0, hz0, hz1, hz2⟩ := info_parts u8_info
  have HX := Lib.hid hX; clear hX
  have Hy := Lib.hid hyes; clear hyes
  have Hn := Lib.hid hno; clear hno
  have d1 : decide ((N : Int) < 1) = false := by simp; omega
  have d2 : decide (8 < (N : Int)) = false := by simp; omega
  go_enter Tryd.func12, Tryd.ntmps12
  go_wp2
  clear d1 d2
  go_loopw [0, 6, 7] (fun x v i wr => ∃ k : Nat, k ≤ N ∧ i = .int .i64 k ∧ x = .int .u64 (qp X k : Int) ∧ wr.ownsRow w.heap.size 5 1 v k (bv (putB X k)) ∧ Below w.heap.size w wr) (fun _ _ i _ => N - (intOf i).toNat)
  case atStart => exact ⟨0, Nat.zero_le _, rfl, by simp [qp], World.ownsRow_nil _ _ _ _, Below.refl _ _⟩
  case round =>
    obtain ⟨k, hk, rfl, rfl, hwn, hgr⟩ := hrel
    have Hwn := Lib.hid hwn; clear hwn
    have Hgr := Lib.hid hgr; clear hgr
    have hqb : (qp X k : Int) ≤ 18446744073709551615 := by have := HX.out; have := Nat.div_le_self X (256 ^ k); unfold qp; omega
    by_cases hlt : k < N
    · go_wp2_with (at_builtin; (refine wpList_append_own_at _ rfl (.tmp 19) (.tmp 23) 23 rfl w.heap.size 5 i0 (.int .u8 0) 1 1 Tryd.underlying23 hi0 hz0 hz1 hz2 rfl (by decide) _ k (bv (putB X k)) rfl (Hwn.out.alloc _) ⟨wr.heap.size, 0, none⟩ 1 1 [.int .u8 ((qp X k : Int) % 256)] rfl rfl ?c1 ?c2 ?c3 ?c4 ?c5 ?_))
      case c1 =>
        intro j u hj
        match j, hj with
        | 0, hj => simp at hj; subst hj; simp [Addr.add]
      case c2 => intro u hu; simp at hu; subst hu; rfl
      case c3 => unfold maxLen; omega
      case c4 => omega
      case c5 => have := Hgr.out.size; simp; omega
      intro v' w1 hown' hgrow _ hat'
      have hR := refPut_step hown' Hgr.out hgrow Hwn.out
      have HR := Lib.hid hR; clear hR hown' hgrow hat'
      go_wp2
      go_roundw
      case rel => exact ⟨k + 1, by omega, by go_num, by rw [qp_succ], HR.out⟩
      case measure => simp [intOf]; omega
    · have e : k = N := by omega
      have He := Lib.hid e; clear e
      go_wp2
      · have hq : 0 < qp X k := by assumption
        have e := He.out
        subst e
        exact Hn.out hq _ Hgr.out
      · have hq : ¬ 0 < qp X k := by assumption
        have e := He.out
        subst e
        exact Hy.out (Nat.eq_zero_of_not_pos hq) _ _ Hwn.out Hgr.out
theorem onesZ_lt (X N : Nat) : onesZ (8 * N) < (X : Int) ↔ 0 < X / 256 ^ N := by
  unfold onesZ
  have e : (2 : Int) ^ (8 * N) = ((256 ^ N : Nat) : Int) := by rw [Int.pow_mul]; simp
  have hp : 0 < 256 ^ N := Nat.pow_pos (by decide)
  rw [e, Nat.div_pos_iff]
  omega
theorem refPut_any (v n : Int) (w : World) (hv : 0 ≤ v) (hv1 : v ≤ 18446744073709551615) : Calls Tryd.prog 12 #[.int .u64 v, .int .i64 n] w (BytErr w (putL v n) (putE v n)) := by
  by_cases h : n < 1 ∨ 8 < n
  · have HP := Lib.hid (put_size (v := v) h)
    clear hv1
    rcases h with h | h
    · go_enter Tryd.func12, Tryd.ntmps12
      go_wp2
      go_ret2
      exact ⟨_, by rw [HP.out.2]; rfl, by rw [HP.out.1]; exact Byt.none _, Below.refl _ _⟩
    · have h1 : 1 ≤ n := by omega
      go_enter Tryd.func12, Tryd.ntmps12
      go_wp2
      go_ret2
      exact ⟨_, by rw [HP.out.2]; rfl, by rw [HP.out.1]; exact Byt.none _, Below.refl _ _⟩
  · obtain ⟨N, rfl⟩ := Int.eq_ofNat_of_zero_le (show 0 ≤ n by omega)
    obtain ⟨X, rfl⟩ := Int.eq_ofNat_of_zero_le hv
    have h0 : 1 ≤ (N : Int) := by omega
    have h1 : (N : Int) ≤ 8 := by omega
    have e8 : (8 * (N : Int)).toNat = 8 * N := by omega
    refine refPut_row X N w (by omega) (by omega) (by omega) _ (fun hq v w' ho hb => ?_) (fun hq w' hb => ?_)
    · have := put_ok (v := X) h0 h1 (by rw [e8]; have := onesZ_lt X N; omega)
      exact ⟨v, by rw [this.2], by rw [this.1]; exact Byt.of_own ho, hb⟩
    · have := put_range (v := X) h0 h1 (by rw [e8]; exact (onesZ_lt X N).2 hq)
      exact ⟨_, by rw [this.2], by rw [this.1]; exact Byt.none _, hb⟩
end Go.Proofs.YtmolpnhgmdpdmaaDoor
