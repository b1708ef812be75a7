/- The contracts of wire's checks and of appendField: what each returns and leaves. Conditions stand in each theorem. -/
import Derived.Test.YtajlddgemkkcdaaRows
import Derived.Test.YtajlddgemkkcdaaWA
import Derived.WalkKit
import Derived.ProofKit
import Derived.OpenShut
import Derived.Handy
import Derived.Outline
import Derived.Deep.QuietTactic
import Derived.BigQuiet
namespace Go.Proofs.Ytajlddgemkkcdaa
open Go.RowKit
set_option linter.unusedVariables false
set_option maxRecDepth 100000
set_option maxHeartbeats 400000

theorem u8_info : (Try.prog.info? 5).map (fun i => (i.zero, i.size, i.bytes)) = some (some (.int .u8 0), 1, 1) := by kernel_rfl
def onesZ (k : Nat) : Int := 2 ^ k - 1
theorem onesZ_eq (k : Nat) (h : k ≤ 64) : (18446744073709551615 : Int) / 2 ^ (64 - k) = onesZ k := by
  unfold onesZ
  have e : (18446744073709551616 : Int) = 2 ^ (64 - k) * 2 ^ k := by
    rw [← Int.pow_add, show 64 - k + k = 64 by omega]; rfl
  have hp : (0 : Int) < 2 ^ (64 - k) := Int.pow_pos (by decide)
  generalize (2 : Int) ^ (64 - k) = a at *
  generalize (2 : Int) ^ k = b at *
  have e2 : (18446744073709551615 : Int) = (a - 1) + a * (b - 1) := by rw [Int.mul_sub, ← e]; omega
  rw [e2, Int.add_mul_ediv_left _ _ (by omega), Int.ediv_eq_zero_of_lt (by omega) (by omega), Int.zero_add]
theorem ret_int {k : IntKind} {a b : Int} (h : a = b) : Ending.returned (.int k a) = .returned (.int k b) := by rw [h]
theorem ones_any (k : Int) (w : World) (h0 : 1 ≤ k) (h1 : k ≤ 64) : Calls Try.prog 105 #[.int .i64 k] w fun e w' => e = .returned (.int .u64 (onesZ k.toNat)) ∧ w = w' := by
  go_enter Try.func105, Try.ntmps105
  go_wp2
  go_ret
  refine ⟨ret_int ?_, rfl⟩
  rw [show (64 - k).toNat = 64 - k.toNat by omega]
  exact onesZ_eq _ (by omega)
theorem checkSize_bad (n : Int) (w : World) (h : n < 1 ∨ 8 < n) : Calls Try.prog 104 #[.int .i64 n] w fun e w' => e = .returned (.int .i64 2) ∧ w = w' := by
  rcases h with h | h
  · go_enter Try.func104, Try.ntmps104
    go_wp2
    go_ret
    exact ⟨rfl, rfl⟩
  · have h1 : 1 ≤ n := by omega
    go_enter Try.func104, Try.ntmps104
    go_wp2
    go_ret
    exact ⟨rfl, rfl⟩
theorem checkSize_ok (n : Int) (w : World) (h0 : 1 ≤ n) (h1 : n ≤ 8) : Calls Try.prog 104 #[.int .i64 n] w fun e w' => e = .returned (.int .i64 0) ∧ w = w' := by
  go_enter Try.func104, Try.ntmps104
  go_wp2
  go_ret
  exact ⟨rfl, rfl⟩
theorem checkField_size (v n : Int) (w : World) (h : n < 1 ∨ 8 < n) : Calls Try.prog 93 #[.int .u64 v, .int .i64 n] w fun e w' => e = .returned (.int .i64 2) ∧ w = w' := by
  go_enter Try.func93, Try.ntmps93
  go_wp2_with fail
  refine (checkSize_bad _ _ h).mono ?_
  rintro e w' ⟨rfl, rfl⟩
  go_wp2
  go_ret
  exact ⟨rfl, rfl⟩
theorem checkField_ok (v n : Int) (w : World) (h0 : 1 ≤ n) (h1 : n ≤ 8) (hv : v ≤ onesZ (8 * n).toNat) : Calls Try.prog 93 #[.int .u64 v, .int .i64 n] w fun e w' => e = .returned (.int .i64 0) ∧ w = w' := by
  go_enter Try.func93, Try.ntmps93
  go_wp2_with fail
  refine (checkSize_ok _ _ h0 h1).mono ?_
  rintro e w' ⟨rfl, rfl⟩
  go_wp2_with fail
  refine (ones_any _ _ (by omega) (by omega)).mono ?_
  rintro e w' ⟨rfl, rfl⟩
  go_wp2
  go_ret
  exact ⟨rfl, rfl⟩
theorem checkField_range (v n : Int) (w : World) (h0 : 1 ≤ n) (h1 : n ≤ 8) (hv : onesZ (8 * n).toNat < v) : Calls Try.prog 93 #[.int .u64 v, .int .i64 n] w fun e w' => e = .returned (.int .i64 3) ∧ w = w' := by
  go_enter Try.func93, Try.ntmps93
  go_wp2_with fail
  refine (checkSize_ok _ _ h0 h1).mono ?_
  rintro e w' ⟨rfl, rfl⟩
  go_wp2_with fail
  refine (ones_any _ _ (by omega) (by omega)).mono ?_
  rintro e w' ⟨rfl, rfl⟩
  go_wp2
  go_ret
  exact ⟨rfl, rfl⟩
def AppF (w : World) (v0 : Value) (base n : Nat) (l : List UInt8) (e : Ending) (w' : World) : Prop :=
  ∃ v', e = .returned v' ∧ w'.ownsRow base 5 1 v' n (bv l) ∧ w.grownBy w' v0.ownBlock ∧ (v'.ownBlock = v0.ownBlock ∨ ∃ g, v'.ownBlock = some g ∧ w.heap.size ≤ g)
theorem byte_shift (X k : Nat) : (.int .u8 ((X : Int) / 2 ^ (8 * k) % 256) : Value) = .int .u8 ((UInt8.ofNat (X / 256 ^ k)).toNat : Int) := by
  have e : (2 : Int) ^ (8 * k) = ((256 ^ k : Nat) : Int) := by
    rw [Int.pow_mul]; simp
  rw [e]
  congr 1
theorem appField_step {w wr w1 : World} {o : Obj} {v0 v v' : Value} {base n0 k X : Nat} {l0 : List UInt8}
    (hown : w1.ownsRow base 5 1 v' (n0 + k + 1) (bv (l0 ++ putB X k) ++ [.int .u8 ((X : Int) / 2 ^ (8 * k) % 256)]))
    (hgr : w.grownBy wr v0.ownBlock) (hgrow : (wr.alloc o).grownBy w1 v.ownBlock) (hat : v.ownBlock = v0.ownBlock ∨ ∃ g, v.ownBlock = some g ∧ w.heap.size ≤ g)
    (hat' : v'.ownBlock = v.ownBlock ∨ v'.ownBlock = some (wr.heap.size + 1)) :
    w1.ownsRow base 5 1 v' (n0 + (k + 1)) (bv (l0 ++ putB X (k + 1))) ∧ w.grownBy w1 v0.ownBlock ∧ (v'.ownBlock = v0.ownBlock ∨ ∃ g, v'.ownBlock = some g ∧ w.heap.size ≤ g) := by
  have hs : w.heap.size ≤ (wr.alloc o).heap.size := Nat.le_trans hgr.size (by simp)
  refine ⟨?_, ⟨hgrow.os.trans hgr.os, hgrow.tape.trans hgr.tape, hgrow.output.trans hgr.output, Nat.le_trans hs hgrow.size, fun j hj hne => ?_⟩, ?_⟩
  · rw [byte_shift] at hown
    rw [putB_succ, ← List.append_assoc, bv_append]
    exact hown
  · rw [hgrow.block j (by omega) ?_, Below.heap_alloc wr o j (Nat.lt_of_lt_of_le hj hgr.size)]
    · exact hgr.block j hj hne
    · rcases hat with e | ⟨g, e, hg⟩ <;> rw [e]
      · exact hne
      · intro h; injection h with h; omega
  · rcases hat' with e | e
    · rw [e]; exact hat
    · exact .inr ⟨_, e, by have := hgr.size; omega⟩
set_option maxRecDepth 100000 in
theorem appendField_any (v0 : Value) (n0 : Nat) (l0 : List UInt8) (V n : Int) (base : Nat) (w : World) (hown : w.ownsRow base 5 1 v0 n0 (bv l0)) (hV : 0 ≤ V) (h0 : 0 ≤ n) (hn : n ≤ 8)
    (hn0 : n0 ≤ 1099511627776) (hbase : base ≤ w.heap.size) :
    Calls Try.prog 94 #[v0, .int .u64 V, .int .i64 n] w (AppF w v0 base (n0 + n.toNat) (l0 ++ putB V.toNat n.toNat)) := by
  obtain ⟨i0, hi0, hz0, hz1, hz2⟩ := info_parts u8_info
  obtain ⟨N, rfl⟩ := Int.eq_ofNat_of_zero_le h0
  obtain ⟨X, rfl⟩ := Int.eq_ofNat_of_zero_le hV
  rw [Int.toNat_natCast, Int.toNat_natCast]
  have Hn0 := Lib.hid hn0; clear hn0
  have Hown := Lib.hid hown; clear hown
  go_enter Try.func94, Try.ntmps94
  go_wp2
  go_loopw [0, 9] (fun v i wr => ∃ k : Nat, k ≤ N ∧ i = .int .i64 k ∧ wr.ownsRow base 5 1 v (n0 + k) (bv (l0 ++ putB X k)) ∧ w.grownBy wr v0.ownBlock ∧ (v.ownBlock = v0.ownBlock ∨ ∃ g, v.ownBlock = some g ∧ w.heap.size ≤ g)) (fun _ i _ => N - (intOf i).toNat)
  case atStart => exact ⟨0, Nat.zero_le _, rfl, by simpa [putB_zero] using Hown.out, World.grownBy.refl _ _, .inl rfl⟩
  case round =>
    obtain ⟨k, hk, rfl, hwn, hgr, hat⟩ := hrel
    have Hwn := Lib.hid hwn; clear hwn
    have Hgr := Lib.hid hgr; clear hgr
    have Hat := Lib.hid hat; clear hat
    by_cases hlt : k < N
    · go_wp2_with (at_builtin; (refine wpList_append_own_at _ rfl (.tmp 12) (.tmp 18) 24 rfl base 5 i0 (.int .u8 0) 1 1 Try.underlying24 hi0 hz0 hz1 hz2 rfl (by decide) _ (n0 + k) (bv (l0 ++ putB X k)) rfl (Hwn.out.alloc _) ⟨wr.heap.size, 0, none⟩ 1 1 [.int .u8 ((X : Int) / 2 ^ (8 * k) % 256)] rfl rfl ?c1 ?c2 ?c3 ?c4 ?c5 ?_))
      case c1 =>
        intro j u hj
        match j, hj with
        | 0, hj => simp at hj; subst hj; simp [Addr.add]
      case c2 => intro u hu; simp at hu; subst hu; rfl
      case c3 => have := Hn0.out; unfold maxLen; omega
      case c4 => have := Hn0.out; omega
      case c5 => have := Hgr.out.size; simp; omega
      intro v' w1 hown' hgrow _ hat'
      have hR := appField_step (l0 := l0) hown' Hgr.out hgrow Hat.out hat'
      have HR := Lib.hid hR; clear hR hown' hgrow hat'
      go_wp2
      go_roundw
      case rel => exact ⟨k + 1, by omega, by go_num, HR.out⟩
      case measure => simp [intOf]; omega
    · have e : k = N := by omega
      have He := Lib.hid e; clear e
      go_wp2
      go_ret
      have e := He.out
      subst e
      exact ⟨_, rfl, Hwn.out, Hgr.out, Hat.out⟩
def BytErr (w : World) (l : List UInt8) (k : Int) (e : Ending) (w' : World) : Prop := ∃ v, e = .returned (.tuple #[v, .int .i64 k]) ∧ Byt w' v l ∧ Below w.heap.size w w'
/-- The bytes of Put, and its error. -/
def putL (v n : Int) : List UInt8 := if n < 1 ∨ 8 < n then [] else if onesZ (8 * n).toNat < v then [] else putB v.toNat n.toNat
def putE (v n : Int) : Int := if n < 1 ∨ 8 < n then 2 else if onesZ (8 * n).toNat < v then 3 else 0
theorem put_size {v n : Int} (h : n < 1 ∨ 8 < n) : putL v n = [] ∧ putE v n = 2 := by simp [putL, putE, h]
theorem put_range {v n : Int} (h0 : 1 ≤ n) (h1 : n ≤ 8) (hv : onesZ (8 * n).toNat < v) : putL v n = [] ∧ putE v n = 3 := by
  have h : ¬ (n < 1 ∨ 8 < n) := by omega
  simp [putL, putE, h, hv]
theorem put_ok {v n : Int} (h0 : 1 ≤ n) (h1 : n ≤ 8) (hv : v ≤ onesZ (8 * n).toNat) : putL v n = putB v.toNat n.toNat ∧ putE v n = 0 := by
  have h : ¬ (n < 1 ∨ 8 < n) := by omega
  have h' : ¬ onesZ (8 * n).toNat < v := by omega
  simp [putL, putE, h, h']
end Go.Proofs.Ytajlddgemkkcdaa
