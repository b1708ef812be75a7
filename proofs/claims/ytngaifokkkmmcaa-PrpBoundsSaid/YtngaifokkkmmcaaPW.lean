/- The contracts of wire.Put and wire.Get and what they call; bytes of a number. Conditions stand in each theorem. -/
import Derived.Test.YtngaifokkkmmcaaD
import Derived.Laws.BitsAllLaws
import Derived.ProofKit
import Derived.OpenShut
import Derived.Handy
namespace Go.Proofs.Ytngaifokkkmmcaa
open Go.RowKit
set_option linter.unusedVariables false
set_option maxRecDepth 100000
set_option maxHeartbeats 400000
def putB (v : Nat) (n : Nat) : List UInt8 := (List.range n).map fun i => UInt8.ofNat (v / 256 ^ i)
theorem putB_zero (v : Nat) : putB v 0 = [] := rfl
theorem putB_succ (v n : Nat) : putB v (n + 1) = putB v n ++ [UInt8.ofNat (v / 256 ^ n)] := by simp [putB, List.range_succ]
theorem putB_length (v n : Nat) : (putB v n).length = n := by simp [putB]
def onesZ (k : Nat) : Int := 2 ^ k - 1
theorem onesZ_eq (k : Nat) (h : k ≤ 64) : (18446744073709551615 : Int) / 2 ^ (64 - k) = onesZ k := by
  unfold onesZ
  have e : (18446744073709551616 : Int) = 2 ^ (64 - k) * 2 ^ k := by
    rw [← Int.pow_add, show 64 - k + k = 64 by omega]; rfl
  have hp : (0 : Int) < 2 ^ (64 - k) := Int.pow_pos (by decide)
  generalize (2 : Int) ^ (64 - k) = a at *
  generalize (2 : Int) ^ k = b at *
  have e2 : (18446744073709551615 : Int) = (a - 1) + a * (b - 1) := by rw [Int.mul_sub, ← e]; omega
  rw [e2, Int.add_mul_ediv_left _ _ (by omega), Int.ediv_eq_zero_of_lt (by omega) (by omega), Int.zero_add]
theorem ret_int {k : IntKind} {a b : Int} (h : a = b) : Ending.returned (.int k a) = .returned (.int k b) := by rw [h]
theorem ones_any (k : Int) (w : World) (h0 : 1 ≤ k) (h1 : k ≤ 64) : Calls Try.prog 80 #[.int .i64 k] w fun e w' => e = .returned (.int .u64 (onesZ k.toNat)) ∧ w = w' := by
  go_enter Try.func80, Try.ntmps80
  go_wp2
  go_ret
  refine ⟨ret_int ?_, rfl⟩
  rw [show (64 - k).toNat = 64 - k.toNat by omega]
  exact onesZ_eq _ (by omega)
theorem checkSize_bad (n : Int) (w : World) (h : n < 1 ∨ 8 < n) : Calls Try.prog 79 #[.int .i64 n] w fun e w' => e = .returned (.int .i64 2) ∧ w = w' := by
  rcases h with h | h
  · go_enter Try.func79, Try.ntmps79
    go_wp2
    go_ret
    exact ⟨rfl, rfl⟩
  · have h1 : 1 ≤ n := by omega
    go_enter Try.func79, Try.ntmps79
    go_wp2
    go_ret
    exact ⟨rfl, rfl⟩
theorem checkSize_ok (n : Int) (w : World) (h0 : 1 ≤ n) (h1 : n ≤ 8) : Calls Try.prog 79 #[.int .i64 n] w fun e w' => e = .returned (.int .i64 0) ∧ w = w' := by
  go_enter Try.func79, Try.ntmps79
  go_wp2
  go_ret
  exact ⟨rfl, rfl⟩
theorem checkField_size (v n : Int) (w : World) (h : n < 1 ∨ 8 < n) : Calls Try.prog 77 #[.int .u64 v, .int .i64 n] w fun e w' => e = .returned (.int .i64 2) ∧ w = w' := by
  go_enter Try.func77, Try.ntmps77
  go_wp2_with fail
  refine (checkSize_bad _ _ h).mono ?_
  rintro e w' ⟨rfl, rfl⟩
  go_wp2
  go_ret
  exact ⟨rfl, rfl⟩
theorem checkField_ok (v n : Int) (w : World) (h0 : 1 ≤ n) (h1 : n ≤ 8) (hv : v ≤ onesZ (8 * n).toNat) : Calls Try.prog 77 #[.int .u64 v, .int .i64 n] w fun e w' => e = .returned (.int .i64 0) ∧ w = w' := by
  go_enter Try.func77, Try.ntmps77
  go_wp2_with fail
  refine (checkSize_ok _ _ h0 h1).mono ?_
  rintro e w' ⟨rfl, rfl⟩
  go_wp2_with fail
  refine (ones_any _ _ (by omega) (by omega)).mono ?_
  rintro e w' ⟨rfl, rfl⟩
  go_wp2
  go_ret
  exact ⟨rfl, rfl⟩
theorem checkField_range (v n : Int) (w : World) (h0 : 1 ≤ n) (h1 : n ≤ 8) (hv : onesZ (8 * n).toNat < v) : Calls Try.prog 77 #[.int .u64 v, .int .i64 n] w fun e w' => e = .returned (.int .i64 3) ∧ w = w' := by
  go_enter Try.func77, Try.ntmps77
  go_wp2_with fail
  refine (checkSize_ok _ _ h0 h1).mono ?_
  rintro e w' ⟨rfl, rfl⟩
  go_wp2_with fail
  refine (ones_any _ _ (by omega) (by omega)).mono ?_
  rintro e w' ⟨rfl, rfl⟩
  go_wp2
  go_ret
  exact ⟨rfl, rfl⟩
def AppF (w : World) (v0 : Value) (base n : Nat) (l : List UInt8) (e : Ending) (w' : World) : Prop :=
  ∃ v', e = .returned v' ∧ w'.ownsRow base 5 1 v' n (bv l) ∧ w.grownBy w' v0.ownBlock ∧ (v'.ownBlock = v0.ownBlock ∨ ∃ g, v'.ownBlock = some g ∧ w.heap.size ≤ g)
theorem byte_shift (X k : Nat) : (.int .u8 ((X : Int) / 2 ^ (8 * k) % 256) : Value) = .int .u8 ((UInt8.ofNat (X / 256 ^ k)).toNat : Int) := by
  have e : (2 : Int) ^ (8 * k) = ((256 ^ k : Nat) : Int) := by
    rw [Int.pow_mul]; simp
  rw [e]
  congr 1
theorem appField_step {w wr w1 : World} {o : Obj} {v0 v v' : Value} {base n0 k X : Nat} {l0 : List UInt8}
    (hown : w1.ownsRow base 5 1 v' (n0 + k + 1) (bv (l0 ++ putB X k) ++ [.int .u8 ((X : Int) / 2 ^ (8 * k) % 256)]))
    (hgr : w.grownBy wr v0.ownBlock) (hgrow : (wr.alloc o).grownBy w1 v.ownBlock) (hat : v.ownBlock = v0.ownBlock ∨ ∃ g, v.ownBlock = some g ∧ w.heap.size ≤ g)
    (hat' : v'.ownBlock = v.ownBlock ∨ v'.ownBlock = some (wr.heap.size + 1)) :
    w1.ownsRow base 5 1 v' (n0 + (k + 1)) (bv (l0 ++ putB X (k + 1))) ∧ w.grownBy w1 v0.ownBlock ∧ (v'.ownBlock = v0.ownBlock ∨ ∃ g, v'.ownBlock = some g ∧ w.heap.size ≤ g) := by
  have hs : w.heap.size ≤ (wr.alloc o).heap.size := Nat.le_trans hgr.size (by simp)
  refine ⟨?_, ⟨hgrow.os.trans hgr.os, hgrow.tape.trans hgr.tape, hgrow.output.trans hgr.output, Nat.le_trans hs hgrow.size, fun j hj hne => ?_⟩, ?_⟩
  · rw [byte_shift] at hown
    rw [putB_succ, ← List.append_assoc, bv_append]
    exact hown
  · rw [hgrow.block j (by omega) ?_, Below.heap_alloc wr o j (Nat.lt_of_lt_of_le hj hgr.size)]
    · exact hgr.block j hj hne
    · rcases hat with e | ⟨g, e, hg⟩ <;> rw [e]
      · exact hne
      · intro h; injection h with h; omega
  · rcases hat' with e | e
    · rw [e]; exact hat
    · exact .inr ⟨_, e, by have := hgr.size; omega⟩
set_option maxRecDepth 100000 in
theorem appendField_any (v0 : Value) (n0 : Nat) (l0 : List UInt8) (V n : Int) (base : Nat) (w : World) (hown : w.ownsRow base 5 1 v0 n0 (bv l0)) (hV : 0 ≤ V) (h0 : 0 ≤ n) (hn : n ≤ 8)
    (hn0 : n0 ≤ 1099511627776) (hbase : base ≤ w.heap.size) :
    Calls Try.prog 78 #[v0, .int .u64 V, .int .i64 n] w (AppF w v0 base (n0 + n.toNat) (l0 ++ putB V.toNat n.toNat)) := by
  obtain ⟨i0, hi0, hz0, hz1, hz2⟩ := info_parts u8_info
  obtain ⟨N, rfl⟩ := Int.eq_ofNat_of_zero_le h0
  obtain ⟨X, rfl⟩ := Int.eq_ofNat_of_zero_le hV
  rw [Int.toNat_natCast, Int.toNat_natCast]
  have Hn0 := Lib.hid hn0; clear hn0
  have Hown := Lib.hid hown; clear hown
  go_enter Try.func78, Try.ntmps78
  go_wp2
  go_loopw [0, 9] (fun v i wr => ∃ k : Nat, k ≤ N ∧ i = .int .i64 k ∧ wr.ownsRow base 5 1 v (n0 + k) (bv (l0 ++ putB X k)) ∧ w.grownBy wr v0.ownBlock ∧ (v.ownBlock = v0.ownBlock ∨ ∃ g, v.ownBlock = some g ∧ w.heap.size ≤ g)) (fun _ i _ => N - (RowKit.intOf i).toNat)
  case atStart => exact ⟨0, Nat.zero_le _, rfl, by simpa [putB_zero] using Hown.out, World.grownBy.refl _ _, .inl rfl⟩
  case round =>
    obtain ⟨k, hk, rfl, hwn, hgr, hat⟩ := hrel
    have Hwn := Lib.hid hwn; clear hwn
    have Hgr := Lib.hid hgr; clear hgr
    have Hat := Lib.hid hat; clear hat
    by_cases hlt : k < N
    · go_wp2_with (at_builtin; (refine wpList_append_own_at _ rfl (.tmp 12) (.tmp 18) 25 rfl base 5 i0 (.int .u8 0) 1 1 Try.underlying25 hi0 hz0 hz1 hz2 rfl (by decide) _ (n0 + k) (bv (l0 ++ putB X k)) rfl (Hwn.out.alloc _) ⟨wr.heap.size, 0, none⟩ 1 1 [.int .u8 ((X : Int) / 2 ^ (8 * k) % 256)] rfl rfl ?c1 ?c2 ?c3 ?c4 ?c5 ?_))
      case c1 =>
        intro j u hj
        match j, hj with
        | 0, hj => simp at hj; subst hj; simp [Addr.add]
      case c2 => intro u hu; simp at hu; subst hu; rfl
      case c3 => have := Hn0.out; unfold maxLen; omega
      case c4 => have := Hn0.out; omega
      case c5 => have := Hgr.out.size; simp; omega
      intro v' w1 hown' hgrow _ hat'
      have hR := appField_step (l0 := l0) hown' Hgr.out hgrow Hat.out hat'
      have HR := Lib.hid hR; clear hR hown' hgrow hat'
      go_wp2
      go_roundw
      case rel => exact ⟨k + 1, by omega, by go_num, HR.out⟩
      case measure => simp [RowKit.intOf]; omega
    · have e : k = N := by omega
      have He := Lib.hid e; clear e
      go_wp2
      go_ret
      have e := He.out
      subst e
      exact ⟨_, rfl, Hwn.out, Hgr.out, Hat.out⟩
def BytErr (w : World) (l : List UInt8) (k : Int) (e : Ending) (w' : World) : Prop := ∃ v, e = .returned (.tuple #[v, .int .i64 k]) ∧ Byt w' v l ∧ Below w.heap.size w w'
/-- The bytes of Put, and its error. -/
def putL (v n : Int) : List UInt8 := if n < 1 ∨ 8 < n then [] else if onesZ (8 * n).toNat < v then [] else putB v.toNat n.toNat
def putE (v n : Int) : Int := if n < 1 ∨ 8 < n then 2 else if onesZ (8 * n).toNat < v then 3 else 0
theorem put_size {v n : Int} (h : n < 1 ∨ 8 < n) : putL v n = [] ∧ putE v n = 2 := by simp [putL, putE, h]
theorem put_range {v n : Int} (h0 : 1 ≤ n) (h1 : n ≤ 8) (hv : onesZ (8 * n).toNat < v) : putL v n = [] ∧ putE v n = 3 := by
  have h : ¬ (n < 1 ∨ 8 < n) := by omega
  simp [putL, putE, h, hv]
theorem put_ok {v n : Int} (h0 : 1 ≤ n) (h1 : n ≤ 8) (hv : v ≤ onesZ (8 * n).toNat) : putL v n = putB v.toNat n.toNat ∧ putE v n = 0 := by
  have h : ¬ (n < 1 ∨ 8 < n) := by omega
  have h' : ¬ onesZ (8 * n).toNat < v := by omega
  simp [putL, putE, h, h']
theorem Put_any (v n : Int) (w : World) (hv : 0 ≤ v) : Calls Try.prog 75 #[.int .u64 v, .int .i64 n] w (BytErr w (putL v n) (putE v n)) := by
  by_cases h : n < 1 ∨ 8 < n
  · have HP := Lib.hid (put_size (v := v) h)
    have H := Lib.hid h; clear h
    go_enter Try.func75, Try.ntmps75
    go_wp2_with fail
    refine (checkField_size _ _ _ H.out).mono ?_
    rintro e w' ⟨rfl, rfl⟩
    go_wp2
    go_ret2
    exact ⟨_, by rw [HP.out.2]; rfl, by rw [HP.out.1]; exact Byt.nil _, Below.refl _ _⟩
  · have h0 : 1 ≤ n := by omega
    have h1 : n ≤ 8 := by omega
    clear h
    by_cases hr : onesZ (8 * n).toNat < v
    · have HP := Lib.hid (put_range h0 h1 hr)
      have H := Lib.hid hr; clear hr
      go_enter Try.func75, Try.ntmps75
      go_wp2_with fail
      refine (checkField_range _ _ _ h0 h1 H.out).mono ?_
      rintro e w' ⟨rfl, rfl⟩
      go_wp2
      go_ret2
      exact ⟨_, by rw [HP.out.2]; rfl, by rw [HP.out.1]; exact Byt.nil _, Below.refl _ _⟩
    · have hr' : v ≤ onesZ (8 * n).toNat := by omega
      have HP := Lib.hid (put_ok h0 h1 hr')
      have H := Lib.hid hr'; clear hr hr'
      go_enter Try.func75, Try.ntmps75
      go_wp2_with fail
      refine (checkField_ok _ _ _ h0 h1 H.out).mono ?_
      rintro e w' ⟨rfl, rfl⟩
      go_wp2_with fail
      refine (appendField_any (.slice none 0 0) 0 [] v n w.heap.size w (World.ownsRow_nil _ _ _ _) hv (by omega) h1 (by omega) (Nat.le_refl _)).mono ?_
      rintro e w1 ⟨v1, rfl, hown, hg, -⟩
      have Hown := Lib.hid hown; clear hown
      have Hg := Lib.hid hg; clear hg
      go_wp2
      go_ret2
      refine ⟨v1, by rw [HP.out.2]; rfl, by rw [HP.out.1]; exact Byt.of_own (by simpa using Hown.out), ?_⟩
      exact (Below.refl _ _).grown Hg.out (Nat.le_refl _) (by simp [Value.ownBlock])

/-- The value of a field. -/
def getV : List UInt8 → Nat
  | [] => 0
  | b :: t => b.toNat + 256 * getV t
theorem getV_lt : ∀ l : List UInt8, getV l < 256 ^ l.length
  | [] => by simp [getV]
  | b :: t => by
    have h := getV_lt t
    have hb : b.toNat < 256 := b.toNat_lt
    simp only [getV, List.length_cons, Nat.pow_succ]
    omega
theorem getV_snoc : ∀ (l : List UInt8) (b : UInt8), getV (l ++ [b]) = getV l + b.toNat * 256 ^ l.length
  | [], b => by simp [getV]
  | a :: t, b => by
    simp only [List.cons_append, getV, getV_snoc t b, List.length_cons, Nat.pow_succ, Nat.mul_add, Nat.add_assoc]
    congr 2
    rw [Nat.mul_left_comm, Nat.mul_comm 256]
theorem getV_take (l : List UInt8) (k : Nat) (h : k < l.length) : getV (l.take (k + 1)) = getV (l.take k) + l[k].toNat * 256 ^ k := by
  rw [List.take_succ_eq_append_getElem h, getV_snoc, List.length_take, Nat.min_eq_left (by omega)]
def getE (l : List UInt8) : Int := if l.length < 1 ∨ 8 < l.length then 2 else 0
def getZ (l : List UInt8) : Int := if l.length < 1 ∨ 8 < l.length then 0 else getV l

theorem pow256 (k : Nat) : (256 : Nat) ^ k = 2 ^ (8 * k) := by rw [Nat.pow_mul]
theorem get_step (l : List UInt8) (k : Nat) (h : k < l.length) (h8 : l.length ≤ 8) :
    bits .or .u64 (getV (l.take k) : Int) (IntKind.u64.wrap ((l[k].toNat : Int) * 2 ^ (8 * k))) = (getV (l.take (k + 1)) : Int) := by
  have hb : l[k].toNat < 256 := l[k].toNat_lt
  have hk : 256 ^ (k + 1) ≤ 256 ^ 8 := Nat.pow_le_pow_right (by decide) (by omega)
  have hl : getV (l.take k) < 256 ^ k := by
    have := getV_lt (l.take k)
    rwa [List.length_take, Nat.min_eq_left (by omega)] at this
  have hm : l[k].toNat * 256 ^ k < 18446744073709551616 := by
    have h1 : l[k].toNat * 256 ^ k < 256 * 256 ^ k := Nat.mul_lt_mul_of_pos_right hb (Nat.pow_pos (by decide))
    rw [Nat.pow_succ] at hk
    omega
  have e : ((l[k].toNat : Int) * 2 ^ (8 * k)) = ((l[k].toNat * 256 ^ k : Nat) : Int) := by rw [pow256]; simp
  have hw : IntKind.u64.wrap ((l[k].toNat * 256 ^ k : Nat) : Int) = ((l[k].toNat * 256 ^ k : Nat) : Int) := by
    rw [IntKind.wrap_u64]
    exact Int.emod_eq_of_lt (by omega) (by omega)
  have hl2 : getV (l.take k) < 18446744073709551616 := by
    have : 256 ^ k ≤ 256 ^ (k + 1) := Nat.pow_le_pow_right (by decide) (by omega)
    omega
  rw [e, hw, u64_or_nat _ _ hl2 hm, Nat.or_comm, nat_join (8 * k) _ _ (by rw [pow256, Nat.mul_mod_left]) (by rw [← pow256]; exact hl), getV_take l k h, Nat.add_comm]
theorem Get_any (v : Value) (l : List UInt8) (w : World) (h : Byt w v l) (hl : l.length ≤ 9223372036854775807) : Calls Try.prog 76 #[v] w fun e w' => e = .returned (.tuple #[.int .u64 (getZ l), .int .i64 (getE l)]) ∧ w = w' := by
  obtain ⟨A, c, rfl, hc, hr⟩ := h
  by_cases hb : l.length < 1 ∨ 8 < l.length
  · have hz : getZ l = 0 ∧ getE l = 2 := ⟨if_pos hb, if_pos hb⟩
    have HZ := Lib.hid hz; clear hz hr
    have Hb := Lib.hid hb; clear hb
    have Hl := Lib.hid hl; clear hl
    go_enter Try.func76, Try.ntmps76
    go_wp2_with fail
    refine (checkSize_bad _ _ (by have := Hb.out; omega)).mono ?_
    rintro e w' ⟨rfl, rfl⟩
    go_wp2
    go_ret2
    exact ⟨by rw [HZ.out.1, HZ.out.2]; rfl, rfl⟩
  · obtain ⟨g, o, rfl, hg, hcell⟩ := hr (by omega)
    have hz : getZ l = getV l ∧ getE l = 0 := ⟨if_neg hb, if_neg hb⟩
    have HZ := Lib.hid hz; clear hz
    have h1 : 1 ≤ l.length := by omega
    have h8 : l.length ≤ 8 := by omega
    clear hb hl
    have Hcell := Lib.hid hcell; clear hcell
    go_enter Try.func76, Try.ntmps76
    go_wp2_with fail
    refine (checkSize_ok _ _ (by omega) (by omega)).mono ?_
    rintro e w' ⟨rfl, rfl⟩
    go_wp2
    go_loop [5, 16] (fun x i => ∃ k : Nat, k ≤ l.length ∧ i = .int .i64 k ∧ x = .int .u64 (getV (l.take k) : Int)) (fun _ i => l.length - (RowKit.intOf i).toNat)
    case atStart => exact ⟨0, Nat.zero_le _, rfl, by simp [getV]⟩
    case round =>
      obtain ⟨k, hk, rfl, rfl⟩ := hrel
      by_cases hlt : k < l.length
      · have hck := Hcell.out k hlt
        have hb := l[k].toNat_lt
        go_wp2
        go_round
        case rel => exact ⟨k + 1, by omega, by go_num, by rw [get_step l k hlt h8]⟩
        case measure => simp [RowKit.intOf]; omega
      · have He := Lib.hid (show k = l.length by omega)
        go_wp2
        go_ret2
        exact ⟨by rw [HZ.out.1, HZ.out.2, He.out, List.take_length]; rfl, rfl⟩

def badBits (low width : Int) : Prop := width < 1 ∨ low < 0 ∨ 64 - width < low
theorem getV_putB (V : Nat) : ∀ n, getV (putB V n) = V % 256 ^ n
  | 0 => by simp [putB, getV, Nat.mod_one]
  | n + 1 => by
    have h : V % 256 ^ (n + 1) = V % 256 ^ n + 256 ^ n * (V / 256 ^ n % 256) := Nat.mod_pow_succ
    rw [putB_succ, getV_snoc, getV_putB V n, putB_length, UInt8.toNat_ofNat', h, Nat.mul_comm (256 ^ n)]
theorem getV_inj : ∀ (a b : List UInt8), a.length = b.length → getV a = getV b → a = b
  | [], [], _, _ => rfl
  | x :: a, y :: b, hl, h => by
    have hx : x.toNat < 256 := x.toNat_lt
    have hy : y.toNat < 256 := y.toNat_lt
    simp only [getV] at h
    have e1 : x.toNat = y.toNat := by omega
    have e2 : getV a = getV b := by omega
    rw [UInt8.toNat_inj.1 e1, getV_inj a b (by simpa using hl) e2]
theorem putB_getV (l : List UInt8) (n : Nat) (h : l.length = n) : putB (getV l) n = l := by
  subst h
  refine getV_inj _ _ (putB_length _ _) ?_
  rw [getV_putB, Nat.mod_eq_of_lt (getV_lt l)]
end Go.Proofs.Ytngaifokkkmmcaa
