/- What is read back of what was written: numbers and lists; Put with eight bytes and Get behind it; Insert and Field behind it. Conditions stand in each theorem. -/
import Derived.Test.YtmolpnhgmdpdmaaDoorBb
import Derived.Test.YtmolpnhgmdpdmaaDoorGa
namespace Go.Proofs.YtmolpnhgmdpdmaaDoor
open Go.RowKit
set_option linter.unusedVariables false
set_option maxHeartbeats 400000

def szs (fs : List (Int × Int)) : List Int := fs.map (·.2)
def vls (fs : List (Int × Int)) : List Int := fs.map (·.1)
theorem szs_take {fs : List (Int × Int)} {k : Nat} (h : k < fs.length) : szs (fs.take (k + 1)) = szs (fs.take k) ++ [fs[k].2] := by unfold szs; rw [List.take_succ_eq_append_getElem h, List.map_append]; rfl
theorem vls_take {fs : List (Int × Int)} {k : Nat} (h : k < fs.length) : vls (fs.take (k + 1)) = vls (fs.take k) ++ [fs[k].1] := by unfold vls; rw [List.take_succ_eq_append_getElem h, List.map_append]; rfl
theorem keep_cell {wr W w' : World} {base m : Nat} {e : TypeId} {k : IntKind} {v v' : Value} {ys : List Value} (hx : Ext wr W) (hv : wr.ownsRow base e 1 v m ys) {N : Nat} {zs : List Int} (hA : AppR W w' base e k v v' N zs) {b o : Nat} {x : Value} (hb : b < base) (hc : wr.cell? ⟨b, o, none⟩ = some x) : w'.cell? ⟨b, o, none⟩ = some x :=
  hA.grow.cell (hx.cell hc) (fun e' => by have := (hv.lt b e'.symm).1; omega)
theorem keep_lt {wr W w' : World} {base : Nat} {e : TypeId} {k : IntKind} {v v' : Value} (hx : Ext wr W) {N : Nat} {zs : List Int} (hA : AppR W w' base e k v v' N zs) {b : Nat} (hb : b < wr.heap.size) : b < w'.heap.size :=
  Nat.lt_of_lt_of_le hb (Nat.le_trans hx.size hA.grow.size)

theorem getV_putB (V : Nat) : ∀ n, getV (putB V n) = V % 256 ^ n
  | 0 => by simp [putB_zero, getV, Nat.mod_one]
  | n + 1 => by
    have h : V % 256 ^ (n + 1) = V % 256 ^ n + 256 ^ n * (V / 256 ^ n % 256) := by rw [Nat.pow_succ (n := 256), Nat.mod_mul]
    rw [putB_succ, getV_snoc, getV_putB V n, putB_length, UInt8.toNat_ofNat', h, Nat.mul_comm (256 ^ n)]
theorem fits_lt {v n : Int} (h0 : 0 ≤ v) (hn : 0 ≤ n) (h : v ≤ onesZ (8 * n).toNat) : v.toNat < 256 ^ n.toNat := by
  rw [onesZ_nat, show (8 * n).toNat = 8 * n.toNat by omega, ← pow256] at h
  have : 0 < 256 ^ n.toNat := Nat.pow_pos (by decide)
  omega
theorem chk_each : ∀ (fs : List (Int × Int)) (r : Int), chk r fs = 0 → ∀ f ∈ fs, putE f.1 f.2 = 0
  | [], _, _, _, hf => by cases hf
  | g :: t, r, h, f, hf => by
    rw [chk_cons] at h
    by_cases hg : putE g.1 g.2 = 0
    · rw [if_neg (by simp [hg])] at h
      by_cases hr : r < g.2
      · rw [if_pos hr] at h; omega
      · rw [if_neg hr] at h
        rcases List.mem_cons.1 hf with rfl | hf
        · exact hg
        · exact chk_each t _ h f hf
    · rw [if_pos hg] at h; exact absurd h hg
theorem flat_cons (f : Int × Int) (t : List (Int × Int)) : flat (f :: t) = putB f.1.toNat f.2.toNat ++ flat t := rfl
theorem back_flat : ∀ (fs : List (Int × Int)) (p : List UInt8), (∀ f ∈ fs, 0 ≤ f.1) → (∀ f ∈ fs, putE f.1 f.2 = 0) →
    vals (p ++ flat fs) p.length (szs fs) = vls fs ∧ okAll (p ++ flat fs) p.length (szs fs) ∧ endp p.length (szs fs) = (p ++ flat fs).length
  | [], p, _, _ => ⟨rfl, trivial, by simp [flat, szs, endp]⟩
  | f :: t, p, h0, h1 => by
    have hz := h0 f List.mem_cons_self
    obtain ⟨hn1, hn8, hv⟩ := putE_zero (h1 f List.mem_cons_self)
    have ih := back_flat t (p ++ putB f.1.toNat f.2.toNat) (fun g hg => h0 g (List.mem_cons_of_mem _ hg)) (fun g hg => h1 g (List.mem_cons_of_mem _ hg))
    have hl : (p ++ putB f.1.toNat f.2.toNat).length = p.length + f.2.toNat := by rw [List.length_append, putB_length]
    rw [hl, List.append_assoc, ← flat_cons] at ih
    have hd : ((p ++ flat (f :: t)).drop p.length).take f.2.toNat = putB f.1.toNat f.2.toNat := by
      rw [List.drop_left, flat_cons]
      have := List.take_left (l₁ := putB f.1.toNat f.2.toNat) (l₂ := flat t)
      rwa [putB_length] at this
    refine ⟨?_, ⟨hn1, hn8, ?_, ih.2.1⟩, ih.2.2⟩
    · show (getV (((p ++ flat (f :: t)).drop p.length).take f.2.toNat) : Int) :: vals _ (p.length + f.2.toNat) (szs t) = f.1 :: vls t
      rw [ih.1, hd, getV_putB, Nat.mod_eq_of_lt (fits_lt hz (by omega) hv), Int.toNat_of_nonneg hz]
    · show p.length + f.2.toNat ≤ _
      rw [flat_cons, List.length_append, List.length_append, putB_length]; omega

theorem Put8 (v : Int) (w : World) (hv : 0 ≤ v) (hv2 : v ≤ 18446744073709551615) : Calls Tryd.prog 11 #[.int .u64 v, .int .i64 8] w (BytErr w (putB v.toNat 8) 0) := by
  have h := put_ok (v := v) (n := 8) (by decide) (by decide) (by rw [onesZ_nat]; exact hv2)
  have := Put_any v 8 w hv
  rw [h.1, h.2] at this
  exact this
theorem Get8 (v : Int) (pv : Value) (w : World) (hv : 0 ≤ v) (hv2 : v ≤ 18446744073709551615) (h : Byt w pv (putB v.toNat 8)) : Calls Tryd.prog 15 #[pv] w fun e w' => e = .returned (.tuple #[.int .u64 v, .int .i64 0]) ∧ w = w' := by
  have := Get_any pv _ w h (by rw [putB_length]; decide)
  have e1 : getE (putB v.toNat 8) = 0 := by unfold getE; rw [putB_length]; rfl
  have e2 : getZ (putB v.toNat 8) = v := by
    unfold getZ; rw [putB_length, if_neg (by decide), getV_putB, Nat.mod_eq_of_lt (by omega), Int.toNat_of_nonneg hv]
  rw [e1, e2] at this
  exact this
theorem fieldN_insN (v low width x : Nat) (hx : x < 2 ^ width) (h : low + width ≤ 64) : fieldN (insN v low width x) low width = x := by
  unfold fieldN
  refine Nat.eq_of_testBit_eq fun i => ?_
  rw [Nat.testBit_mod_two_pow, ← Nat.shiftRight_eq_div_pow, Nat.testBit_shiftRight]
  by_cases hi : i < width
  · have := ins_in v low width x (low + i) h (by omega) (by omega)
    rw [← Nat.toNat_testBit, ← Nat.toNat_testBit, show low + i - low = i by omega] at this
    simp only [hi, decide_true, Bool.true_and]
    cases h1 : (insN v low width x).testBit (low + i) <;> cases h2 : x.testBit i <;> simp_all
  · rw [Nat.testBit_lt_two_pow (Nat.lt_of_lt_of_le hx (Nat.pow_le_pow_right (by decide) (by omega)))]
    simp [hi]
/-- What Insert answers, and Field behind it. -/
theorem ins_cases (v low width x : Int) (hv : 0 ≤ v) (hv2 : v ≤ 18446744073709551615) (hw : width ≤ 9223372036854775807) (hx0 : 0 ≤ x) (hx2 : x ≤ 18446744073709551615) :
    (∃ E : Int, (E = 2 ∨ E = 3) ∧ ∀ W, Calls Tryd.prog 19 #[.int .u64 v, .int .i64 low, .int .i64 width, .int .u64 x] W fun e w' => e = .returned (.tuple #[.int .u64 0, .int .i64 E]) ∧ W = w') ∨
    (∃ Y : Int, 0 ≤ low ∧ 1 ≤ width ∧ low + width ≤ 64 ∧
      (∀ W, Calls Tryd.prog 19 #[.int .u64 v, .int .i64 low, .int .i64 width, .int .u64 x] W fun e w' => e = .returned (.tuple #[.int .u64 Y, .int .i64 0]) ∧ Below W.heap.size W w') ∧
      (∀ W, Calls Tryd.prog 17 #[.int .u64 Y, .int .i64 low, .int .i64 width] W fun e w' => e = .returned (.tuple #[.int .u64 x, .int .i64 0]) ∧ Below W.heap.size W w') ∧
      ∀ B : Nat, B ≤ 63 → ¬ (low ≤ B ∧ (B : Int) < low + width) → bits .and .u64 (v / 2 ^ B) 1 = bits .and .u64 (Y / 2 ^ B) 1) := by
  by_cases hbad : badBits low width
  · exact .inl ⟨2, .inl rfl, fun W => Insert_bad v low width x W hw hbad⟩
  · have h1 : 1 ≤ width := by unfold badBits at hbad; omega
    have h2 : 0 ≤ low := by unfold badBits at hbad; omega
    have h3 : low ≤ 64 - width := by unfold badBits at hbad; omega
    by_cases hr : onesZ width.toNat < x
    · exact .inl ⟨3, .inr rfl, fun W => Insert_range v low width x W h1 h2 h3 hr⟩
    · have hx : x ≤ onesZ width.toNat := by omega
      have hxN : x.toNat < 2 ^ width.toNat := by
        rw [onesZ_nat] at hx
        have : 0 < 2 ^ width.toNat := Nat.pow_pos (by decide)
        omega
      have hlt := insN_lt v.toNat low.toNat width.toNat x.toNat (by omega) hxN (by omega)
      refine .inr ⟨(insN v.toNat low.toNat width.toNat x.toNat : Nat), h2, h1, by omega, fun W => Insert_ok v low width x W hv hv2 h1 h2 h3 hx0 hx, fun W => ?_, fun B hB hout => ?_⟩
      · have := Field_ok ((insN v.toNat low.toNat width.toNat x.toNat : Nat) : Int) low width W (by omega) (by omega) h1 h2 h3
        rw [Int.toNat_natCast, fieldN_insN _ _ _ _ hxN (by omega), Int.toNat_of_nonneg hx0] at this
        exact this
      · obtain ⟨V, rfl⟩ := Int.eq_ofNat_of_zero_le hv
        rw [and_div _ _ (by omega), and_div _ _ (by simpa using hlt), Int.toNat_natCast, ins_out _ _ _ _ _ hxN (by omega) (by omega) (by omega)]
end Go.Proofs.YtmolpnhgmdpdmaaDoor
