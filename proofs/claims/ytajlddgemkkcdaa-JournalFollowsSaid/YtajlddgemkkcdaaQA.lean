/- The sort family of package slices: swapRangeCmpFunc and rotateCmpFunc over a row of elements of one cell, in any program that bears the bodies. Conditions stand in each theorem. -/
import Derived.Test.YtajlddgemkkcdaaRows
import Derived.Shelf.SlSortCmp.Kit1
import Derived.Shelf.SlSortCmp.Insertion1
import Derived.Sort.LotA
import Derived.Sort.WalkB2
import Derived.Sort.WalkB12
import Derived.Deep.LoopGhost
namespace Go.Proofs.Ytajlddgemkkcdaa
open Go.Shelf Go.RowKit Go.Lib Go.Sort
set_option linter.unusedVariables false
/-- What is asked of a program: the bodies, and their types. -/
structure SLay (P : Program) : Prop where
  mixed : P.follows .mixedOrders = true
  f95 : P.funcs[95]? = some Try.f95
  f107 : P.funcs[107]? = some Try.f107
  f110 : P.funcs[110]? = some Try.f110
  f111 : P.funcs[111]? = some Try.f111
  t0 : P.underlying 0 = some (TypeDesc.tuple #[])
  a0 : ∀ w, (isAgg 0).run P w = .ok false w
  z0 : ∀ w, (Go.sizeOf 0).run P w = .ok 1 w
  v0 : ∀ w, (zeroValue 0).run P w = .ok (Value.tuple #[]) w
  t3 : P.underlying 3 = some (TypeDesc.int IntKind.i64)
  a3 : ∀ w, (isAgg 3).run P w = .ok false w
  z3 : ∀ w, (Go.sizeOf 3).run P w = .ok 1 w
  v3 : ∀ w, (zeroValue 3).run P w = .ok (Value.int IntKind.i64 0) w
  t4 : P.underlying 4 = some (TypeDesc.bool)
  a4 : ∀ w, (isAgg 4).run P w = .ok false w
  z4 : ∀ w, (Go.sizeOf 4).run P w = .ok 1 w
  v4 : ∀ w, (zeroValue 4).run P w = .ok (Value.bool false) w
  t61 : P.underlying 61 = some (TypeDesc.int IntKind.u64)
  a61 : ∀ w, (isAgg 61).run P w = .ok false w
  z61 : ∀ w, (Go.sizeOf 61).run P w = .ok 1 w
  v61 : ∀ w, (zeroValue 61).run P w = .ok (Value.int IntKind.u64 0) w
  t50 : P.underlying 50 = some (TypeDesc.slice 3)
  a50 : ∀ w, (isAgg 50).run P w = .ok false w
  z50 : ∀ w, (Go.sizeOf 50).run P w = .ok 1 w
  v50 : ∀ w, (zeroValue 50).run P w = .ok (Value.slice none 0 0) w
  t32 : P.underlying 32 = some (TypeDesc.func #[3, 3] #[3] false)
  a32 : ∀ w, (isAgg 32).run P w = .ok false w
  z32 : ∀ w, (Go.sizeOf 32).run P w = .ok 1 w
  v32 : ∀ w, (zeroValue 32).run P w = .ok (Value.nilFunc) w
theorem slay : SLay Try.prog where
  mixed := by kernel_rfl
  f95 := Try.func95
  f107 := Try.func107
  f110 := Try.func110
  f111 := Try.func111
  t0 := Try.underlying0
  a0 := Try.isAgg0
  z0 := Try.sizeOf0
  v0 := Try.zeroValue0
  t3 := Try.underlying3
  a3 := Try.isAgg3
  z3 := Try.sizeOf3
  v3 := Try.zeroValue3
  t4 := Try.underlying4
  a4 := Try.isAgg4
  z4 := Try.sizeOf4
  v4 := Try.zeroValue4
  t61 := Try.underlying61
  a61 := Try.isAgg61
  z61 := Try.sizeOf61
  v61 := Try.zeroValue61
  t50 := Try.underlying50
  a50 := Try.isAgg50
  z50 := Try.sizeOf50
  v50 := Try.zeroValue50
  t32 := Try.underlying32
  a32 := Try.isAgg32
  z32 := Try.sizeOf32
  v32 := Try.zeroValue32
variable {P : Program} {α : Type} [Inhabited α]
/-- Element t of d' is element f t of d. -/
def Ixd (d d' : Array α) (f : Nat → Nat) : Prop := d'.size = d.size ∧ ∀ t, d'[t]! = d[f t]!
def swIx (a b n t : Nat) : Nat := if a ≤ t ∧ t < a + n then t - a + b else if b ≤ t ∧ t < b + n then t - b + a else t
def rtIx (a m b t : Nat) : Nat := if a ≤ t ∧ t < a + (b - m) then t + (m - a) else if a + (b - m) ≤ t ∧ t < b then t - (b - m) else t
theorem Ixd.refl (d : Array α) : Ixd d d (fun t => t) := ⟨rfl, fun _ => rfl⟩
theorem Ixd.trans {d d1 d2 : Array α} {f g : Nat → Nat} (h : Ixd d d1 f) (k : Ixd d1 d2 g) : Ixd d d2 (fun t => f (g t)) := ⟨k.1.trans h.1, fun t => (k.2 t).trans (h.2 _)⟩
theorem Ixd.congr {d d' : Array α} {f g : Nat → Nat} (h : Ixd d d' f) (hf : ∀ t, f t = g t) : Ixd d d' g := ⟨h.1, fun t => by rw [h.2, hf]⟩
theorem ixd_swp (d : Array α) {i j : Nat} (hi : i < d.size) (hj : j < d.size) : Ixd d (swp d i j) (fun t => if t = j then i else if t = i then j else t) :=
  ⟨size_swp _ _ _, fun t => by rw [swp_get d hi hj]; by_cases h1 : t = j <;> by_cases h2 : t = i <;> simp [h1, h2]; split <;> rfl⟩
theorem swIx_zero (a b t : Nat) : swIx a b 0 t = t := by unfold swIx; rw [if_neg (by omega), if_neg (by omega)]
theorem swIx_step {a b i : Nat} (h : a + i < b) (t : Nat) : swIx a b i (if t = b + i then a + i else if t = a + i then b + i else t) = swIx a b (i + 1) t := by
  unfold swIx
  (repeat' split) <;> omega
set_option maxHeartbeats 4000000 in
set_option maxRecDepth 1000000 in
theorem swapRange_any (L : SLay P) (enc : α → Value) (g : Nat) (cb : Array Value) (blk off cap a b n : Nat) (d0 d : Array α) (w0 w : World)
    (R : Row1 enc w0 blk off d0) (hs : d0.size = d.size) (S : SW enc w0 blk off d w) (hab : a + n ≤ b) (hb : b + n ≤ d.size) (hsz : d.size < 4611686018427387904) :
    Calls P 111 #[.slice (some ⟨blk, off, none⟩) d.size cap, .int .i64 a, .int .i64 b, .int .i64 n, .func (.func g) #[] cb] w fun e w' => e = .returned (.tuple #[]) ∧ ∃ d', Ixd d d' (swIx a b n) ∧ PermIn a (b + n) d d' ∧ SW enc w0 blk off d' w' := by
  have mixed := L.mixed; have t0 := L.t0; have a0 := L.a0; have z0 := L.z0; have v0 := L.v0; have t3 := L.t3; have a3 := L.a3; have z3 := L.z3; have v3 := L.v3; have t4 := L.t4; have a4 := L.a4; have z4 := L.z4; have v4 := L.v4; have t50 := L.t50; have a50 := L.a50; have z50 := L.z50; have v50 := L.v50; have t32 := L.t32; have a32 := L.a32; have z32 := L.z32; have v32 := L.v32
  have hcl0 := R.hO.cells
  simp only [Value.cells] at hcl0
  have hst := R.hO.store P
  have S0 : Aside (SW enc w0 blk off d w) := S
  clear S
  go_enter L.f111, Try.ntmps111
  go_wp2
  go_loopg [10] n (fun kx s10 wr => ∃ (i : Nat) (dk : Array α), s10 = .int .i64 i ∧ i ≤ n ∧ n - i ≤ kx ∧ Aside (Ixd d dk (swIx a b i) ∧ PermIn a (b + n) d dk) ∧ Aside (SW enc w0 blk off dk wr))
  case atStart => exact ⟨0, d, rfl, Nat.zero_le _, Nat.le_refl _, ⟨(Ixd.refl d).congr (fun t => (swIx_zero a b t).symm), permIn_refl _ _ _⟩, S0⟩
  case round =>
    clear S0
    obtain ⟨i, dk, rfl, hin, hkx, HI, S1⟩ := hrel
    have hds : dk.size = d.size := HI.out.1.1
    by_cases hlt : i < n
    · go_wp2_with fail
      obtain ⟨p, hp⟩ : ∃ p : Nat, p = a + i := ⟨_, rfl⟩
      obtain ⟨q, hq⟩ : ∃ q : Nat, q = b + i := ⟨_, rfl⟩
      have eq1 : (a : Int) + (i : Int) = (p : Int) := by omega
      have eq2 : (b : Int) + (i : Int) = (q : Int) := by omega
      have HPQ : Hid (p = a + i ∧ q = b + i) := ⟨hp, hq⟩
      have hpl : p < d.size := by omega
      have hql : q < d.size := by omega
      clear hp hq
      have ea44 : ((p : Int)).toNat = p := by omega
      have pa44 : (0 : Int) ≤ (p : Int) := by omega
      have ba44 : (p : Int) < (d.size : Int) := by omega
      have ra44 : IntKind.i64.wrap ((p : Int)) = (p : Int) := by rw [IntKind.wrap_i64]; omega
      have ec44 : ((q : Int)).toNat = q := by omega
      have pc44 : (0 : Int) ≤ (q : Int) := by omega
      have bc44 : (q : Int) < (d.size : Int) := by omega
      have rc44 : IntKind.i64.wrap ((q : Int)) = (q : Int) := by rw [IntKind.wrap_i64]; omega
      obtain ⟨x44, hx44⟩ : ∃ x, x = dk[p]! := ⟨_, rfl⟩
      obtain ⟨y44, hy44⟩ : ∃ x, x = dk[q]! := ⟨_, rfl⟩
      have S2 : Aside (SW enc w0 blk off (swp dk p q) ((wr.setCell ⟨blk, off + p, none⟩ (enc y44)).setCell ⟨blk, off + q, none⟩ (enc x44)).drew) := by rw [hx44, hy44]; exact S1.out.swapped R p q (by omega) (by omega)
      have c44a := S1.out.c1 R (by omega) p (by omega)
      have c44b := S1.out.c1 R (by omega) q (by omega)
      have f44a := S1.out.f1 R (by omega) p (by omega)
      have f44b := S1.out.f1 R (by omega) q (by omega)
      obtain ⟨u44, c44c⟩ := S1.out.c2 R (by omega) p q (by omega) (by omega) (enc y44)
      rw [← hx44] at c44a
      rw [← hy44] at c44b
      clear S1 hx44 hy44
      go_wp2_with fail
      go_big_region_o
      clear c44a c44b c44c f44a f44b
      generalize ((wr.setCell ⟨blk, off + p, none⟩ (enc y44)).setCell ⟨blk, off + q, none⟩ (enc x44)).drew = w44 at S2 ⊢
      go_wp2
      go_roundg (n - (i + 1))
      case measure => omega
      case rel =>
        obtain ⟨hp, hq⟩ := HPQ.out
        subst hp hq
        exact ⟨i + 1, swp dk (a + i) (b + i), by simp, by omega, Nat.le_refl _, ⟨(HI.out.1.trans (ixd_swp dk (by omega) (by omega))).congr (fun t => swIx_step (by omega) t), permIn_trans _ _ _ _ _ HI.out.2 (swp_permIn dk a (b + n) (a + i) (b + i) (by omega) (by omega) (by omega) (by omega) (by omega))⟩, S2⟩
    · have hne : i = n := by omega
      go_wp2
      go_end0
      subst hne
      exact ⟨rfl, dk, HI.out.1, HI.out.2, S1.out⟩

theorem rt_eq {m i : Nat} (h : i ≤ m) (t : Nat) : swIx (m - i) m i t = rtIx (m - i) m (m + i) t := by
  unfold swIx rtIx
  (repeat' split) <;> omega
theorem rt_gt {m i j : Nat} (hi : i ≤ m) (hj : 0 < j) (h : j < i) (t : Nat) : swIx (m - i) m j (rtIx (m - (i - j)) m (m + j) t) = rtIx (m - i) m (m + j) t := by
  unfold rtIx
  (repeat' split) <;> (unfold swIx; (repeat' split) <;> omega)
theorem rt_lt {m i j : Nat} (hi : i ≤ m) (hj : 0 < i) (h : i < j) (t : Nat) : swIx (m - i) (m + j - i) i (rtIx (m - i) m (m + (j - i)) t) = rtIx (m - i) m (m + j) t := by
  unfold rtIx
  (repeat' split) <;> (unfold swIx; (repeat' split) <;> omega)
set_option maxHeartbeats 4000000 in
set_option maxRecDepth 1000000 in
theorem rotate_any (L : SLay P) (enc : α → Value) (g : Nat) (cb : Array Value) (blk off cap a m b : Nat) (d0 d : Array α) (w0 w : World)
    (R : Row1 enc w0 blk off d0) (hs : d0.size = d.size) (S : SW enc w0 blk off d w) (ham : a < m) (hmb : m < b) (hb : b ≤ d.size) (hsz : d.size < 4611686018427387904) :
    Calls P 110 #[.slice (some ⟨blk, off, none⟩) d.size cap, .int .i64 a, .int .i64 m, .int .i64 b, .func (.func g) #[] cb] w fun e w' => e = .returned (.tuple #[]) ∧ ∃ d', Ixd d d' (rtIx a m b) ∧ PermIn a b d d' ∧ SW enc w0 blk off d' w' := by
  have mixed := L.mixed; have t0 := L.t0; have a0 := L.a0; have z0 := L.z0; have v0 := L.v0; have t3 := L.t3; have a3 := L.a3; have z3 := L.z3; have v3 := L.v3; have t4 := L.t4; have a4 := L.a4; have z4 := L.z4; have v4 := L.v4; have t50 := L.t50; have a50 := L.a50; have z50 := L.z50; have v50 := L.v50; have t32 := L.t32; have a32 := L.a32; have z32 := L.z32; have v32 := L.v32
  have S0 : Aside (SW enc w0 blk off d w) := S
  have HC : ∀ (a' b' n' : Nat) (dk : Array α) (wk : World), dk.size = d.size → Aside (SW enc w0 blk off dk wk) → a' + n' ≤ b' → b' + n' ≤ d.size →
      Calls P 111 #[.slice (some ⟨blk, off, none⟩) d.size cap, .int .i64 a', .int .i64 b', .int .i64 n', .func (.func g) #[] cb] wk fun e w' => e = .returned (.tuple #[]) ∧ ∃ d', Aside (Ixd dk d' (swIx a' b' n')) ∧ Aside (PermIn a' (b' + n') dk d') ∧ Aside (SW enc w0 blk off d' w') := fun a' b' n' dk wk h1 h2 h3 h4 => by
    have := swapRange_any L enc g cb blk off cap a' b' n' d0 dk w0 wk R (by omega) h2.out h3 (by omega) (by omega)
    rw [h1] at this
    exact this
  have HCC : Aside _ := HC
  clear S HC
  have em : (m : Int) - (a : Int) = ((m - a : Nat) : Int) := by omega
  have eb : (b : Int) - (m : Int) = ((b - m : Nat) : Int) := by omega
  obtain ⟨i0, hi0⟩ : ∃ i0, i0 = m - a := ⟨_, rfl⟩
  obtain ⟨j0, hj0⟩ : ∃ j0, j0 = b - m := ⟨_, rfl⟩
  rw [← hi0] at em
  rw [← hj0] at eb
  have HIJ : Hid (i0 = m - a ∧ j0 = b - m) := ⟨hi0, hj0⟩
  have hi1 : 0 < i0 := by omega
  have hj1 : 0 < j0 := by omega
  have hi2 : i0 ≤ m := by omega
  have hj2 : m + j0 ≤ b := by omega
  have hia : a + i0 ≤ m := by omega
  have hrt : ∀ t, rtIx (m - i0) m (m + j0) t = rtIx a m b t := fun t => by rw [hi0, hj0, show m - (m - a) = a by omega, show m + (b - m) = b by omega]
  have HRT : Aside _ := hrt
  clear hi0 hj0 hrt
  have e111 : ∀ args w, (callFunc 111 args).run P w = .ok (.enter 111 args) w := enters_of L.f111 (by kernel_rfl) rfl
  go_enter L.f110, Try.ntmps110
  go_wp2
  go_loopg [10, 11] (i0 + j0) (fun kx s10 s11 wr => ∃ (i j : Nat) (dk : Array α), s10 = .int .i64 i ∧ s11 = .int .i64 j ∧ 0 < i ∧ 0 < j ∧ a + i ≤ m ∧ m + j ≤ b ∧ i + j ≤ kx ∧ dk.size = d.size ∧ Aside ((∀ t, dk[rtIx (m - i) m (m + j) t]! = d[rtIx a m b t]!) ∧ PermIn a b d dk) ∧ Aside (SW enc w0 blk off dk wr))
  case atStart => exact ⟨i0, j0, d, rfl, rfl, hi1, hj1, hia, hj2, Nat.le_refl _, rfl, ⟨fun t => by rw [HRT.out], permIn_refl _ _ _⟩, S0⟩
  case round =>
    clear S0
    obtain ⟨i, j, dk, rfl, rfl, hi, hj, him, hjd, hkx, hds, HI, S1⟩ := hrel
    have him' : i ≤ m := by omega
    have hp3 : ∀ (a' b' n' : Nat) (d' : Array α), PermIn a' (b' + n') dk d' → a ≤ a' → b' + n' ≤ b → PermIn a b d d' := fun a' b' n' d' h1 h2 h3 => permIn_trans _ _ _ _ _ HI.out.2 (permIn_mono _ _ _ _ _ _ h2 h3 (by omega) h1)
    have HP3 : Aside _ := hp3
    clear hp3
    obtain ⟨p, hp⟩ : ∃ p : Nat, p = m - i := ⟨_, rfl⟩
    have hpa : a ≤ p := by omega
    have e1 : (m : Int) - (i : Int) = (p : Int) := by omega
    by_cases hij : i = j
    · subst hij
      have hc := HCC.out p m i dk wr hds S1 (by omega) (by omega)
      have HP : Hid (p = m - i) := hp
      clear hp
      go_wp2_with (go_at_fn 111; refine hc.mono ?_; rintro e w' ⟨rfl, d', H', Q', S'⟩)
      go_end0
      refine ⟨rfl, d', ⟨H'.out.1.trans hds, fun t => ?_⟩, HP3.out _ _ _ _ Q'.out hpa (by omega), S'.out⟩
      rw [H'.out.2, HP.out, rt_eq him', HI.out.1]
    · by_cases hgt : j < i
      · have hc := HCC.out p m j dk wr hds S1 (by omega) (by omega)
        have e3 : (i : Int) - (j : Int) = ((i - j : Nat) : Int) := by omega
        obtain ⟨q, hq⟩ : ∃ q : Nat, q = i - j := ⟨_, rfl⟩
        rw [← hq] at e3
        have HP : Hid (p = m - i ∧ q = i - j) := ⟨hp, hq⟩
        have hq1 : 0 < q := by omega
        have hq2 : a + q ≤ m := by omega
        have hqj : m + j ≤ b := by omega
        have hq3 : q + j < i + j := by omega
        have hgt' : decide ((i : Int) > (j : Int)) = true := decide_eq_true (by omega)
        clear hp hq
        go_wp2_with (go_at_fn 111; refine hc.mono ?_; rintro e w' ⟨rfl, d', H', Q', S'⟩)
        go_roundg (q + j)
        case measure => omega
        case rel =>
          refine ⟨q, j, d', rfl, rfl, hq1, hj, hq2, hjd, Nat.le_refl _, H'.out.1.trans hds, ⟨fun t => ?_, HP3.out _ _ _ _ Q'.out hpa hqj⟩, S'⟩
          rw [H'.out.2, HP.out.1, HP.out.2, rt_gt him' hj hgt, HI.out.1]
      · have hlt : i < j := by omega
        obtain ⟨q, hq⟩ : ∃ q : Nat, q = j - i := ⟨_, rfl⟩
        obtain ⟨r, hr⟩ : ∃ r : Nat, r = m + j - i := ⟨_, rfl⟩
        have hc := HCC.out p r i dk wr hds S1 (by omega) (by omega)
        have e3 : (j : Int) - (i : Int) = (q : Int) := by omega
        have e4 : (m : Int) + (j : Int) - (i : Int) = (r : Int) := by omega
        have HP : Hid (p = m - i ∧ q = j - i ∧ r = m + j - i) := ⟨hp, hq, hr⟩
        have hq1 : 0 < q := by omega
        have hq2 : m + q ≤ b := by omega
        have hqj : r + i ≤ b := by omega
        have hq3 : i + q < i + j := by omega
        clear hp hq hr
        go_wp2_with (go_at_fn 111; refine hc.mono ?_; rintro e w' ⟨rfl, d', H', Q', S'⟩)
        go_roundg (i + q)
        case measure => omega
        case rel =>
          refine ⟨i, q, d', rfl, rfl, hi, hq1, him, hq2, Nat.le_refl _, H'.out.1.trans hds, ⟨fun t => ?_, HP3.out _ _ _ _ Q'.out hpa hqj⟩, S'⟩
          rw [H'.out.2, HP.out.1, HP.out.2.1, HP.out.2.2, rt_lt him' hi hlt, HI.out.1]
end Go.Proofs.Ytajlddgemkkcdaa
