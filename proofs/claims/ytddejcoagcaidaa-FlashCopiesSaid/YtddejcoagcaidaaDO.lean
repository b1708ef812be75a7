/- The reference's New. Conditions stand in each theorem. -/
import Derived.Test.YtddejcoagcaidaaDQ
import Derived.Test.YtddejcoagcaidaaX
import Derived.Test.YtddejcoagcaidaaBB
import Derived.Deep.RegionHeldLaw
import Derived.Deep.RegionLaw
namespace Go.Proofs.Ytddejcoagcaidaa
open Go.RowKit
set_option linter.unusedVariables false
set_option maxHeartbeats 16000000
set_option maxRecDepth 100000
attribute [local go_sem ↓ 100000] builtin_appX2 loadX_eq storeX_eq
theorem r35new2 (nb np sz : Nat) (en : Int) (n : Nat) (B : Option Addr) (d E : Nat) (A : Option Addr) (c : Nat) : R35 #[.int .i64 (nb : Int), .int .i64 (np : Int), .int .i64 (sz : Int), .int .i64 en, .slice B n d, .slice A nb c, .slice (some ⟨E, 0, none⟩) nb nb, .int .i64 0, .int .i64 (-1), .int .i64 0, .bool false] :=
  ⟨info35, by simp [Value.oneCell']⟩
theorem r35new (nb np sz : Nat) (en : Int) (n : Nat) (B : Option Addr) (d E : Nat) : R35 #[.int .i64 (nb : Int), .int .i64 (np : Int), .int .i64 (sz : Int), .int .i64 en, .slice B n d, .slice none 0 0, .slice (some ⟨E, 0, none⟩) nb nb, .int .i64 0, .int .i64 (-1), .int .i64 0, .bool false] :=
  ⟨info35, by simp [Value.oneCell']⟩
theorem Ints.below' {w W : World} {v : Value} {xs : List Int} (hx : Ints w v xs) (hW : Below w.heap.size w W) : Ints W v xs := by
  obtain ⟨A, c, e, h⟩ := hx
  refine ⟨A, c, e, fun h0 => ?_⟩
  obtain ⟨g, o, e', hg, hc⟩ := h h0
  exact ⟨g, o, e', Nat.lt_of_lt_of_le hg hW.size, fun j hj => (hW.cell (p := ⟨g, o + j, none⟩) hg).trans (hc j hj)⟩
theorem bal {w W : World} (h : Below w.heap.size w W) (o : Obj) : Below w.heap.size w (W.alloc o) := h.alloc h.size o
theorem brow {w W : World} (h : Below w.heap.size w W) {g : Nat} (hp : w.heap.size ≤ g) (cs : Array Value) : Below w.heap.size w (W.setRow g cs) := setRow_below h hp
theorem bset {w W : World} (h : Below w.heap.size w W) (p : Addr) (hp : w.heap.size ≤ p.block) (u : Value) : Below w.heap.size w (W.setCell p u) := h.setCell hp u
/-- A copy of numbers behind an empty row, as a step of a region. -/
theorem step_copyI {ops : Array Oper} {o : Oper} {a : Act} {W : World} {K : Act → World → Prop} {Q : Exit → Act → World → Prop} {E : Prop} (hgd : o.guard = none) (s x : Operand)
    (ho : o.op = .call { callee := .builtin .append, args := #[s, x], argTypes := #[24, 24] }) (hty : o.type = 24) (q : Nat) (A : Option Addr) (cf : Nat) (xs : List Int) (hs : a.eval s = .slice (some ⟨q, 0, none⟩) 0 0) (hx : a.eval x = .slice A xs.length cf) (hq : W.heap[q]? = some (.cells #[] 3 (0, 0)))
    (hsrc : Ints W (.slice A xs.length cf) xs) (hl : xs.length ≤ 1000) (Wb : World) (hWb : Below Wb.heap.size Wb W) (hqb : Wb.heap.size ≤ q) (h : ∀ B d W', IntL W' (.slice B xs.length d) xs → W.grownBy W' (some q) → Below Wb.heap.size Wb W' → K (a.put o.dst (.slice B xs.length d)) W') :
    if Region.wanted o (yielded ops a.tmps) = true then Oper.wp Try.prog o a W K Q else E := by
  have hw : Region.wanted o (yielded ops a.tmps) = true := by simp [Region.wanted, hgd]
  rw [if_pos hw]
  have hown : W.ownsRow q 3 1 (.slice (some ⟨q, 0, none⟩) 0 0) 0 [] := ⟨by simp, .inr ⟨q, 0, #[], rfl, Nat.le_refl _, hq, Nat.le_refl _, Nat.zero_le _, by simp, by simp⟩⟩
  obtain ⟨i0, hi0, hz0, hz1, hz2⟩ := info_parts info3
  obtain ⟨A', c', e, hr⟩ := hsrc
  injection e with e1 _ e2
  subst e1 e2
  obtain ⟨B, d, W', hrun, ho', hgr, -⟩ := app_src (m := xs.length) (n := 0) (c := cf) (A := A) (news := xs.map fun z => Value.int .i64 z) Try.underlying24 hi0 hz0 hz1 hz2 rfl (by decide) hown (fun h => by rw [List.eq_nil_of_length_eq_zero h]; rfl) (fun h0 => by
    obtain ⟨g, o', rfl, -, hc⟩ := hr (by omega)
    refine ⟨_, rfl, fun j u hu => ?_⟩
    obtain ⟨hj, e⟩ := List.getElem?_eq_some_iff.1 hu
    have hj' : j < xs.length := by simpa using hj
    rw [add_plain, hc j hj', ← e]
    simp) (by simp) (fun u hu => by
    obtain ⟨z, -, rfl⟩ := List.mem_map.1 hu
    rfl) (by unfold maxLen; omega) (by omega) (by have := (Array.getElem?_eq_some_iff.1 hq).1; omega)
  rw [Nat.zero_add, List.nil_append] at ho'
  rw [Nat.zero_add] at hrun
  unfold Oper.wp execOp
  simp only [ho, hty, resolve, invoke, builtin_appX2, Sem.run_bind, Sem.run_pure, Result.andThen_ok, List.map_toArray, List.map_cons, List.map_nil, hs, hx, hrun]
  refine h B d W' ⟨B, d, rfl, ?_, fun h0 => ?_⟩ hgr (hWb.trans ((Chg.of_grown hgr).below hWb.size (fun i (hi : some q = some i) => by injection hi with e; omega)))
  · rcases ho'.2 with ⟨e0, h0⟩ | ⟨G, cap, cur2, e0, hG, hG2, k1, k2, k3, k4⟩
    · omega
    · injection e0 with _ _ e2
      omega
  · rcases ho'.2 with ⟨e0, h1⟩ | ⟨G, cap, cur2, e0, hG, hG2, k1, k2, k3, k4⟩
    · omega
    · injection e0 with e1 _ e2
      subst e1
      refine ⟨G, cur2, rfl, hG2, fun j hj => ?_⟩
      have h5 : (cur2.toList.take (xs.length * 1))[j]? = some (.int .i64 xs[j]) := by
        rw [k4]
        simp [hj]
      rw [List.getElem?_take, if_pos (by omega)] at h5
      simpa using h5
theorem make_nums (n : Nat) (hn : n ≤ 4096) (W : World) : (Instr.makeSlice 24 (.int .i64 (n : Int)) (.int .i64 (n : Int))).run Try.prog W = .ok (.slice (some ⟨W.heap.size, 0, none⟩) n n) (W.alloc (.cells (madeCells #[.int .i64 0] n) 3)) := by
  obtain ⟨i0, hi0, hz0, hz1, hz2⟩ := info_parts info3
  have hr := run_makeSlice (P := Try.prog) W 24 3 i0 _ Try.underlying24 hi0 hz0 .i64 .i64 n n (by omega) (Int.le_refl _) (by rw [hz1]; omega) (by rw [hz2]; omega) (by omega)
  simp only [Int.toNat_natCast] at hr
  rw [hr, hz1, Nat.mul_one]
  rfl
theorem new_rel {w W1 F : World} {nb np sz : Nat} {en : Int} {xs : List Int} {D E d : Nat} {B : Option Addr} (hD : F.heap[D]? = some (.cells #[.int .i64 0, .int .i64 0, .int .i64 0, .int .i64 0, .slice none 0 0, .slice none 0 0, .slice none 0 0, .int .i64 0, .int .i64 0, .int .i64 0, .bool false] 35 (0, 0))) (hE : F.heap[E]? = some (.cells (madeCells #[.int .i64 0] nb) 3 (0, 0))) (hI : IntL F (.slice B xs.length d) xs) (hB : Below W1.heap.size W1 F) (h0 : W1.heap.size ≤ D) (h1 : w.heap.size + 1 < D) (h2 : w.heap.size + 1 < E) (a : Value) (ha : a = .pointer (some ⟨D, 0, none⟩)) (wx : World) (hwx : wx = F.setRow D #[.int .i64 (nb : Int), .int .i64 (np : Int), .int .i64 (sz : Int), .int .i64 en, .slice B xs.length d, .slice none 0 0, .slice (some ⟨E, 0, none⟩) nb nb, .int .i64 0, .int .i64 (-1), .int .i64 0, .bool false]) :
    ∃ (D E : Nat) (B : Option Addr) (d : Nat), a = .pointer (some ⟨D, 0, none⟩) ∧ Hid (wx.heap[D]? = some (.cells #[.int .i64 (nb : Int), .int .i64 (np : Int), .int .i64 (sz : Int), .int .i64 en, .slice B xs.length d, .slice none 0 0, .slice (some ⟨E, 0, none⟩) nb nb, .int .i64 0, .int .i64 (-1), .int .i64 0, .bool false] 35 (0, 0))) ∧ Hid (wx.heap[E]? = some (.cells (madeCells #[.int .i64 0] nb) 3 (0, 0))) ∧ Hid (IntL wx (.slice B xs.length d) xs) ∧ Hid (w.heap.size + 1 < D ∧ w.heap.size + 1 < E) ∧ Hid (Below W1.heap.size W1 wx) := by
  subst hwx
  exact ⟨D, E, B, d, ha, Lib.hid (setRow_at hD), Lib.hid ((setRow_other F D E _ (fun e => by subst e; exact absurd (ty_ne hD hE) (by decide))).trans hE), Lib.hid (hI.kt (setRow_kt hD)), Lib.hid ⟨h1, h2⟩, Lib.hid (brow hB h0 _)⟩
theorem own_keep {W W' : World} {base e sz n : Nat} {v : Value} {xs : List Value} (h : W.ownsRow base e sz v n xs) (hb : Below W.heap.size W W') : W'.ownsRow base e sz v n xs :=
  h.kept (row := none) ⟨hb.os, hb.tape, hb.output, hb.size, fun k hk _ => hb.block k hk⟩ (by cases hv : v.ownBlock <;> simp)
/-- One row more, as a step of a region. -/
theorem step_appR {ops : Array Oper} {o : Oper} {a : Act} {W : World} {K : Act → World → Prop} {Q : Exit → Act → World → Prop} {E : Prop} (hgd : o.guard = none) (s x : Operand)
    (ho : o.op = .call { callee := .builtin .append, args := #[s, x], argTypes := #[33, 33] }) (hty : o.type = 33) (base k : Nat) (v : Value) (rows : List Value) (q : Nat) (pv : Value) (hs : a.eval s = v) (hx : a.eval x = .slice (some ⟨q, 0, none⟩) 1 1) (hown : W.ownsRow base 76 1 v k rows) (hq : W.heap[q]? = some (.cells #[pv] 76 (0, 0))) (h1 : pv.oneCell' = true)
    (hk : k ≤ 4096) (hbase : base ≤ W.heap.size) (h : ∀ A c W', W'.ownsRow base 76 1 (.slice A (k + 1) c) (k + 1) (rows ++ [pv]) → W.grownBy W' v.ownBlock → K (a.put o.dst (.slice A (k + 1) c)) W') :
    if Region.wanted o (yielded ops a.tmps) = true then Oper.wp Try.prog o a W K Q else E := by
  have hw : Region.wanted o (yielded ops a.tmps) = true := by simp [Region.wanted, hgd]
  rw [if_pos hw]
  obtain ⟨i0, hi0, hz0, hz1, hz2⟩ := info_parts info76
  obtain ⟨B, d, W', hrun, ho', hgr, -⟩ := app_src (m := 1) (n := k) (c := 1) (A := some ⟨q, 0, none⟩) (news := [pv]) Try.underlying33 hi0 hz0 hz1 hz2 rfl (by decide) hown (fun h => by omega) (fun _ => ⟨_, rfl, fun j u hu => by
    obtain ⟨hj, e⟩ := List.getElem?_eq_some_iff.1 hu
    have hj0 : j = 0 := by simpa using hj
    subst hj0
    rw [add_plain, cell_of_row _ _ _ _ _ (0, 0) hq, ← e]
    rfl⟩) (by simp) (fun u hu => by
    have : u = pv := by simpa using hu
    rw [this]; exact h1) (by unfold maxLen; omega) (by omega) hbase
  unfold Oper.wp execOp
  simp only [ho, hty, resolve, invoke, builtin_appX2, Sem.run_bind, Sem.run_pure, Result.andThen_ok, List.map_toArray, List.map_cons, List.map_nil, hs, hx, hrun]
  exact h B d W' ho' hgr
theorem prr_keep {w w' : World} {v : Value} {n : Nat} (h : PrR 0 w v n (fun _ => ⟨1, [], []⟩)) (hk : ∀ (g : Nat) (cur : Array Value), w.heap[g]? = some (.cells cur 107 (0, 0)) → w'.heap[g]? = some (.cells cur 107 (0, 0))) : PrR 0 w' v n (fun _ => ⟨1, [], []⟩) := by
  obtain ⟨g, c, cur, e, hc, h1, h2⟩ := h
  refine ⟨g, c, cur, e, hc, hk _ _ h1, fun j hj => ?_⟩
  obtain ⟨h3, bv, h4, -, h5⟩ := h2 j hj
  exact ⟨h3, bv, h4, fun ht => by
    rcases ht with ht | ht
    · exact absurd (show (1 : Int) = 2 from ht) (by decide)
    · exact absurd (show (1 : Int) = 3 from ht) (by decide), h5⟩
theorem own_ty {W : World} {base e sz n g : Nat} {v : Value} {xs : List Value} (h : W.ownsRow base e sz v n xs) (hv : v.ownBlock = some g) : ∃ cur, W.heap[g]? = some (.cells cur e (0, 0)) := by
  rcases h.2 with ⟨rfl, _⟩ | ⟨g', cap, cur, rfl, _, hg, _⟩
  · simp [Value.ownBlock] at hv
  · simp [Value.ownBlock] at hv
    subst hv
    exact ⟨cur, hg⟩
/-- What the reference's New leaves, if the geometry is valid. -/
def RNPost (w : World) (nb np sz : Nat) (en : Int) (xs : List Int) (e : Ending) (w' : World) : Prop :=
  (posB xs = false ∧ e = .returned (.tuple #[.agg #[.int .i64 0, .int .i64 0, .int .i64 0, .int .i64 0, .slice none 0 0, .slice none 0 0, .slice none 0 0, .int .i64 0, .int .i64 0, .int .i64 0, .bool false], .int .i64 2]) ∧ Below w.heap.size w w') ∨
  (posB xs = true ∧ ∃ vf vp ve, e = .returned (.tuple #[.agg (rdv (Dev.new nb np sz en xs.reverse) vf vp ve 0), .int .i64 0]) ∧ Rd w' xs (Dev.new nb np sz en xs.reverse) vf vp ve 0 ∧ Below w.heap.size w w')
theorem rNew_ok (nb np sz : Nat) (en : Int) (v : Value) (xs : List Int) (w : World) (hv : valB nb np sz en = true) (hx : Ints w v xs) (hl : xs.length ≤ 1000) : Calls Try.prog 12 #[.agg #[.int .i64 (nb : Int), .int .i64 (np : Int), .int .i64 (sz : Int), .int .i64 en], v] w (RNPost w nb np sz en xs) := by
  obtain ⟨a, b, c, e1, e2, e3, hv1, hv2, hv3, hv4, hv5, hv6, hv7, hv8⟩ := valB_nat hv
  have HR := Lib.hid (fun W => hv ▸ Right_any (nb : Int) np sz en W)
  have HXS := Lib.hid hx
  have HMK := fun W => make_nums nb (by omega) W
  obtain ⟨Af, cf, rfl, -⟩ := id hx
  have HLN := Lib.hid (And.intro hl (show 2 ≤ nb ∧ nb ≤ 4096 ∧ 2 ≤ np ∧ np ≤ 512 by omega))
  have l0 : (0 : Int) ≤ (xs.length : Int) := by omega
  have l1 : (xs.length : Int) ≤ 1000 := by omega
  have n1 : (nb : Int) ≤ 4096 := by omega
  have n2 : (np : Int) ≤ 512 := by omega
  clear hv hx e1 e2 e3 hv1 hv2 hv3 hv4 hv5 hv6 hv7 hv8
  obtain ⟨W0, hW0⟩ : ∃ W0, W0 = (w.alloc (.cells #[.int .i64 (nb : Int), .int .i64 (np : Int), .int .i64 (sz : Int), .int .i64 en] 23)).alloc (.cells #[.int .i64 0, .int .i64 0, .int .i64 0, .int .i64 0, .slice none 0 0, .slice none 0 0, .slice none 0 0, .int .i64 0, .int .i64 0, .int .i64 0, .bool false] 35) := ⟨_, rfl⟩
  have hb0 : Below w.heap.size w W0 := by rw [hW0]; exact (balloc w _).alloc (by simp) _
  have hbx : W0.heap[w.heap.size]? = some (.cells #[.int .i64 (nb : Int), .int .i64 (np : Int), .int .i64 (sz : Int), .int .i64 en] 23 (0, 0)) := by rw [hW0]; exact heap_alloc2_old w _ _
  have hrx : W0.heap[w.heap.size + 1]? = some (.cells #[.int .i64 0, .int .i64 0, .int .i64 0, .int .i64 0, .slice none 0 0, .slice none 0 0, .slice none 0 0, .int .i64 0, .int .i64 0, .int .i64 0, .bool false] 35 (0, 0)) := by rw [hW0]; exact heap_alloc2_new w _ _
  have x0 := cell_of_row W0 w.heap.size 0 _ 23 (0, 0) hbx
  have x1 := cell_of_row W0 w.heap.size 1 _ 23 (0, 0) hbx
  have x2 := cell_of_row W0 w.heap.size 2 _ 23 (0, 0) hbx
  have x3 := cell_of_row W0 w.heap.size 3 _ 23 (0, 0) hbx
  simp only [List.getElem?_toArray, List.getElem?_cons_zero, List.getElem?_cons_succ] at x0 x1 x2 x3
  have HBX := Lib.hid hbx
  have HRX := Lib.hid hrx
  have HB0 := Lib.hid hb0
  have HW := Lib.hid hW0
  clear hb0 hbx hrx hW0
  go_enter Try.func12, Try.ntmps12
  go_upto_region 1 with fail
  rw [← HW.out]
  go_wp2_with ((go_at_call 16; with_reducible refine (HR.out _).mono ?_); rintro e w1 ⟨rfl, hb⟩; have HBX1 := Lib.hid ((hb.block _ (Array.getElem?_eq_some_iff.1 HBX.out).1).trans HBX.out); have HRX1 := Lib.hid ((hb.block _ (Array.getElem?_eq_some_iff.1 HRX.out).1).trans HRX.out); have HB1 := Lib.hid (HB0.out.trans (hb.mono HB0.out.size)); clear hb)
  clear x0 x1 x2 x3
  go_loopw [6] (fun v wr => ∃ k : Nat, k ≤ xs.length ∧ v = .int .i64 k ∧ Hid (∀ j (h : j < xs.length), j < k → 0 ≤ xs[j]) ∧ wr = w1) (fun v _ => xs.length - (RowKit.intOf v).toNat)
  case atStart => exact ⟨0, Nat.zero_le _, rfl, Lib.hid (fun j _ h => absurd h (by omega)), rfl⟩
  case round =>
    obtain ⟨k, hk, rfl, HP, rfl⟩ := hrel
    by_cases hlt : k < xs.length
    · obtain ⟨A', c', ee, hr⟩ := HXS.out
      injection ee with ea _ ec
      subst ea ec
      obtain ⟨gf, of, rfl, hgf, hcf⟩ := hr (by omega)
      have HK := Lib.hid hlt
      obtain ⟨u, hu, z1⟩ : ∃ u, u = xs[k] ∧ wr.cell? ⟨gf, of + k, none⟩ = some (.int .i64 u) := ⟨_, rfl, (HB1.out.cell (p := ⟨gf, of + k, none⟩) hgf).trans (hcf k hlt)⟩
      have HU := Lib.hid hu
      have k0 : (0 : Int) ≤ (k : Int) := by omega
      have k1 : (k : Int) < (xs.length : Int) := by omega
      clear hu hr hcf hlt
      by_cases hneg : u < 0
      · go_wp2_with (refine wpList_store_row rfl 35 _ _ rfl (w.heap.size + 1) #[.int .i64 0, .int .i64 0, .int .i64 0, .int .i64 0, .slice none 0 0, .slice none 0 0, .slice none 0 0, .int .i64 0, .int .i64 0, .int .i64 0, .bool false] rfl rfl 35 _ HRX1.out info35 rfl (by simp [Value.oneCell']) ?_)
        refine bodyPost_ret (v := .tuple #[.agg #[.int .i64 0, .int .i64 0, .int .i64 0, .int .i64 0, .slice none 0 0, .slice none 0 0, .slice none 0 0, .int .i64 0, .int .i64 0, .int .i64 0, .bool false], .int .i64 2]) ?_ rfl (.inl ⟨posB_false HK.out (HU.out ▸ hneg), rfl, setRow_below HB1.out (by omega)⟩)
        exact results_row1 (a := 4) (b := 5) (ty := 35) rfl _ _ (w.heap.size + 1) 35 #[.int .i64 0, .int .i64 0, .int .i64 0, .int .i64 0, .slice none 0 0, .slice none 0 0, .slice none 0 0, .int .i64 0, .int .i64 0, .int .i64 0, .bool false] (0, 0) _ rfl (setRow_at HRX1.out) Try.underlying35 rfl info35
      · go_wp2
        go_roundw
        case rel => exact ⟨k + 1, by omega, by go_num, Lib.hid (fun j h hj => by
          by_cases e : j = k
          · subst e; rw [HU.out] at hneg; omega
          · exact HP.out j h (by omega)), trivial⟩
        case measure => simp [RowKit.intOf]; omega
    · obtain rfl : k = xs.length := by omega
      have HPOS : Hid (posB xs = true) := Lib.hid (posB_true (fun x hx => by
        obtain ⟨j, hj, rfl⟩ := List.mem_iff_getElem.1 hx
        exact HP.out j hj hj))
      clear HP
      obtain ⟨W1, hW1⟩ : ∃ W1, W1 = wr := ⟨_, rfl⟩
      subst hW1
      have HIW : Hid (∀ W, Below w.heap.size w W → Ints W (.slice Af xs.length cf) xs) := Lib.hid (fun W hb => HXS.out.below' hb)
      have y0 := cell_of_row W1 w.heap.size 0 _ 23 (0, 0) HBX1.out
      have y1 := cell_of_row W1 w.heap.size 1 _ 23 (0, 0) HBX1.out
      have y2 := cell_of_row W1 w.heap.size 2 _ 23 (0, 0) HBX1.out
      have y3 := cell_of_row W1 w.heap.size 3 _ 23 (0, 0) HBX1.out
      simp only [List.getElem?_toArray, List.getElem?_cons_zero, List.getElem?_cons_succ] at y0 y1 y2 y3
      have hs2 : w.heap.size + 1 < W1.heap.size := (Array.getElem?_eq_some_iff.1 HRX1.out).1
      have hs1 : w.heap.size < W1.heap.size := (Array.getElem?_eq_some_iff.1 HBX1.out).1
      go_upto_region 8 with fail
      go_cut [7] from 25 (fun a wx => ∃ (D E : Nat) (B : Option Addr) (d : Nat), a = .pointer (some ⟨D, 0, none⟩) ∧ Hid (wx.heap[D]? = some (.cells #[.int .i64 (nb : Int), .int .i64 (np : Int), .int .i64 (sz : Int), .int .i64 en, .slice B xs.length d, .slice none 0 0, .slice (some ⟨E, 0, none⟩) nb nb, .int .i64 0, .int .i64 (-1), .int .i64 0, .bool false] 35 (0, 0))) ∧ Hid (wx.heap[E]? = some (.cells (madeCells #[.int .i64 0] nb) 3 (0, 0))) ∧ Hid (IntL wx (.slice B xs.length d) xs) ∧ Hid (w.heap.size + 1 < D ∧ w.heap.size + 1 < E) ∧ Hid (Below W1.heap.size W1 wx))
      case first =>
        have SC : Hid (∀ W, Below W1.heap.size W1 W → W.cell? ⟨w.heap.size, 0, none⟩ = some (.int .i64 (nb : Int)) ∧ W.cell? ⟨w.heap.size, 1, none⟩ = some (.int .i64 (np : Int)) ∧ W.cell? ⟨w.heap.size, 2, none⟩ = some (.int .i64 (sz : Int)) ∧ W.cell? ⟨w.heap.size, 3, none⟩ = some (.int .i64 en)) := Lib.hid (fun W hb => ⟨(hb.cell (p := ⟨w.heap.size, 0, none⟩) hs1).trans y0, (hb.cell (p := ⟨w.heap.size, 1, none⟩) hs1).trans y1, (hb.cell (p := ⟨w.heap.size, 2, none⟩) hs1).trans y2, (hb.cell (p := ⟨w.heap.size, 3, none⟩) hs1).trans y3⟩)
        go_region_held_law (fun W => W.cell? ⟨w.heap.size, 0, none⟩ = some (.int .i64 (nb : Int)) ∧ W.cell? ⟨w.heap.size, 1, none⟩ = some (.int .i64 (np : Int)) ∧ W.cell? ⟨w.heap.size, 2, none⟩ = some (.int .i64 (sz : Int)) ∧ W.cell? ⟨w.heap.size, 3, none⟩ = some (.int .i64 en)) (first | assumption | (refine SC.out _ ?_; repeat (first | exact Below.refl _ _ | exact HB5.out | refine Below.drew ?_ | refine bal ?_ _ | (refine brow ?_ ?_ _; rotate_left; omega)))) (first | (refine step_copyI rfl (.tmp 26) (.tmp 27) rfl rfl _ Af cf xs rfl rfl (by first | exact heap_alloc_new _ _ | exact heap_alloc2_old _ _ _ | exact heap_alloc2_new _ _ _ | exact (three_new _ _ _ _).1 | exact (three_new _ _ _ _).2.1 | exact (three_new _ _ _ _).2.2.1) (HIW.out _ (by repeat (first | exact HB1.out | refine Below.drew ?_ | refine bal ?_ _))) HLN.out.1 W1 (by repeat (first | exact Below.refl _ _ | refine Below.drew ?_ | refine bal ?_ _)) (by first | omega | (simp <;> omega) | simp) ?_; intro B d W5 hI hgr hb5; have HI5 := Lib.hid hI; have HGR5 := Lib.hid hgr; have HB5 := Lib.hid hb5; have hbx5 := (hb5.block _ (Array.getElem?_eq_some_iff.1 HBX1.out).1).trans HBX1.out; have v0 := cell_of_row W5 w.heap.size 0 _ 23 (0, 0) hbx5; have v1 := cell_of_row W5 w.heap.size 1 _ 23 (0, 0) hbx5; have v2 := cell_of_row W5 w.heap.size 2 _ 23 (0, 0) hbx5; have v3 := cell_of_row W5 w.heap.size 3 _ 23 (0, 0) hbx5; simp only [List.getElem?_toArray, List.getElem?_cons_zero, List.getElem?_cons_succ] at v0 v1 v2 v3; have hs15 := hb5.size; have hs5 : w.heap.size < W5.heap.size := (Array.getElem?_eq_some_iff.1 hbx5).1;         (first | (have hD : W5.heap[W1.heap.size]? = some (.cells #[.int .i64 0, .int .i64 0, .int .i64 0, .int .i64 0, .slice none 0 0, .slice none 0 0, .slice none 0 0, .int .i64 0, .int .i64 0, .int .i64 0, .bool false] 35 (0, 0)) := (hgr.block _ (by first | omega | (simp <;> omega) | simp) (by first | omega | (simp <;> omega) | simp)).trans (by first | exact heap_alloc_new _ _ | exact heap_alloc2_old _ _ _ | exact heap_alloc2_new _ _ _ | exact (three_new _ _ _ _).1 | exact (three_new _ _ _ _).2.1 | exact (three_new _ _ _ _).2.2.1); have VA : ∀ (B' : Option Addr) (d' E' : Nat), (storeX ⟨W1.heap.size, 0, none⟩ (.agg #[.int .i64 (nb : Int), .int .i64 (np : Int), .int .i64 (sz : Int), .int .i64 en, .slice B' xs.length d', .slice none 0 0, .slice (some ⟨E', 0, none⟩) nb nb, .int .i64 0, .int .i64 (-1), .int .i64 0, .bool false])).run Try.prog (W5) = .ok () ((W5).setRow (W1.heap.size) #[.int .i64 (nb : Int), .int .i64 (np : Int), .int .i64 (sz : Int), .int .i64 en, .slice B' xs.length d', .slice none 0 0, .slice (some ⟨E', 0, none⟩) nb nb, .int .i64 0, .int .i64 (-1), .int .i64 0, .bool false]) := fun B' d' E' => (r35new nb np sz en xs.length B' d' E').store (hD) rfl; have VB : ∀ (B' : Option Addr) (d' E' : Nat), (storeX ⟨W1.heap.size, 0, none⟩ (.agg #[.int .i64 (nb : Int), .int .i64 (np : Int), .int .i64 (sz : Int), .int .i64 en, .slice B' xs.length d', .slice none 0 0, .slice (some ⟨E', 0, none⟩) nb nb, .int .i64 0, .int .i64 (-1), .int .i64 0, .bool false])).run Try.prog (W5.alloc (.cells (madeCells #[.int .i64 0] nb) 3)) = .ok () ((W5.alloc (.cells (madeCells #[.int .i64 0] nb) 3)).setRow (W1.heap.size) #[.int .i64 (nb : Int), .int .i64 (np : Int), .int .i64 (sz : Int), .int .i64 en, .slice B' xs.length d', .slice none 0 0, .slice (some ⟨E', 0, none⟩) nb nb, .int .i64 0, .int .i64 (-1), .int .i64 0, .bool false]) := fun B' d' E' => (r35new nb np sz en xs.length B' d' E').store ((heap_alloc_old W5 _ (Array.getElem?_eq_some_iff.1 hD).1).trans hD) rfl; skip) | (have hD : W5.heap[W1.heap.size + 1]? = some (.cells #[.int .i64 0, .int .i64 0, .int .i64 0, .int .i64 0, .slice none 0 0, .slice none 0 0, .slice none 0 0, .int .i64 0, .int .i64 0, .int .i64 0, .bool false] 35 (0, 0)) := (hgr.block _ (by first | omega | (simp <;> omega) | simp) (by first | omega | (simp <;> omega) | simp)).trans (by first | exact heap_alloc_new _ _ | exact heap_alloc2_old _ _ _ | exact heap_alloc2_new _ _ _ | exact (three_new _ _ _ _).1 | exact (three_new _ _ _ _).2.1 | exact (three_new _ _ _ _).2.2.1); have VA : ∀ (B' : Option Addr) (d' E' : Nat), (storeX ⟨W1.heap.size + 1, 0, none⟩ (.agg #[.int .i64 (nb : Int), .int .i64 (np : Int), .int .i64 (sz : Int), .int .i64 en, .slice B' xs.length d', .slice none 0 0, .slice (some ⟨E', 0, none⟩) nb nb, .int .i64 0, .int .i64 (-1), .int .i64 0, .bool false])).run Try.prog (W5) = .ok () ((W5).setRow (W1.heap.size + 1) #[.int .i64 (nb : Int), .int .i64 (np : Int), .int .i64 (sz : Int), .int .i64 en, .slice B' xs.length d', .slice none 0 0, .slice (some ⟨E', 0, none⟩) nb nb, .int .i64 0, .int .i64 (-1), .int .i64 0, .bool false]) := fun B' d' E' => (r35new nb np sz en xs.length B' d' E').store (hD) rfl; have VB : ∀ (B' : Option Addr) (d' E' : Nat), (storeX ⟨W1.heap.size + 1, 0, none⟩ (.agg #[.int .i64 (nb : Int), .int .i64 (np : Int), .int .i64 (sz : Int), .int .i64 en, .slice B' xs.length d', .slice none 0 0, .slice (some ⟨E', 0, none⟩) nb nb, .int .i64 0, .int .i64 (-1), .int .i64 0, .bool false])).run Try.prog (W5.alloc (.cells (madeCells #[.int .i64 0] nb) 3)) = .ok () ((W5.alloc (.cells (madeCells #[.int .i64 0] nb) 3)).setRow (W1.heap.size + 1) #[.int .i64 (nb : Int), .int .i64 (np : Int), .int .i64 (sz : Int), .int .i64 en, .slice B' xs.length d', .slice none 0 0, .slice (some ⟨E', 0, none⟩) nb nb, .int .i64 0, .int .i64 (-1), .int .i64 0, .bool false]) := fun B' d' E' => (r35new nb np sz en xs.length B' d' E').store ((heap_alloc_old W5 _ (Array.getElem?_eq_some_iff.1 hD).1).trans hD) rfl; skip) | (have hD : W5.heap[W1.heap.size + 1 + 1]? = some (.cells #[.int .i64 0, .int .i64 0, .int .i64 0, .int .i64 0, .slice none 0 0, .slice none 0 0, .slice none 0 0, .int .i64 0, .int .i64 0, .int .i64 0, .bool false] 35 (0, 0)) := (hgr.block _ (by first | omega | (simp <;> omega) | simp) (by first | omega | (simp <;> omega) | simp)).trans (by first | exact heap_alloc_new _ _ | exact heap_alloc2_old _ _ _ | exact heap_alloc2_new _ _ _ | exact (three_new _ _ _ _).1 | exact (three_new _ _ _ _).2.1 | exact (three_new _ _ _ _).2.2.1); have VA : ∀ (B' : Option Addr) (d' E' : Nat), (storeX ⟨W1.heap.size + 1 + 1, 0, none⟩ (.agg #[.int .i64 (nb : Int), .int .i64 (np : Int), .int .i64 (sz : Int), .int .i64 en, .slice B' xs.length d', .slice none 0 0, .slice (some ⟨E', 0, none⟩) nb nb, .int .i64 0, .int .i64 (-1), .int .i64 0, .bool false])).run Try.prog (W5) = .ok () ((W5).setRow (W1.heap.size + 1 + 1) #[.int .i64 (nb : Int), .int .i64 (np : Int), .int .i64 (sz : Int), .int .i64 en, .slice B' xs.length d', .slice none 0 0, .slice (some ⟨E', 0, none⟩) nb nb, .int .i64 0, .int .i64 (-1), .int .i64 0, .bool false]) := fun B' d' E' => (r35new nb np sz en xs.length B' d' E').store (hD) rfl; have VB : ∀ (B' : Option Addr) (d' E' : Nat), (storeX ⟨W1.heap.size + 1 + 1, 0, none⟩ (.agg #[.int .i64 (nb : Int), .int .i64 (np : Int), .int .i64 (sz : Int), .int .i64 en, .slice B' xs.length d', .slice none 0 0, .slice (some ⟨E', 0, none⟩) nb nb, .int .i64 0, .int .i64 (-1), .int .i64 0, .bool false])).run Try.prog (W5.alloc (.cells (madeCells #[.int .i64 0] nb) 3)) = .ok () ((W5.alloc (.cells (madeCells #[.int .i64 0] nb) 3)).setRow (W1.heap.size + 1 + 1) #[.int .i64 (nb : Int), .int .i64 (np : Int), .int .i64 (sz : Int), .int .i64 en, .slice B' xs.length d', .slice none 0 0, .slice (some ⟨E', 0, none⟩) nb nb, .int .i64 0, .int .i64 (-1), .int .i64 0, .bool false]) := fun B' d' E' => (r35new nb np sz en xs.length B' d' E').store ((heap_alloc_old W5 _ (Array.getElem?_eq_some_iff.1 hD).1).trans hD) rfl; skip) | skip); have VC : ∀ (B' : Option Addr) (d' E' : Nat), (storeX ⟨W5.heap.size, 0, none⟩ (.agg #[.int .i64 (nb : Int), .int .i64 (np : Int), .int .i64 (sz : Int), .int .i64 en, .slice B' xs.length d', .slice none 0 0, .slice (some ⟨E', 0, none⟩) nb nb, .int .i64 0, .int .i64 (-1), .int .i64 0, .bool false])).run Try.prog (W5.alloc (.cells #[.int .i64 0, .int .i64 0, .int .i64 0, .int .i64 0, .slice none 0 0, .slice none 0 0, .slice none 0 0, .int .i64 0, .int .i64 0, .int .i64 0, .bool false] 35)) = .ok () ((W5.alloc (.cells #[.int .i64 0, .int .i64 0, .int .i64 0, .int .i64 0, .slice none 0 0, .slice none 0 0, .slice none 0 0, .int .i64 0, .int .i64 0, .int .i64 0, .bool false] 35)).setRow (W5.heap.size) #[.int .i64 (nb : Int), .int .i64 (np : Int), .int .i64 (sz : Int), .int .i64 en, .slice B' xs.length d', .slice none 0 0, .slice (some ⟨E', 0, none⟩) nb nb, .int .i64 0, .int .i64 (-1), .int .i64 0, .bool false]) := fun B' d' E' => (r35new nb np sz en xs.length B' d' E').store (heap_alloc_new W5 _) rfl; have VD : ∀ (B' : Option Addr) (d' E' : Nat), (storeX ⟨W5.heap.size + 1, 0, none⟩ (.agg #[.int .i64 (nb : Int), .int .i64 (np : Int), .int .i64 (sz : Int), .int .i64 en, .slice B' xs.length d', .slice none 0 0, .slice (some ⟨E', 0, none⟩) nb nb, .int .i64 0, .int .i64 (-1), .int .i64 0, .bool false])).run Try.prog ((W5.alloc (.cells (madeCells #[.int .i64 0] nb) 3)).alloc (.cells #[.int .i64 0, .int .i64 0, .int .i64 0, .int .i64 0, .slice none 0 0, .slice none 0 0, .slice none 0 0, .int .i64 0, .int .i64 0, .int .i64 0, .bool false] 35)) = .ok () (((W5.alloc (.cells (madeCells #[.int .i64 0] nb) 3)).alloc (.cells #[.int .i64 0, .int .i64 0, .int .i64 0, .int .i64 0, .slice none 0 0, .slice none 0 0, .slice none 0 0, .int .i64 0, .int .i64 0, .int .i64 0, .bool false] 35)).setRow (W5.heap.size + 1) #[.int .i64 (nb : Int), .int .i64 (np : Int), .int .i64 (sz : Int), .int .i64 en, .slice B' xs.length d', .slice none 0 0, .slice (some ⟨E', 0, none⟩) nb nb, .int .i64 0, .int .i64 (-1), .int .i64 0, .bool false]) := fun B' d' E' => (r35new nb np sz en xs.length B' d' E').store (heap_alloc2_new W5 _ _) rfl; have VE : ∀ (B' : Option Addr) (d' E' : Nat), (storeX ⟨W5.heap.size, 0, none⟩ (.agg #[.int .i64 (nb : Int), .int .i64 (np : Int), .int .i64 (sz : Int), .int .i64 en, .slice B' xs.length d', .slice none 0 0, .slice (some ⟨E', 0, none⟩) nb nb, .int .i64 0, .int .i64 (-1), .int .i64 0, .bool false])).run Try.prog ((W5.alloc (.cells #[.int .i64 0, .int .i64 0, .int .i64 0, .int .i64 0, .slice none 0 0, .slice none 0 0, .slice none 0 0, .int .i64 0, .int .i64 0, .int .i64 0, .bool false] 35)).alloc (.cells (madeCells #[.int .i64 0] nb) 3)) = .ok () (((W5.alloc (.cells #[.int .i64 0, .int .i64 0, .int .i64 0, .int .i64 0, .slice none 0 0, .slice none 0 0, .slice none 0 0, .int .i64 0, .int .i64 0, .int .i64 0, .bool false] 35)).alloc (.cells (madeCells #[.int .i64 0] nb) 3)).setRow (W5.heap.size) #[.int .i64 (nb : Int), .int .i64 (np : Int), .int .i64 (sz : Int), .int .i64 en, .slice B' xs.length d', .slice none 0 0, .slice (some ⟨E', 0, none⟩) nb nb, .int .i64 0, .int .i64 (-1), .int .i64 0, .bool false]) := fun B' d' E' => (r35new nb np sz en xs.length B' d' E').store (heap_alloc2_old W5 _ _) rfl; (first | have hE : W5.heap[W1.heap.size]? = some (.cells (madeCells #[.int .i64 0] nb) 3 (0, 0)) := (hgr.block _ (by first | omega | (simp <;> omega) | simp) (by first | omega | (simp <;> omega) | simp)).trans (by first | exact heap_alloc2_old _ _ _ | exact heap_alloc2_new _ _ _ | exact (three_new _ _ _ _).1 | exact (three_new _ _ _ _).2.1 | exact (three_new _ _ _ _).2.2.1) | have hE : W5.heap[W1.heap.size + 1]? = some (.cells (madeCells #[.int .i64 0] nb) 3 (0, 0)) := (hgr.block _ (by first | omega | (simp <;> omega) | simp) (by first | omega | (simp <;> omega) | simp)).trans (by first | exact heap_alloc2_old _ _ _ | exact heap_alloc2_new _ _ _ | exact (three_new _ _ _ _).1 | exact (three_new _ _ _ _).2.1 | exact (three_new _ _ _ _).2.2.1) | have hE : W5.heap[W1.heap.size + 1 + 1]? = some (.cells (madeCells #[.int .i64 0] nb) 3 (0, 0)) := (hgr.block _ (by first | omega | (simp <;> omega) | simp) (by first | omega | (simp <;> omega) | simp)).trans (by first | exact heap_alloc2_old _ _ _ | exact heap_alloc2_new _ _ _ | exact (three_new _ _ _ _).1 | exact (three_new _ _ _ _).2.1 | exact (three_new _ _ _ _).2.2.1) | skip); clear hI hgr hb5 hbx5) | fail)
        all_goals
          go_wp2
          go_meet
          case rel => exact new_rel (by first | exact hD | exact (heap_alloc_old W5 _ (Array.getElem?_eq_some_iff.1 hD).1).trans hD | exact heap_alloc_new W5 _ | exact heap_alloc2_new W5 _ _ | exact heap_alloc2_old W5 _ _) (by first | exact hE | exact (heap_alloc_old W5 _ (Array.getElem?_eq_some_iff.1 hE).1).trans hE | exact heap_alloc_new W5 _ | exact heap_alloc2_old W5 _ _ | exact heap_alloc2_new W5 _ _) (by first | exact HI5.out | exact HI5.out.kt (KT.below (balloc W5 _)) | exact HI5.out.kt (KT.below ((balloc W5 _).alloc (by simp) _))) (by first | exact HB5.out | exact bal HB5.out _ | exact bal (bal HB5.out _) _) (by omega) (by omega) (by omega) _ rfl _ rfl
      case rest =>
        obtain ⟨D, E, B, d, rfl, HD, HE, HI, HDE, HBc⟩ := hcut
        obtain ⟨W2, hW2⟩ : ∃ W2, W2 = wc := ⟨_, rfl⟩
        subst hW2
        clear y0 y1 y2 y3 hs1 hs2 HMK
        have HBX2 := Lib.hid ((HBc.out.block _ (Array.getElem?_eq_some_iff.1 HBX1.out).1).trans HBX1.out)
        have HRX2 := Lib.hid ((HBc.out.block _ (Array.getElem?_eq_some_iff.1 HRX1.out).1).trans HRX1.out)
        have HB2 := Lib.hid (HB1.out.trans (HBc.out.mono HB1.out.size))
        have HDL : Hid (D < W2.heap.size) := Lib.hid (Array.getElem?_eq_some_iff.1 HD.out).1
        go_wp2
        go_loopw [8] (fun v wr => ∃ (k : Nat) (vp : Value) (rows : List Value), k ≤ nb ∧ v = .int .i64 k ∧ Hid (wr.heap[D]? = some (.cells #[.int .i64 (nb : Int), .int .i64 (np : Int), .int .i64 (sz : Int), .int .i64 en, .slice B xs.length d, vp, .slice (some ⟨E, 0, none⟩) nb nb, .int .i64 0, .int .i64 (-1), .int .i64 0, .bool false] 35 (0, 0))) ∧ Hid (wr.ownsRow W2.heap.size 76 1 vp k rows) ∧ Hid (∀ i, i < k → ∃ pv, rows[i]? = some pv ∧ PrR 0 wr pv np (fun _ => ⟨1, [], []⟩)) ∧ Hid (Chg (· = D) W2 wr)) (fun v _ => nb - (RowKit.intOf v).toNat)
        case atStart => exact ⟨0, .slice none 0 0, [], Nat.zero_le _, rfl, HD, Lib.hid (World.ownsRow_nil _ _ _ _), Lib.hid (fun i hi => absurd hi (by omega)), Lib.hid (Chg.refl _ _)⟩
        case round =>
          obtain ⟨k, vp, rows, hk, rfl, HDr, HO, HPR, HCh⟩ := hrel
          have hnD0 : w.heap.size ≠ D := by have := HDE.out; omega
          have hnD1 : w.heap.size + 1 ≠ D := by have := HDE.out; omega
          have HND := Lib.hid (And.intro hnD0 hnD1)
          have HBXr := Lib.hid ((HCh.out.block _ (Array.getElem?_eq_some_iff.1 HBX2.out).1 hnD0).trans HBX2.out)
          have HRXr := Lib.hid ((HCh.out.block _ (Array.getElem?_eq_some_iff.1 HRX2.out).1 hnD1).trans HRX2.out)
          have x0 := cell_of_row wr w.heap.size 0 _ 23 (0, 0) HBXr.out
          have x1 := cell_of_row wr w.heap.size 1 _ 23 (0, 0) HBXr.out
          simp only [List.getElem?_toArray, List.getElem?_cons_zero, List.getElem?_cons_succ] at x0 x1
          obtain ⟨AV, cV, rfl⟩ := own_form HO.out
          have d5 : wr.cell? ⟨D, 5, none⟩ = some (.slice AV k cV) := cell_of_row wr D 5 _ 35 (0, 0) HDr.out
          clear hnD0 hnD1
          by_cases hlt : k < nb
          · have HK := Lib.hid hlt
            have kk : (k : Int) < (nb : Int) := by omega
            have HPG := Lib.hid (fun W => pages_any (lb := 0) np 1 W (by have := HLN.out; omega) (by decide) (by decide))
            clear hlt
            go_upto_region 12 with fail
            have S0 : wr.drew.cell? ⟨w.heap.size, 1, none⟩ = some (.int .i64 (np : Int)) := x1
            have e5 : wr.drew.cell? ⟨D, 5, none⟩ = some (.slice AV k cV) := d5
            have bd : Below wr.heap.size wr wr.drew := (Below.refl _ _).drew
            have HBd := Lib.hid bd
            clear bd
            go_region_law (first
              | (refine step_callR (f := 34) rfl _ _ rfl (HPG.out _) (by go_simp) ?_; rintro e w5 ⟨gp, rfl, hpr, hgp, hb5⟩; have hb5' : Below wr.heap.size wr w5 := HBd.out.trans hb5; have HP5 := Lib.hid hpr; have HB5 := Lib.hid hb5'; have S5 : Hid (w5.cell? ⟨w.heap.size, 1, none⟩ = some (.int .i64 (np : Int))) := Lib.hid ((hb5'.cell (p := ⟨w.heap.size, 1, none⟩) (Array.getElem?_eq_some_iff.1 HBXr.out).1).trans x1); have S5a : Hid (∀ o, (w5.alloc o).cell? ⟨w.heap.size, 1, none⟩ = some (.int .i64 (np : Int))) := Lib.hid (fun o => ((balloc w5 o).cell (p := ⟨w.heap.size, 1, none⟩) (Nat.lt_of_lt_of_le (Array.getElem?_eq_some_iff.1 HBXr.out).1 hb5'.size)).trans S5.out); have HO5 := Lib.hid (own_keep HO.out hb5'); have HD5 := Lib.hid ((hb5'.block D (Array.getElem?_eq_some_iff.1 HDr.out).1).trans HDr.out); have g5 := cell_of_row w5 D 5 _ 35 (0, 0) HD5.out; have g5a : ∀ o, (w5.alloc o).cell? ⟨D, 5, none⟩ = some (.slice AV k cV) := fun o => ((balloc w5 o).cell (p := ⟨D, 5, none⟩) (Array.getElem?_eq_some_iff.1 HD5.out).1).trans g5; simp only [List.getElem?_toArray, List.getElem?_cons_zero, List.getElem?_cons_succ] at g5; clear hpr hgp hb5 hb5'; refine ⟨_, rfl, ?_⟩)
              | (refine step_appR rfl (.tmp 40) (.tmp 44) rfl rfl W2.heap.size k (.slice AV k cV) rows _ (.slice (some ⟨gp, 0, none⟩) np np) rfl rfl (HO5.out.alloc _) (heap_alloc_new _ _) rfl (by have := HLN.out; omega) (by have h1 := HCh.out.size; have h2 := HB5.out.size; simp; omega) ?_; intro A7 c7 W7 ho7 hgr7; have HO7 := Lib.hid ho7; have HG7 := Lib.hid hgr7; have hnr : (some D : Option Nat) ≠ (Value.slice AV k cV).ownBlock := fun e => (by obtain ⟨cur, hc⟩ := own_ty HO5.out e.symm; exact absurd (ty_ne HD5.out hc) (by decide)); have hnw : (some w.heap.size : Option Nat) ≠ (Value.slice AV k cV).ownBlock := fun e => (by obtain ⟨cur, hc⟩ := own_ty HO.out e.symm; exact absurd (ty_ne HBXr.out hc) (by decide)); have hd7 := (hgr7.block D (by have := (Array.getElem?_eq_some_iff.1 HD5.out).1; simp; omega) hnr).trans ((heap_alloc_old w5 _ (Array.getElem?_eq_some_iff.1 HD5.out).1).trans HD5.out); have HD7 := Lib.hid hd7; have z7 := cell_of_row W7 D 5 _ 35 (0, 0) hd7; have y7 := frozen_of_row W7 D 5 _ 35 hd7; simp only [List.getElem?_toArray, List.getElem?_cons_zero, List.getElem?_cons_succ] at z7; have S7 : Hid (W7.cell? ⟨w.heap.size, 1, none⟩ = some (.int .i64 (np : Int))) := Lib.hid ((World.cell?_of_block (a := ⟨w.heap.size, 1, none⟩) (hgr7.block _ (by have := (Array.getElem?_eq_some_iff.1 HBXr.out).1; have h2 := HB5.out.size; simp; omega) hnw)).trans (S5a.out _)); have S8 : Hid (∀ u, (W7.setCell ⟨D, 5, none⟩ u).cell? ⟨w.heap.size, 1, none⟩ = some (.int .i64 (np : Int))) := Lib.hid (fun u => (World.cell?_of_block (a := ⟨w.heap.size, 1, none⟩) (heap_setCell_other W7 ⟨D, 5, none⟩ w.heap.size u HND.out.1)).trans S7.out); clear ho7 hgr7 hnr hnw hd7))
            all_goals
              have HFC : Hid (∀ u, Chg (· = D) W2 (W7.setCell ⟨D, 5, none⟩ u)) := Lib.hid (fun u => by
                have c1' : Chg (· = D) W2 w5 := HCh.out.then_below HB5.out
                have c2' := (c1'.alloc (.cells #[.slice (some ⟨gp, 0, none⟩) np np] 76)).trans (Chg.of_grown HG7.out) (fun i (hi : (Value.slice AV k cV).ownBlock = some i) hl => absurd (HO.out.lt i hi).1 (by omega))
                exact c2'.setCell rfl u)
              have HPN : Hid (∀ u i, i < k + 1 → ∃ pv, (rows ++ [Value.slice (some ⟨gp, 0, none⟩) np np])[i]? = some pv ∧ PrR 0 (W7.setCell ⟨D, 5, none⟩ u) pv np (fun _ => ⟨1, [], []⟩)) := Lib.hid (fun u i hi => by
                have hk7 : ∀ (g : Nat) (cur : Array Value), w5.heap[g]? = some (.cells cur 107 (0, 0)) → (W7.setCell ⟨D, 5, none⟩ u).heap[g]? = some (.cells cur 107 (0, 0)) := fun g cur hg => by
                  have hgl := (Array.getElem?_eq_some_iff.1 hg).1
                  have hnr : (some g : Option Nat) ≠ (Value.slice AV k cV).ownBlock := fun e => by
                    obtain ⟨cur', hc⟩ := own_ty HO5.out e.symm
                    exact absurd (ty_ne hg hc) (by decide)
                  have hgD : g ≠ D := fun e => by
                    subst e
                    exact absurd (ty_ne hg HD5.out) (by decide)
                  rw [heap_setCell_other W7 ⟨D, 5, none⟩ g u hgD, HG7.out.block g (by simp; omega) hnr]
                  exact (heap_alloc_old w5 _ hgl).trans hg
                have hrl : rows.length = k := by have := HO.out.1; omega
                by_cases e : i = k
                · subst e
                  exact ⟨_, by rw [List.getElem?_append_right (by omega), hrl]; simp, prr_keep HP5.out hk7⟩
                · obtain ⟨pv, h1, h2⟩ := HPR.out i (by omega)
                  exact ⟨pv, by rw [List.getElem?_append_left (by omega)]; exact h1, prr_keep (h2.kt (KT.below HB5.out)) hk7⟩)
              have HON : Hid (∀ u, (W7.setCell ⟨D, 5, none⟩ u).ownsRow W2.heap.size 76 1 (.slice A7 (k + 1) c7) (k + 1) (rows ++ [Value.slice (some ⟨gp, 0, none⟩) np np])) := Lib.hid (fun u => by
                refine HO7.out.kept (row := some D) ⟨rfl, rfl, rfl, by rw [World.size_setCell]; exact Nat.le_refl _, fun q hq hn => heap_setCell_other W7 ⟨D, 5, none⟩ q u (fun e => hn (by rw [e]))⟩ (.inr (fun e => ?_))
                obtain ⟨cur, hc⟩ := own_ty HO7.out e
                exact absurd (ty_ne HD7.out hc) (by decide))
              have HDN : Hid (∀ vp : Value, (W7.setCell ⟨D, 5, none⟩ vp).heap[D]? = some (.cells #[.int .i64 (nb : Int), .int .i64 (np : Int), .int .i64 (sz : Int), .int .i64 en, .slice B xs.length d, vp, .slice (some ⟨E, 0, none⟩) nb nb, .int .i64 0, .int .i64 (-1), .int .i64 0, .bool false] 35 (0, 0))) := Lib.hid (fun vp => heap_setCell_same W7 D 5 _ 35 vp HD7.out)
              go_wp2
              go_roundw
              case rel => exact ⟨k + 1, _, _, by have := HK.out; omega, by go_num, HDN.out _ |> Lib.hid, Lib.hid (HON.out _), Lib.hid (HPN.out _), Lib.hid (HFC.out _)⟩
              case measure => simp [RowKit.intOf]; have := HK.out; omega
          · obtain rfl : k = nb := by omega
            have HR := Lib.hid (r35new2 k np sz en xs.length B d E AV cV)
            have l7 := HR.out.load HDr.out
            have V4 := HR.out.store HRXr.out rfl
            have HKT : Hid (KT W2 wr) := Lib.hid ⟨HCh.out.size, fun q cur ty fr hq ht => (HCh.out.block q (Array.getElem?_eq_some_iff.1 hq).1 (fun e => by
              subst e
              have := ty_ne HD.out hq
              subst this
              rcases ht with h | h | h | h <;> exact absurd h (by decide))).trans hq⟩
            have HBF : Hid (Below w.heap.size w wr) := Lib.hid (HB2.out.trans (HCh.out.below HB2.out.size (fun i hi => by have := HDE.out; omega)))
            have hkt := setRow_kt (cs := #[.int .i64 (k : Int), .int .i64 (np : Int), .int .i64 (sz : Int), .int .i64 en, .slice B xs.length d, .slice AV k cV, .slice (some ⟨E, 0, none⟩) k k, .int .i64 0, .int .i64 (-1), .int .i64 0, .bool false]) HRXr.out
            have HFIN : Hid (RNPost w k np sz en xs (.returned (.tuple #[.agg #[.int .i64 (k : Int), .int .i64 (np : Int), .int .i64 (sz : Int), .int .i64 en, .slice B xs.length d, .slice AV k cV, .slice (some ⟨E, 0, none⟩) k k, .int .i64 0, .int .i64 (-1), .int .i64 0, .bool false], .int .i64 0])) (wr.setRow (w.heap.size + 1) #[.int .i64 (k : Int), .int .i64 (np : Int), .int .i64 (sz : Int), .int .i64 en, .slice B xs.length d, .slice AV k cV, .slice (some ⟨E, 0, none⟩) k k, .int .i64 0, .int .i64 (-1), .int .i64 0, .bool false])) := Lib.hid (by
              refine .inr ⟨HPOS.out, .slice B xs.length d, .slice AV k cV, .slice (some ⟨E, 0, none⟩) k k, rfl, ⟨(HI.out.kt HKT.out).kt hkt, fun q => ?_, ?_, ?_, fun h => absurd (show (0 : Int) ≤ -1 from h) (by decide), ⟨Int.le_refl _, ?_⟩⟩, setRow_below HBF.out (by omega)⟩
              · show xs.reverse.contains q = xs.contains q
                rw [Bool.eq_iff_iff]
                simp
              · rcases HO.out.2 with ⟨e0, h0⟩ | ⟨G, cap, cur2, e0, hG, hG2, k1, k2, k3, k4⟩
                · have := HLN.out; omega
                · injection e0 with e1 _ e2
                  subst e1 e2
                  have hGn : G ≠ w.heap.size + 1 := fun e => by
                    subst e
                    exact absurd (ty_ne HRXr.out hG2) (by decide)
                  refine ⟨G, cV, cur2, rfl, k1, (setRow_other wr _ G _ hGn).trans hG2, fun i hi => ?_⟩
                  have hi : i < k := hi
                  obtain ⟨pv, h1, h2⟩ := HPR.out i hi
                  refine ⟨pv, ?_, (h2.kt hkt).congr (fun j _ => ?_)⟩
                  · rw [← k4, List.getElem?_take, if_pos (by omega)] at h1
                    simpa using h1
                  · simp [pgF, Dev.new]
              · refine ⟨some ⟨E, 0, none⟩, k, by simp [Dev.new], by simp [Dev.new], fun h0 => ⟨E, _, rfl, hkt.2 _ _ _ _ (HKT.out.2 _ _ _ _ HE.out (.inr (.inl rfl))) (.inr (.inl rfl)), fun j hj => ?_⟩⟩
                have hj' : j < k := by simpa [Dev.new] using hj
                simp [madeCells, hj', Nat.mod_one, Dev.new]
              · show (0 : Int) ≤ (sz : Int) + 64
                omega)
            clear hkt
            go_wp2
            refine bodyPost_ret (v := .tuple #[.agg #[.int .i64 (k : Int), .int .i64 (np : Int), .int .i64 (sz : Int), .int .i64 en, .slice B xs.length d, .slice AV k cV, .slice (some ⟨E, 0, none⟩) k k, .int .i64 0, .int .i64 (-1), .int .i64 0, .bool false], .int .i64 0]) ?_ rfl HFIN.out
            exact results_row1 (a := 4) (b := 5) (ty := 35) rfl _ _ (w.heap.size + 1) 35 #[.int .i64 (k : Int), .int .i64 (np : Int), .int .i64 (sz : Int), .int .i64 en, .slice B xs.length d, .slice AV k cV, .slice (some ⟨E, 0, none⟩) k k, .int .i64 0, .int .i64 (-1), .int .i64 0, .bool false] (0, 0) _ rfl (setRow_at HRXr.out) Try.underlying35 rfl info35
theorem rNew_bad (nb np sz en : Int) (v : Value) (w : World) (hv : valB nb np sz en = false) : Calls Try.prog 12 #[.agg #[.int .i64 nb, .int .i64 np, .int .i64 sz, .int .i64 en], v] w fun e w' => e = .returned (.tuple #[.agg #[.int .i64 0, .int .i64 0, .int .i64 0, .int .i64 0, .slice none 0 0, .slice none 0 0, .slice none 0 0, .int .i64 0, .int .i64 0, .int .i64 0, .bool false], .int .i64 2]) ∧ Below w.heap.size w w' := by
  have HR := Lib.hid (fun W => hv ▸ Right_any nb np sz en W)
  obtain ⟨W0, hW0⟩ : ∃ W0, W0 = (w.alloc (.cells #[.int .i64 nb, .int .i64 np, .int .i64 sz, .int .i64 en] 23)).alloc (.cells #[.int .i64 0, .int .i64 0, .int .i64 0, .int .i64 0, .slice none 0 0, .slice none 0 0, .slice none 0 0, .int .i64 0, .int .i64 0, .int .i64 0, .bool false] 35) := ⟨_, rfl⟩
  have hb0 : Below w.heap.size w W0 := by rw [hW0]; exact (balloc w _).alloc (by simp) _
  have hbx : W0.heap[w.heap.size]? = some (.cells #[.int .i64 nb, .int .i64 np, .int .i64 sz, .int .i64 en] 23 (0, 0)) := by rw [hW0]; exact heap_alloc2_old w _ _
  have hrx : W0.heap[w.heap.size + 1]? = some (.cells #[.int .i64 0, .int .i64 0, .int .i64 0, .int .i64 0, .slice none 0 0, .slice none 0 0, .slice none 0 0, .int .i64 0, .int .i64 0, .int .i64 0, .bool false] 35 (0, 0)) := by rw [hW0]; exact heap_alloc2_new w _ _
  have x0 := cell_of_row W0 w.heap.size 0 _ 23 (0, 0) hbx
  have x1 := cell_of_row W0 w.heap.size 1 _ 23 (0, 0) hbx
  have x2 := cell_of_row W0 w.heap.size 2 _ 23 (0, 0) hbx
  have x3 := cell_of_row W0 w.heap.size 3 _ 23 (0, 0) hbx
  simp only [List.getElem?_toArray, List.getElem?_cons_zero, List.getElem?_cons_succ] at x0 x1 x2 x3
  have HRX := Lib.hid hrx
  have HB0 := Lib.hid hb0
  have HW := Lib.hid hW0
  have HRZ : Hid (R35 #[.int .i64 0, .int .i64 0, .int .i64 0, .int .i64 0, .slice none 0 0, .slice none 0 0, .slice none 0 0, .int .i64 0, .int .i64 0, .int .i64 0, .bool false]) := Lib.hid ⟨info35, by simp [Value.oneCell']⟩
  clear hb0 hbx hrx hW0 hv
  go_enter Try.func12, Try.ntmps12
  go_upto_region 1 with fail
  rw [← HW.out]
  go_wp2_with ((go_at_call 16; with_reducible refine (HR.out _).mono ?_); rintro e w1 ⟨rfl, hb⟩; have HRX1 := Lib.hid ((hb.block _ (Array.getElem?_eq_some_iff.1 HRX.out).1).trans HRX.out); have V1 := HRZ.out.store HRX1.out rfl; have HB1 := Lib.hid (HB0.out.trans (hb.mono HB0.out.size)); clear hb)
  refine bodyPost_ret (v := .tuple #[.agg #[.int .i64 0, .int .i64 0, .int .i64 0, .int .i64 0, .slice none 0 0, .slice none 0 0, .slice none 0 0, .int .i64 0, .int .i64 0, .int .i64 0, .bool false], .int .i64 2]) ?_ rfl ⟨rfl, setRow_below HB1.out (by omega)⟩
  exact results_row1 (a := 4) (b := 5) (ty := 35) rfl _ _ (w.heap.size + 1) 35 #[.int .i64 0, .int .i64 0, .int .i64 0, .int .i64 0, .slice none 0 0, .slice none 0 0, .slice none 0 0, .int .i64 0, .int .i64 0, .int .i64 0, .bool false] (0, 0) _ rfl (setRow_at HRX1.out) Try.underlying35 rfl info35
end Go.Proofs.Ytddejcoagcaidaa
