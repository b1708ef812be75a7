/- The reference: Valid. The law's do: a call of Configure; a copy of loads. Conditions stand in each theorem. -/
import Derived.Test.YtildofclgofjdaaRA
import Derived.Test.YtildofclgofjdaaZN
import Derived.BigQuiet
namespace Go.Proofs.Ytildofclgofjdaa
section
open Go.RowKit
set_option linter.unusedVariables false
set_option maxRecDepth 100000
theorem wgtB_eq (x : Int) : wgtB x = (decide (1 ≤ x) && decide (x ≤ 256)) := by
  unfold wgtB
  simp
set_option maxHeartbeats 4000000 in
theorem rvalid_any (wt : Bool) (bu hi me lo : Int) (w : World) : Calls Try.prog 11 #[.agg #[.bool wt, .int .i64 bu, .int .i64 hi, .int .i64 me, .int .i64 lo]] w fun e w' => e = .returned (.bool (valB wt bu hi me lo)) ∧ Below w.heap.size w w' := by
  go_enter Try.func11, Try.ntmps11
  go_wp2
  all_goals go_ret
  all_goals refine ⟨?_, below_alloc _ _⟩
  all_goals simp_all [valB, burB, wgtB_eq]
  all_goals (try omega)
end
section
open Go.RowKit Go.Shelf
set_option linter.unusedVariables false
set_option maxHeartbeats 4000000
set_option maxRecDepth 100000
attribute [local go_sem ↓ 100000] loadX_eq storeX_eq builtin_appX
theorem info48x : (Try.prog.info? 48).map (fun i => (i.zero, i.size, i.bytes)) = some (some (.agg #[.int .i64 0, .int .i64 0]), 2, 16) := by kernel_rfl
/-- A copy of loads. -/
theorem app_loads (w : World) (xv : Value) (m : List (Int × Int)) (hx : Lds w xv m) (hsz : m.length ≤ 30) :
    ∃ A c w', (appX #[40, 40] 40 #[.slice none 0 0, xv]).run Try.prog w = .ok (.value (.slice A m.length c)) w' ∧ w'.ownsRow w.heap.size 48 2 (.slice A m.length c) m.length (lv m) ∧ Below w.heap.size w w' := by
  obtain ⟨i0, hi0, hz0, hz1, hz2⟩ := info_parts info48x
  have hx2 := hx
  obtain ⟨A, c, rfl, _, hr⟩ := hx
  rcases A with _ | a
  · have h0 : m.length = 0 := by
      rcases Nat.eq_zero_or_pos m.length with h | h
      · exact h
      · obtain ⟨_, _, h, _⟩ := hr h; cases h
    have hm : m = [] := List.eq_nil_of_length_eq_zero h0
    subst hm
    refine ⟨none, 0, w, appX_run ?_, World.ownsRow_nil _ _ _ _, Below.refl _ _⟩
    simp [Builtin.append_, run_underlying Try.underlying40, sizeOf, typeInfo, hi0, Builtin.lenOf, Builtin.firstCells]
  · have hnews : ∀ j u, (lv m)[j]? = some u → w.cell? (a.add j) = some u := by
      intro j u hu
      have hj : j < m.length * 2 := by
        rcases Nat.lt_or_ge j (m.length * 2) with h | h
        · exact h
        · rw [List.getElem?_eq_none (by rw [lv_length]; exact h)] at hu; cases hu
      have hq : j / 2 < m.length := by omega
      obtain ⟨g, o, c', hv, h1, h2⟩ := hx2.at_ hq
      cases hv
      obtain ⟨b1, b2⟩ := lv_at m (j / 2) hq
      rw [add_plain]
      have hm : j % 2 = 0 ∨ j % 2 = 1 := by omega
      have hj2 : j = j / 2 * 2 + j % 2 := by omega
      generalize j / 2 = t at *
      rcases hm with h5 | h5 <;> (rw [h5] at hj2; subst hj2)
      · rw [Nat.add_zero] at hu ⊢; rw [b1] at hu; exact h1.trans hu
      · rw [b2] at hu; rw [← Nat.add_assoc]; exact h2.trans hu
    obtain ⟨v', w', hrun, h2, h3, _⟩ := run_append_own (P := Try.prog) w w.heap.size 40 40 48 i0 _ 2 16 Try.underlying40 hi0 hz0 hz1 hz2 rfl (by decide) (.slice none 0 0) 0 [] (World.ownsRow_nil _ _ _ _) a m.length c (lv m) (by rw [lv_length]) hnews (lv_one m) (by unfold maxLen; omega) (by omega) (Nat.le_refl _)
    rw [Nat.zero_add] at h2
    rw [List.nil_append] at h2
    obtain ⟨B, k, rfl⟩ := own_form h2
    exact ⟨B, k, w', appX_run hrun, h2, (Below.refl _ w).grown h3 (Nat.le_refl _) (fun b hb => by simp [Value.ownBlock] at hb)⟩
theorem conf_ok {s : St} (h : Ok s) {wt : Bool} {bu hi me lo : Int} (hv : valB wt bu hi me lo = true) : Ok (s.conf wt bu hi me lo) := by
  have hn := new_ok hv
  exact ⟨h.srt, hn.bu, h.last, hn.wgt, hn.cr⟩
theorem do_conf_bad (b m : Nat) (s : St) (A : Option Addr) (n c : Nat) (x : KC) (w : World) (h : Arb w b m s) (hO : Ok s) (hl : Lds w (.slice A n c) s.L) (hk : x.kd = 2) (hv : valB x.wt x.bu x.hi x.me x.lo = false) :
    Calls Try.prog 15 #[.pointer (some ⟨b, 0, none⟩), .agg (RC s (.slice A n c)), .agg x.cells] w (DoPost w b m s (.slice A n c)) := by
  have HO := Lib.hid hO
  have hlen := hO.srt.len
  have HD0 := Lib.hid (DD.start (w := w) (s := s) (v := .slice A n c) (x := x))
  have hE0 := dd_below w (.cells (RC s (.slice A n c)) 35) (.cells x.cells 42) (.cells zero35 35)
  have hbl := h.lt
  have hml := h.map.lt
  obtain ⟨E, hE⟩ : ∃ E, E = ((w.alloc (.cells (RC s (.slice A n c)) 35)).alloc (.cells x.cells 42)).alloc (.cells zero35 35) := ⟨_, rfl⟩
  rw [← hE] at HD0 hE0
  have HBE := Lib.hid hE0
  have HAE := Lib.hid (h.below hE0)
  have HLE := Lib.hid (hl.below hE0)
  have HL := Lib.hid hl
  have k0 : E.cell? ⟨w.heap.size + 1, 0, none⟩ = some (.int .i64 2) := HD0.out.at 0 _ (by rw [← hk]; rfl)
  have KC5 : Hid (∀ W, DD w s (.slice A n c) x W → W.cell? ⟨w.heap.size + 1, 3, none⟩ = some (.bool x.wt) ∧ W.cell? ⟨w.heap.size + 1, 4, none⟩ = some (.int .i64 x.bu) ∧ W.cell? ⟨w.heap.size + 1, 5, none⟩ = some (.int .i64 x.hi) ∧ W.cell? ⟨w.heap.size + 1, 6, none⟩ = some (.int .i64 x.me) ∧ W.cell? ⟨w.heap.size + 1, 7, none⟩ = some (.int .i64 x.lo)) := Lib.hid (fun W hW => ⟨hW.at 3 _ rfl, hW.at 4 _ rfl, hW.at 5 _ rfl, hW.at 6 _ rfl, hW.at 7 _ rfl⟩)
  obtain ⟨k3, k4, k5, k6, k7⟩ := KC5.out E HD0.out
  have H24 := Lib.hid (Configure_bad b m s E HAE.out x.wt x.bu x.hi x.me x.lo hv)
  have H11 := Lib.hid (fun W => rvalid_any x.wt x.bu x.hi x.me x.lo W)
  rw [hv] at H11
  clear hk h hO hl hE0 hv
  unfold KC.cells zero35 at hE
  unfold RC at hE ⊢
  unfold KC.cells
  go_enter Try.func15, Try.ntmps15
  go_upto_region 1 with fail
  rw [← hE]
  clear hE
  go_wp2_with (first
    | ((go_at_call 24; with_reducible refine H24.out.mono ?_); rintro e w3 ⟨rfl, hb3⟩; have HB3 := Lib.hid hb3; have HD3 := Lib.hid (HD0.out.later hb3); obtain ⟨j3, j4, j5, j6, j7⟩ := KC5.out w3 HD3.out; clear hb3)
    | ((go_at_call 11; with_reducible refine (H11.out _).mono ?_); rintro e w4 ⟨rfl, hb4⟩; have HB4 := Lib.hid hb4; have HD4 := Lib.hid (HD3.out.later hb4); have hld := HD4.out.load; obtain ⟨p1, p2, p3⟩ := HD4.out.put s A n c; have P2 := Lib.hid p2; have P3 := Lib.hid p3; clear hb4 p2 p3))
  (try simp only [Exit.inBlock, Exit.then])
  have hBW : Below w.heap.size w (w4.setRow (w.heap.size + 2) (RC s (.slice A n c))) := (HBE.out.trans (HB3.out.mono HBE.out.size)).trans ((HB4.out.mono (Nat.le_trans HBE.out.size HB3.out.size)).trans (P3.out.below (Nat.le_trans (Nat.le_trans HBE.out.size HB3.out.size) HB4.out.size) (fun i hi => by omega)))
  refine bodyPost_ret (v := .tuple #[.agg (RC s (.slice A n c)), .bool true]) ?_ rfl ⟨s, A, n, c, rfl, ?_, HO.out, HL.out.below hBW, Chg.of_below hBW, .inl ⟨rfl, rfl⟩⟩
  · exact results_row1 (a := 6) (b := 7) (ty := 35) rfl _ _ (w.heap.size + 2) 35 (RC s (.slice A n c)) (0, 0) _ rfl P2.out Try.underlying35 rfl info35
  · exact ((HAE.out.below HB3.out).below HB4.out).chg P3.out (by show ¬ b = w.heap.size + 2; omega) (by show ¬ m = w.heap.size + 2; omega)
theorem do_conf_ok (b m : Nat) (s : St) (A : Option Addr) (n c : Nat) (x : KC) (w : World) (h : Arb w b m s) (hO : Ok s) (hl : Lds w (.slice A n c) s.L) (hoff : Off (· = b) (.slice A n c) s.L) (hk : x.kd = 2) (hv : valB x.wt x.bu x.hi x.me x.lo = true) :
    Calls Try.prog 15 #[.pointer (some ⟨b, 0, none⟩), .agg (RC s (.slice A n c)), .agg x.cells] w (DoPost w b m s (.slice A n c)) := by
  have HO := Lib.hid hO
  have hlen := hO.srt.len
  have HD0 := Lib.hid (DD.start (w := w) (s := s) (v := .slice A n c) (x := x))
  have hE0 := dd_below w (.cells (RC s (.slice A n c)) 35) (.cells x.cells 42) (.cells zero35 35)
  have hbl := h.lt
  have hml := h.map.lt
  obtain ⟨E, hE⟩ : ∃ E, E = ((w.alloc (.cells (RC s (.slice A n c)) 35)).alloc (.cells x.cells 42)).alloc (.cells zero35 35) := ⟨_, rfl⟩
  rw [← hE] at HD0 hE0
  have HBE := Lib.hid hE0
  have HAE := Lib.hid (h.below hE0)
  have HLE := Lib.hid (hl.below hE0)
  have HL := Lib.hid hl
  have k0 : E.cell? ⟨w.heap.size + 1, 0, none⟩ = some (.int .i64 2) := HD0.out.at 0 _ (by rw [← hk]; rfl)
  have KC5 : Hid (∀ W, DD w s (.slice A n c) x W → W.cell? ⟨w.heap.size + 1, 3, none⟩ = some (.bool x.wt) ∧ W.cell? ⟨w.heap.size + 1, 4, none⟩ = some (.int .i64 x.bu) ∧ W.cell? ⟨w.heap.size + 1, 5, none⟩ = some (.int .i64 x.hi) ∧ W.cell? ⟨w.heap.size + 1, 6, none⟩ = some (.int .i64 x.me) ∧ W.cell? ⟨w.heap.size + 1, 7, none⟩ = some (.int .i64 x.lo)) := Lib.hid (fun W hW => ⟨hW.at 3 _ rfl, hW.at 4 _ rfl, hW.at 5 _ rfl, hW.at 6 _ rfl, hW.at 7 _ rfl⟩)
  obtain ⟨k3, k4, k5, k6, k7⟩ := KC5.out E HD0.out
  have H24 := Lib.hid (Configure_ok b m s E HAE.out x.wt x.bu x.hi x.me x.lo hv)
  have H11 := Lib.hid (fun W => rvalid_any x.wt x.bu x.hi x.me x.lo W)
  rw [hv] at H11
  have H27 := Lib.hid (fun W => rconf_any s A n c x.wt x.bu x.hi x.me x.lo W)
  have HOK2 := Lib.hid (conf_ok hO hv)
  have HOFF := Lib.hid hoff
  clear hk h hO hl hE0 hv hoff
  unfold KC.cells zero35 at hE
  unfold RC at hE ⊢
  unfold KC.cells
  go_enter Try.func15, Try.ntmps15
  go_upto_region 1 with fail
  rw [← hE]
  clear hE
  go_wp2_with (first
    | ((go_at_call 24; with_reducible refine H24.out.mono ?_); rintro e w3 ⟨rfl, hA3, hc3⟩; have HA3 := Lib.hid hA3; have HC3 := Lib.hid hc3; have HD3 := Lib.hid (HD0.out.chg hc3 (fun k hk => by omega)); obtain ⟨j3, j4, j5, j6, j7⟩ := KC5.out w3 HD3.out; clear hA3 hc3)
    | ((go_at_call 11; with_reducible refine (H11.out _).mono ?_); rintro e w4 ⟨rfl, hb4⟩; have HB4 := Lib.hid hb4; have HD4 := Lib.hid (HD3.out.later hb4); have hld := HD4.out.load; obtain ⟨i3, i4, i5, i6, i7⟩ := KC5.out w4 HD4.out; clear hb4)
    | ((go_at_call 27; with_reducible refine (H27.out _).mono ?_); rintro e w5 ⟨he5, hb5⟩; subst he5; have HB5 := Lib.hid hb5; have HD5 := Lib.hid (HD4.out.later hb5); obtain ⟨p1, p2, p3⟩ := HD5.out.put (s.conf x.wt x.bu x.hi x.me x.lo) A n c; have P2 := Lib.hid p2; have P3 := Lib.hid p3; clear hb5 p2 p3))
  (try simp only [Exit.inBlock, Exit.then])
  have hz3 := Nat.le_trans HBE.out.size HC3.out.size
  have hz4 := Nat.le_trans hz3 HB4.out.size
  have hz5 := Nat.le_trans hz4 HB5.out.size
  have hC : Chg (fun k => k = b ∨ k = m) w (w5.setRow (w.heap.size + 2) (RC (s.conf x.wt x.bu x.hi x.me x.lo) (.slice A n c))) :=
    ((((Chg.of_below HBE.out).trans (HC3.out) (fun i hi _ => .inl hi)).then_below HB4.out).then_below HB5.out).trans P3.out (fun i hi hlt => by omega)
  have hC3 : Chg (fun k => k = b ∨ k = w.heap.size + 2) E (w5.setRow (w.heap.size + 2) (RC (s.conf x.wt x.bu x.hi x.me x.lo) (.slice A n c))) := (((HC3.out.mono (fun i hi => .inl hi)).then_below HB4.out).then_below HB5.out).trans P3.out (fun i hi _ => .inr hi)
  have hoff3 : Off (fun k => k = b ∨ k = m) (.slice A n c) s.L := fun h0 i hi hs => by
    rcases hs with hs | hs
    · exact HOFF.out h0 i hi hs
    · exact off_map HAE.out (HLE.out) h0 i hi hs
  refine bodyPost_ret (v := .tuple #[.agg (RC (s.conf x.wt x.bu x.hi x.me x.lo) (.slice A n c)), .bool true]) ?_ rfl ⟨_, A, n, c, rfl, ?_, HOK2.out, HL.out.chg hC hoff3, hC, .inl ⟨rfl, rfl⟩⟩
  · exact results_row1 (a := 6) (b := 7) (ty := 35) rfl _ _ (w.heap.size + 2) 35 (RC (s.conf x.wt x.bu x.hi x.me x.lo) (.slice A n c)) (0, 0) _ rfl P2.out Try.underlying35 rfl info35
  · have h5 := ((HA3.out.below HB4.out).below HB5.out)
    exact h5.chg P3.out (by show ¬ b = w.heap.size + 2; omega) (by show ¬ m = w.heap.size + 2; omega)
end
end Go.Proofs.Ytildofclgofjdaa
