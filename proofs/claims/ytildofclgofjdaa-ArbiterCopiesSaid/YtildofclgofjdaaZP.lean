/- The law's do: a call of Pick. Conditions stand in each theorem. The law's do as a whole; the state between two calls. Conditions stand in each theorem. -/
import Derived.Test.YtildofclgofjdaaZO
import Derived.Test.YtildofclgofjdaaZM
import Derived.BigQuiet
import Derived.Deep.MidRow
namespace Go.Proofs.Ytildofclgofjdaa
section
open Go.RowKit Go.Shelf
set_option linter.unusedVariables false
set_option maxHeartbeats 4000000
set_option maxRecDepth 100000
attribute [local go_sem ↓ 100000] loadX_eq storeX_eq builtin_appX
/-- Both picks, in one. -/
structure PB (b m : Nat) (s : St) (v : Value) (l : List (Int × Int)) (s' : St) (q k f : Int) : Prop where
  ok : Ok s'
  sL : s'.L = s.L
  a : ∀ W vo, Arb W b m s → Lds W vo l → Calls Try.prog 17 #[.pointer (some ⟨b, 0, none⟩), vo] W fun e w' => e = .returned (.tuple #[.int .i64 q, .int .i64 k, .int .i64 f]) ∧ Arb w' b m s' ∧ Chg (· = b) W w'
  r : ∀ W vl, Lds W v s.L → Lds W vl l → Calls Try.prog 29 #[.agg (RC s v), vl] W fun e w' => e = .returned (.tuple #[.agg (RC s' v), .int .i64 q, .int .i64 k, .int .i64 f]) ∧ Below W.heap.size W w'
theorem pick_both (b m : Nat) (s : St) (v : Value) (l : List (Int × Int)) (hO : Ok s) (hR : Rng l) (hm : l.length ≤ 30) : ∃ s' q k f, PB b m s v l s' q k f := by
  cases ha : acc s.L [] l with
  | false =>
    have hE : s.pkE l = 2 := by unfold St.pkE; rw [if_pos ha]
    refine ⟨s, 0, 0, 2, hO, rfl, fun W vo hA hv => ?_, fun W vl hl hv => (rpick_bad s v vl l W hl hO.srt hv hR hm ha)⟩
    have := Pick_bad b m s W hA vo l hv hR (by omega) (by rw [hE]; decide)
    rw [hE] at this
    exact this.mono fun e w' ⟨h1, h2⟩ => ⟨h1, hA.below h2, Chg.of_below h2⟩
  | true =>
    cases hb : anyB l with
    | false =>
      have hE : s.pkE l = 9 := by unfold St.pkE; rw [if_neg (by simp [ha]), if_pos hb]
      refine ⟨s, 0, 0, 9, hO, rfl, fun W vo hA hv => ?_, fun W vl hl hv => (rpick_none s v vl l W hl hO.srt hv hR hm ha hb)⟩
      have := Pick_bad b m s W hA vo l hv hR (by omega) (by rw [hE]; decide)
      rw [hE] at this
      exact this.mono fun e w' ⟨h1, h2⟩ => ⟨h1, hA.below h2, Chg.of_below h2⟩
    | true =>
      exact ⟨s.pkS l, (s.pkP l).1, s.pkM l, 0, pkS_ok hO ha hb, pkS_L s l, fun W vo hA hv => (Pick_ok b m s W hA hO vo l hv hR (by omega) ha hb), fun W vl hl hv => (rpick_some s v vl l W hl hO hv hR hm ha hb)⟩
theorem Lds.off2 {w : World} {v : Value} {L : List (Int × Int)} (hl : Lds w v L) {S : Nat → Prop} (hS : ∀ k, S k → w.heap.size ≤ k) : Off S v L := by
  intro h0 i hi hs
  obtain ⟨A, c, rfl, _, hr⟩ := hl
  obtain ⟨g, o, rfl, hg, _⟩ := hr h0
  simp only [Value.ownBlock, Option.some.injEq] at hi
  have := hS i hs
  omega
theorem do_pick (b m : Nat) (s : St) (A : Option Addr) (n c : Nat) (x : KC) (w : World) (h : Arb w b m s) (hO : Ok s) (hl : Lds w (.slice A n c) s.L) (hoff : Off (· = b) (.slice A n c) s.L) (hx : KC.ok w x) (hxo : Off (· = b) x.lv x.l) (hm : x.l.length ≤ 30) (h0 : x.kd ≠ 0) (h1 : x.kd ≠ 1) (h2 : x.kd ≠ 2) :
    Calls Try.prog 15 #[.pointer (some ⟨b, 0, none⟩), .agg (RC s (.slice A n c)), .agg x.cells] w (DoPost w b m s (.slice A n c)) := by
  have HO := Lib.hid hO
  have hlen := hO.srt.len
  have HD0 := Lib.hid (DD.start (w := w) (s := s) (v := .slice A n c) (x := x))
  have hE0 := dd_below w (.cells (RC s (.slice A n c)) 35) (.cells x.cells 42) (.cells zero35 35)
  have hbl := h.lt
  have hml := h.map.lt
  obtain ⟨E, hE⟩ : ∃ E, E = ((w.alloc (.cells (RC s (.slice A n c)) 35)).alloc (.cells x.cells 42)).alloc (.cells zero35 35) := ⟨_, rfl⟩
  rw [← hE] at HD0 hE0
  have HBE := Lib.hid hE0
  have HAE := Lib.hid (h.below hE0)
  have HLE := Lib.hid (hl.below hE0)
  have HL := Lib.hid hl
  have k0 : E.cell? ⟨w.heap.size + 1, 0, none⟩ = some (.int .i64 x.kd) := HD0.out.at 0 _ rfl
  have k8 : E.cell? ⟨w.heap.size + 1, 8, none⟩ = some x.lv := HD0.out.at 8 _ rfl
  have e0 : (x.kd == 0) = false := by simpa using h0
  have e1 : (x.kd == 1) = false := by simpa using h1
  have e2 : (x.kd == 2) = false := by simpa using h2
  obtain ⟨Ax, cx, hxv, _⟩ := hx.1
  have HXV := Lib.hid hxv
  have HLX := Lib.hid (hx.1.below hE0)
  obtain ⟨s', q, k, f, hPB⟩ := pick_both b m s (.slice A n c) x.l hO hx.2.1 hm
  have HPB := Lib.hid hPB
  obtain ⟨Ao, co, w3, hap, hown, hb3⟩ := app_loads E x.lv x.l HLX.out hm
  rw [hxv] at k8 hap
  have HOWN := Lib.hid hown
  have HB3 := Lib.hid hb3
  have HD3 := Lib.hid (HD0.out.later hb3)
  have HA3 := Lib.hid (HAE.out.below hb3)
  have HLO := Lib.hid (Lds.of_own hown)
  have HLX3 := Lib.hid (HLX.out.below hb3)
  have HLV3 := Lib.hid (HLE.out.below hb3)
  have H17 := Lib.hid (hPB.a w3 _ HA3.out HLO.out)
  have HOO : Hid (Off (· = b) (.slice Ao x.l.length co) x.l) := Lib.hid (Off.of_own hown (by have := HBE.out.size; omega))
  have HOFF := Lib.hid hoff
  have HXO := Lib.hid hxo
  have H29 := Lib.hid (fun (W : World) (g1 : Lds W (.slice A n c) s.L) (g2 : Lds W (.slice Ax x.l.length cx) x.l) => hPB.r W (.slice Ax x.l.length cx) g1 g2)
  rw [hxv] at HXO HLX3
  have hmi : (x.l.length : Int) ≤ 30 := by omega
  have hxv8 : Hid (∀ W, DD w s (.slice A n c) x W → W.cell? ⟨w.heap.size + 1, 8, none⟩ = some (.slice Ax x.l.length cx)) := Lib.hid (fun W hW => by rw [← HXV.out]; exact hW.at 8 _ rfl)
  clear h hO hl hE0 hoff hx hxo hPB hown hb3 h0 h1 h2 hxv
  unfold KC.cells zero35 at hE
  unfold RC at hE ⊢
  unfold KC.cells
  go_enter Try.func15, Try.ntmps15
  go_upto_region 1 with fail
  rw [← hE]
  clear hE
  go_upto_region 17 with (first
    | ((go_at_call 17; with_reducible refine H17.out.mono ?_); rintro e w4 ⟨rfl, hA4, hc4⟩; have HA4 := Lib.hid hA4; have HC4 := Lib.hid hc4; have HD4 := Lib.hid (HD3.out.chg hc4 (fun k hk => by omega)); have hld := HD4.out.load; have k84 := hxv8.out w4 HD4.out; have HLV4 := Lib.hid (HLV3.out.chg hc4 HOFF.out); have HLX4 := Lib.hid (HLX3.out.chg hc4 HXO.out); have HLO4 := Lib.hid (HLO.out.chg hc4 HOO.out); clear hA4 hc4)
    | ((go_at_call 29; with_reducible refine (H29.out _ HLV4.out HLX4.out).mono ?_); rintro e w5 ⟨rfl, hb5⟩; have HB5 := Lib.hid hb5; obtain ⟨v1, v2, v3⟩ := var_put w5 s' A n c; have V1 := v1; unfold zero35 at V1; have V2 := Lib.hid v2; have V3 := Lib.hid v3; clear hb5 v1 v2 v3))
  have hz3 : w.heap.size + 3 ≤ w3.heap.size := Nat.le_trans HD0.out.size HB3.out.size
  have HZ4 := Lib.hid (Nat.le_trans hz3 HC4.out.size)
  obtain ⟨W6, hW6⟩ : ∃ W6, W6 = (w5.alloc (.cells #[.bool false, .int .i64 0, .int .i64 0, .int .i64 0, .int .i64 0, .slice none 0 0, .int .i64 0, .int .i64 0, .int .i64 0, .int .i64 0, .int .i64 0, .int .i64 0, .int .i64 0, .int .i64 0] 35)).setRow w5.heap.size (RC s' (.slice A n c)) := ⟨_, rfl⟩
  have hb6 : Below w5.heap.size w5 W6 := by rw [hW6]; exact V3.out
  have hr6 : W6.heap[w5.heap.size]? = some (.cells (RC s' (.slice A n c)) 35 (0, 0)) := by rw [hW6]; exact V2.out
  have hB46 : Below w4.heap.size w4 W6 := HB5.out.trans (hb6.mono HB5.out.size)
  have HB46 := Lib.hid hB46
  have HR6 := Lib.hid hr6
  have HD6 := Lib.hid (HD4.out.later hB46)
  have HLO6 := Lib.hid (HLO4.out.below hB46)
  have HLX6 := Lib.hid (HLX4.out.below hB46)
  have HSL := Lib.hid HPB.out.sL
  have HOK' := Lib.hid HPB.out.ok
  rw [← hW6]
  clear hW6 V1 V2 V3 hld k84 k0 k8 hap hb6 hr6 hB46 H17 H29 HPB
  obtain ⟨Y, hY⟩ : ∃ Y, Y = w5.heap.size := ⟨_, rfl⟩
  rw [← hY] at HR6 ⊢
  clear hY
  go_loopw [21] (fun i wx => ∃ (j : Nat), j ≤ x.l.length ∧ i = .int .i64 j ∧ Hid (Below W6.heap.size W6 wx)) (fun i _ => x.l.length - (RowKit.intOf i).toNat)
  case atStart => exact ⟨0, Nat.zero_le _, rfl, Below.refl _ _⟩
  case round =>
    obtain ⟨j, hj, rfl, HBW⟩ := hrel
    have HDW := Lib.hid (HD6.out.later HBW.out)
    by_cases hlt : j < x.l.length
    · have k8 := hxv8.out wr HDW.out
      obtain ⟨g1, o1, c1, hv1, y1, y2⟩ := (HLO6.out.below HBW.out).at_ hlt
      obtain ⟨g2, o2, c2, hv2, z1, z2⟩ := (HLX6.out.below HBW.out).at_ hlt
      injection hv1 with hv1 _ hc1
      injection hv2 with hv2 _ hc2
      subst hv1
      subst hv2
      subst hc1
      subst hc2
      have hji : (j : Int) < (x.l.length : Int) := by omega
      have hj0 : (0 : Int) ≤ (j : Int) := by omega
      generalize x.l[j].1 = r1 at *
      generalize x.l[j].2 = r2 at *
      go_wp2
      go_quiet (fail)
      go_wp2
      go_roundw
      case rel => exact ⟨j + 1, by omega, by go_num, Lib.hid (HBW.out.trans ⟨rfl, rfl, rfl, Nat.le_refl _, fun _ _ => rfl⟩)⟩
      case measure => simp [RowKit.intOf]; omega
    · obtain rfl : j = x.l.length := by omega
      have hldr : (loadX ⟨Y, 0, none⟩).run Try.prog wr = .ok (.agg (RC s' (.slice A n c))) wr := run_loadVar_row _ Y 35 35 _ (0, 0) _ ((HBW.out.block Y (Array.getElem?_eq_some_iff.1 HR6.out).1).trans HR6.out) Try.underlying35 rfl info35
      obtain ⟨p1, p2, p3⟩ := HDW.out.put s' A n c
      have P2 := Lib.hid p2
      have P3 := Lib.hid p3
      clear p2 p3
      go_wp2
      (try simp only [Exit.inBlock, Exit.then])
      have hC46 : Chg (fun k => k = b ∨ k = m) w wr := ((((Chg.of_below HBE.out).then_below HB3.out).trans HC4.out (fun i hi _ => .inl hi)).then_below HB46.out).then_below HBW.out
      have hoffv : Off (fun k => k = w.heap.size + 2) (.slice A n c) s.L := HL.out.off2 (fun k hk => by omega)
      refine bodyPost_ret (v := .tuple #[.agg (RC s' (.slice A n c)), .bool true]) ?_ rfl ⟨s', A, n, c, rfl, ?_, HOK'.out, ?_, ?_, .inl ⟨rfl, HSL.out⟩⟩
      · exact results_row1 (a := 6) (b := 7) (ty := 35) rfl _ _ (w.heap.size + 2) 35 (RC s' (.slice A n c)) (0, 0) _ rfl P2.out Try.underlying35 rfl info35
      · exact ((HA4.out.below HB46.out).below HBW.out).chg P3.out (by show ¬ b = w.heap.size + 2; omega) (by show ¬ m = w.heap.size + 2; omega)
      · rw [HSL.out]
        exact ((HLV4.out.below HB46.out).below HBW.out).chg P3.out hoffv
      · exact hC46.trans P3.out (fun i hi hlt => by omega)
end
section
open Go.RowKit Go.Shelf
set_option linter.unusedVariables false
set_option maxHeartbeats 4000000
set_option maxRecDepth 100000
theorem do_any (b m : Nat) (s : St) (A : Option Addr) (n c : Nat) (x : KC) (w : World) (h : Arb w b m s) (hO : Ok s) (hl : Lds w (.slice A n c) s.L) (hoff : Off (· = b) (.slice A n c) s.L) (hx : KC.ok w x) (hxo : Off (· = b) x.lv x.l) (hm : x.l.length ≤ 30) :
    Calls Try.prog 15 #[.pointer (some ⟨b, 0, none⟩), .agg (RC s (.slice A n c)), .agg x.cells] w (DoPost w b m s (.slice A n c)) := by
  by_cases h0 : x.kd = 0
  · exact do_add b m s A n c x w h hO hl h0
  by_cases h1 : x.kd = 1
  · exact do_rem b m s A n c x w h hO hl h1
  by_cases h2 : x.kd = 2
  · cases hv : valB x.wt x.bu x.hi x.me x.lo with
    | false => exact do_conf_bad b m s A n c x w h hO hl h2 hv
    | true => exact do_conf_ok b m s A n c x w h hO hl hoff h2 hv
  exact do_pick b m s A n c x w h hO hl hoff hx hxo hm h0 h1 h2
/-- Loads and stores of a call, as operations not laid open by the walk. -/
def loadA (p : Addr) : Sem Value := loadVar 42 p
theorem loadA_eq (p : Addr) : loadVar 42 p = loadA p := rfl
theorem info42 : (Try.prog.info? 42).map (·.size) = some 9 := by kernel_rfl
theorem ActCells.load {W : World} {g o : Nat} {x : KC} (h : ActCells W g o x) : (loadA ⟨g, o, none⟩).run Try.prog W = .ok (.agg x.cells) W := by
  obtain ⟨h0, h1, h2, h3, h4, h5, h6, h7, h8⟩ := h
  refine run_loadVar_mid (P := Try.prog) W g o 42 [.int .i64 x.kd, .int .i64 x.q, .int .i64 x.c, .bool x.wt, .int .i64 x.bu, .int .i64 x.hi, .int .i64 x.me, .int .i64 x.lo, x.lv] _ ?_ Try.underlying42 rfl info42
  intro j v hj
  match j, hj with
  | 0, hj => cases hj; exact h0
  | 1, hj => cases hj; exact h1
  | 2, hj => cases hj; exact h2
  | 3, hj => cases hj; exact h3
  | 4, hj => cases hj; exact h4
  | 5, hj => cases hj; exact h5
  | 6, hj => cases hj; exact h6
  | 7, hj => cases hj; exact h7
  | 8, hj => cases hj; exact h8
/-- Between two calls: an arbiter and the reference's value in block X; S: blocks that the value's list avoids. -/
structure RJ (S : Nat → Prop) (b m X : Nat) (s : St) (v : Value) (W : World) : Prop where
  arb : Arb W b m s
  ok : Ok s
  lds : Lds W v s.L
  off : Off S v s.L
  row : W.heap[X]? = some (.cells (RC s v) 35 (0, 0))
section
variable {S T : Nat → Prop} {b m X : Nat} {s s' : St} {v : Value} {W W' : World}
theorem RJ.lt (h : RJ S b m X s v W) : X < W.heap.size := (Array.getElem?_eq_some_iff.1 h.row).1
theorem RJ.neb (h : RJ S b m X s v W) : X ≠ b := by
  rintro rfl
  have := h.row.symm.trans h.arb.blk
  injection this with this
  injection this with _ h2 _
  exact absurd h2 (by decide)
theorem RJ.nem (h : RJ S b m X s v W) : X ≠ m := by
  rintro rfl
  obtain ⟨es, c, hb⟩ := h.arb.map.isMap
  rw [h.row] at hb
  cases hb
theorem RJ.chg (h : RJ S b m X s v W) (hc : Chg T W W') (hT : ∀ k, T k → k < W.heap.size → S k) (h1 : ¬ T b) (h2 : ¬ T m) (h3 : ¬ T X) : RJ S b m X s v W' := by
  refine ⟨h.arb.chg hc h1 h2, h.ok, ?_, h.off, (hc.block X h.lt h3).trans h.row⟩
  refine h.lds.chg hc fun h0 i hi ht => ?_
  have hlt : i < W.heap.size := by
    obtain ⟨A, c, rfl, _, hr⟩ := h.lds
    obtain ⟨g, o, rfl, hg, _⟩ := hr h0
    simp only [Value.ownBlock, Option.some.injEq] at hi
    omega
  exact h.off h0 i hi (hT i ht hlt)
theorem RJ.later (h : RJ S b m X s v W) (hb : Below W.heap.size W W') : RJ S b m X s v W' := h.chg (T := fun _ => False) (Chg.of_below hb) (fun _ hf _ => hf.elim) (fun hf => hf) (fun hf => hf) (fun hf => hf)
theorem RJ.offs (h : RJ S b m X s v W) (hS : ∀ k, T k → S k) : Off T v s.L := fun h0 i hi ht => h.off h0 i hi (hS i ht)
/-- One call, and its value stored. -/
theorem RJ.step {W3 : World} {A A' : Option Addr} {n c n' c' : Nat} (h : RJ S b m X s (.slice A n c) W) (hSX : S X) (hSl : ∀ k, S k → k < W.heap.size) (ha : Arb W3 b m s') (hO : Ok s') (hl : Lds W3 (.slice A' n' c') s'.L) (hc : Chg (fun k => k = b ∨ k = m) W W3) (hk : Kp W (.slice A n c) s.L (.slice A' n' c') s'.L) :
    (storeVar 35 ⟨X, 0, none⟩ (.agg (RC s' (.slice A' n' c')))).run Try.prog W3 = .ok () (W3.setRow X (RC s' (.slice A' n' c'))) ∧ RJ S b m X s' (.slice A' n' c') (W3.setRow X (RC s' (.slice A' n' c'))) ∧ Chg (fun k => k = b ∨ k = m ∨ k = X) W (W3.setRow X (RC s' (.slice A' n' c'))) := by
  have hrow : W3.heap[X]? = some (.cells (RC s (.slice A n c)) 35 (0, 0)) := (hc.block X h.lt (by have := h.neb; have := h.nem; omega)).trans h.row
  have hst := run_storeVar_row W3 X 35 35 _ (RC s' (.slice A' n' c')) hrow info35 rfl (RC_one _ _ _ _)
  have hoff : Off S (.slice A' n' c') s'.L := by
    rcases hk with ⟨e1, e2⟩ | hk
    · rw [e1, e2]; exact h.off
    · intro h0 i hi hs
      have := hk i hi
      have := hSl i hs
      omega
  have hC : Chg (fun k => k = X) W3 (W3.setRow X (RC s' (.slice A' n' c'))) := ⟨rfl, rfl, rfl, by simp, fun j hj hn => setRow_other _ _ j _ hn⟩
  refine ⟨hst, ⟨ha.chg hC (fun e => h.neb e.symm) (fun e => h.nem e.symm), hO, hl.chg hC (fun h0 i hi e => hoff h0 i hi (by rw [e]; exact hSX)), hoff, setRow_heap W3 X _ _ 35 (0, 0) hrow⟩, (hc.mono (fun i hi => ?_)).trans hC (fun i hi _ => .inr (.inr hi))⟩
  rcases hi with hi | hi
  · exact .inl hi
  · exact .inr (.inl hi)
end
end
end Go.Proofs.Ytildofclgofjdaa
