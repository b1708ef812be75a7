/- The law's do: its frame; a call of Add, of Remove. Conditions stand in each theorem. -/
import Derived.Test.YtildofclgofjdaaZF
import Derived.Test.YtildofclgofjdaaZA
namespace Go.Proofs.Ytildofclgofjdaa
open Go.RowKit Go.Shelf
set_option linter.unusedVariables false
set_option maxHeartbeats 4000000
set_option maxRecDepth 100000
attribute [local go_sem ↓ 100000] loadX_eq storeX_eq
/-- The cells of a call. -/
def KC.cells (x : KC) : Array Value := #[.int .i64 x.kd, .int .i64 x.q, .int .i64 x.c, .bool x.wt, .int .i64 x.bu, .int .i64 x.hi, .int .i64 x.me, .int .i64 x.lo, x.lv]
def zero35 : Array Value := #[.bool false, .int .i64 0, .int .i64 0, .int .i64 0, .int .i64 0, .slice none 0 0, .int .i64 0, .int .i64 0, .int .i64 0, .int .i64 0, .int .i64 0, .int .i64 0, .int .i64 0, .int .i64 0]
/-- Within do: the reference's value, the call, the result's block. -/
structure DD (w : World) (s : St) (v : Value) (x : KC) (W : World) : Prop where
  row : W.heap[w.heap.size]? = some (.cells (RC s v) 35 (0, 0))
  act : W.heap[w.heap.size + 1]? = some (.cells x.cells 42 (0, 0))
  res : W.heap[w.heap.size + 2]? = some (.cells zero35 35 (0, 0))
  size : w.heap.size + 3 ≤ W.heap.size
section
variable {w W W' : World} {s : St} {v : Value} {x : KC}
theorem DD.chg {S : Nat → Prop} (h : DD w s v x W) (hc : Chg S W W') (hS : ∀ k, S k → k < w.heap.size ∨ w.heap.size + 3 ≤ k) : DD w s v x W' := by
  have h0 := h.size
  have k : ∀ {i : Nat} {o : Obj}, w.heap.size ≤ i → i < w.heap.size + 3 → W.heap[i]? = some o → W'.heap[i]? = some o := fun h1 h2 ho => (hc.block _ (by omega) (fun hs => by have := hS _ hs; omega)).trans ho
  exact ⟨k (by omega) (by omega) h.row, k (by omega) (by omega) h.act, k (by omega) (by omega) h.res, Nat.le_trans h0 hc.size⟩
theorem DD.later (h : DD w s v x W) (hb : Below W.heap.size W W') : DD w s v x W' := h.chg (S := fun _ => False) (Chg.of_below hb) (fun _ hf => hf.elim)
theorem DD.at (h : DD w s v x W) (i : Nat) (u : Value) (hu : x.cells[i]? = some u) : W.cell? ⟨w.heap.size + 1, i, none⟩ = some u := (cell_of_row W _ i _ 42 (0, 0) h.act).trans hu
theorem DD.load {A : Option Addr} {n c : Nat} (h : DD w s (.slice A n c) x W) : (loadX ⟨w.heap.size, 0, none⟩).run Try.prog W = .ok (.agg (RC s (.slice A n c))) W :=
  run_loadVar_row _ w.heap.size 35 35 _ (0, 0) _ h.row Try.underlying35 rfl info35
theorem DD.start : DD w s v x (((w.alloc (.cells (RC s v) 35)).alloc (.cells x.cells 42)).alloc (.cells zero35 35)) := by
  have h1 := heap_alloc_new w (.cells (RC s v) 35)
  have h2 := heap_alloc_new (w.alloc (.cells (RC s v) 35)) (.cells x.cells 42)
  have h3 := heap_alloc_new ((w.alloc (.cells (RC s v) 35)).alloc (.cells x.cells 42)) (.cells zero35 35)
  simp only [World.size_alloc] at h2 h3
  have b2 := below_alloc (w.alloc (.cells (RC s v) 35)) (.cells x.cells 42)
  have b3 := below_alloc ((w.alloc (.cells (RC s v) 35)).alloc (.cells x.cells 42)) (.cells zero35 35)
  exact ⟨(b3.block _ (by simp; omega)).trans ((b2.block _ (by simp)).trans h1), (b3.block _ (by simp)).trans h2, h3, by simp⟩
theorem dd_below (w : World) (a b c : Obj) : Below w.heap.size w (((w.alloc a).alloc b).alloc c) := ((below_alloc w _).alloc (by simp) _).alloc (by simp; omega) _
/-- The result is stored. -/
theorem DD.put (h : DD w s v x W) (r : St) (A : Option Addr) (n c : Nat) :
    (storeX ⟨w.heap.size + 2, 0, none⟩ (.agg (RC r (.slice A n c)))).run Try.prog W = .ok () (W.setRow (w.heap.size + 2) (RC r (.slice A n c))) ∧
    (W.setRow (w.heap.size + 2) (RC r (.slice A n c))).heap[w.heap.size + 2]? = some (.cells (RC r (.slice A n c)) 35 (0, 0)) ∧
    Chg (fun k => k = w.heap.size + 2) W (W.setRow (w.heap.size + 2) (RC r (.slice A n c))) :=
  ⟨run_storeVar_row W (w.heap.size + 2) 35 35 zero35 _ h.res info35 rfl (RC_one _ _ _ _), setRow_heap W (w.heap.size + 2) zero35 (RC r (.slice A n c)) 35 (0, 0) h.res, ⟨rfl, rfl, rfl, by simp, fun j hj hn => setRow_other _ _ j _ hn⟩⟩
/-- A variable of the reference's type is declared and stored. -/
theorem var_put (W : World) (r : St) (A : Option Addr) (n c : Nat) :
    (storeX ⟨W.heap.size, 0, none⟩ (.agg (RC r (.slice A n c)))).run Try.prog (W.alloc (.cells zero35 35)) = .ok () ((W.alloc (.cells zero35 35)).setRow W.heap.size (RC r (.slice A n c))) ∧
    ((W.alloc (.cells zero35 35)).setRow W.heap.size (RC r (.slice A n c))).heap[W.heap.size]? = some (.cells (RC r (.slice A n c)) 35 (0, 0)) ∧
    Below W.heap.size W ((W.alloc (.cells zero35 35)).setRow W.heap.size (RC r (.slice A n c))) := by
  have h := heap_alloc_new W (.cells zero35 35)
  exact ⟨run_storeVar_row _ W.heap.size 35 35 zero35 _ h info35 rfl (RC_one _ _ _ _), setRow_heap _ W.heap.size zero35 (RC r (.slice A n c)) 35 (0, 0) h, (below_alloc W _).trans ⟨rfl, rfl, rfl, by simp, fun j hj => setRow_other _ _ j _ (by omega)⟩⟩
end
/-- What do leaves. -/
def DoPost (w : World) (b m : Nat) (s : St) (v : Value) (e : Ending) (w' : World) : Prop :=
  ∃ s' A n c, e = .returned (.tuple #[.agg (RC s' (.slice A n c)), .bool true]) ∧ Arb w' b m s' ∧ Ok s' ∧ Lds w' (.slice A n c) s'.L ∧ Chg (fun k => k = b ∨ k = m) w w' ∧ Kp w v s.L (.slice A n c) s'.L
/-- A row is not a map's block. -/
theorem off_map {W : World} {b m : Nat} {s : St} {v : Value} {l : List (Int × Int)} (h : Arb W b m s) (hl : Lds W v l) : Off (· = m) v l := by
  rintro h0 i hi rfl
  obtain ⟨A, c, rfl, _, hr⟩ := hl
  obtain ⟨g, o, rfl, _, hcell⟩ := hr h0
  have hb2 : g = i := by simpa [Value.ownBlock] using hi
  subst hb2
  have c1 := (hcell 0 h0).1
  obtain ⟨es, cl, hm⟩ := h.map.isMap
  simp [World.cell?, hm] at c1
theorem Kp.mono {w E : World} {v v' : Value} {L L' : List (Int × Int)} (h : Kp E v L v' L') (hb : w.heap.size ≤ E.heap.size) : Kp w v L v' L' := h.elim .inl fun h => .inr fun i hi => Nat.le_trans hb (h i hi)
theorem Kp.off {w E : World} {v v' : Value} {L L' : List (Int × Int)} (h : Kp E v L v' L') (hl : Lds w v L) {S : Nat → Prop} (hS : ∀ k, S k → w.heap.size ≤ k ∧ k < E.heap.size) : Off S v' L' := by
  rcases h with ⟨rfl, rfl⟩ | h
  · intro h0 i hi hs
    obtain ⟨A, c, rfl, _, hr⟩ := hl
    obtain ⟨g, o, rfl, hg, _⟩ := hr h0
    simp only [Value.ownBlock, Option.some.injEq] at hi
    have := hS i hs
    omega
  · intro h0 i hi hs
    have := h i hi
    have := hS i hs
    omega
theorem do_add (b m : Nat) (s : St) (A : Option Addr) (n c : Nat) (x : KC) (w : World) (h : Arb w b m s) (hO : Ok s) (hl : Lds w (.slice A n c) s.L) (hk : x.kd = 0) :
    Calls Try.prog 15 #[.pointer (some ⟨b, 0, none⟩), .agg (RC s (.slice A n c)), .agg x.cells] w (DoPost w b m s (.slice A n c)) := by
  have HO := Lib.hid hO
  have hlen := hO.srt.len
  have HD0 := Lib.hid (DD.start (w := w) (s := s) (v := .slice A n c) (x := x))
  have hE0 := dd_below w (.cells (RC s (.slice A n c)) 35) (.cells x.cells 42) (.cells zero35 35)
  have hbl := h.lt
  have hml := h.map.lt
  obtain ⟨E, hE⟩ : ∃ E, E = ((w.alloc (.cells (RC s (.slice A n c)) 35)).alloc (.cells x.cells 42)).alloc (.cells zero35 35) := ⟨_, rfl⟩
  rw [← hE] at HD0 hE0
  have HBE := Lib.hid hE0
  have HAE := Lib.hid (h.below hE0)
  have HLE := Lib.hid (hl.below hE0)
  have HL := Lib.hid hl
  have HR := Lib.hid (radd_any2 s (.slice A n c) x.q x.c E HLE.out (by omega))
  have HA1 := Lib.hid (fun (W : World) (hW : Arb W b m s) => Add_any b m s W hW HO.out.srt x.q x.c)
  have HOK2 := Lib.hid (with_ok hO (hO.srt.add x.q x.c))
  have HAG := Lib.hid (fun (W : World) (hW : Arb W b m (s.with (addL s.L x.q x.c))) (A1 : Option Addr) (n1 c1 : Nat) (hl1 : Lds W (.slice A1 n1 c1) (addL s.L x.q x.c)) => agrees_any b m (s.with (addL s.L x.q x.c)) (s.with (addL s.L x.q x.c)) A1 n1 c1 W hW (hO.srt.add x.q x.c) hl1)
  have k0 : E.cell? ⟨w.heap.size + 1, 0, none⟩ = some (.int .i64 0) := HD0.out.at 0 _ (by rw [← hk]; rfl)
  have k1 : E.cell? ⟨w.heap.size + 1, 1, none⟩ = some (.int .i64 x.q) := HD0.out.at 1 _ rfl
  have k2 : E.cell? ⟨w.heap.size + 1, 2, none⟩ = some (.int .i64 x.c) := HD0.out.at 2 _ rfl
  have hld := HD0.out.load
  clear hk h hO hl hE0
  unfold KC.cells zero35 at hE
  unfold RC at hE ⊢
  unfold KC.cells
  go_enter Try.func15, Try.ntmps15
  go_upto_region 1 with fail
  rw [← hE]
  clear hE
  go_upto_region 4 with ((go_at_call 19; with_reducible refine HR.out.mono ?_); rintro e w3 ⟨A1, n1, c1, rfl, hl1, hb3, hkp⟩; have HB3 := Lib.hid hb3; have HL1 := Lib.hid hl1; have HKP := Lib.hid hkp; obtain ⟨v1, v2, v3⟩ := var_put w3 (s.with (addL s.L x.q x.c)) A1 n1 c1; have V1 := v1; unfold zero35 at V1; have V2 := Lib.hid v2; have V3 := Lib.hid v3; clear hl1 hb3 hkp v1 v2 v3)
  have hz3 : w.heap.size + 3 ≤ w3.heap.size := Nat.le_trans HD0.out.size HB3.out.size
  obtain ⟨W4, hW4⟩ : ∃ W4, W4 = (w3.alloc (.cells #[.bool false, .int .i64 0, .int .i64 0, .int .i64 0, .int .i64 0, .slice none 0 0, .int .i64 0, .int .i64 0, .int .i64 0, .int .i64 0, .int .i64 0, .int .i64 0, .int .i64 0, .int .i64 0] 35)).setRow w3.heap.size (RC (s.with (addL s.L x.q x.c)) (.slice A1 n1 c1)) := ⟨_, rfl⟩
  have hb4 : Below w3.heap.size w3 W4 := by rw [hW4]; exact V3.out
  have hr4 : W4.heap[w3.heap.size]? = some (.cells (RC (s.with (addL s.L x.q x.c)) (.slice A1 n1 c1)) 35 (0, 0)) := by rw [hW4]; exact V2.out
  rw [← hW4]
  clear hW4 V1 V2 V3 k0 k1 k2 hld HR
  have hb4d : Below w3.heap.size w3 W4.drew := hb4.drew
  have HR4 := Lib.hid hr4
  have HBW := Lib.hid ((HBE.out.trans (HB3.out.mono HBE.out.size)).trans (hb4d.mono (Nat.le_trans HBE.out.size HB3.out.size)))
  have HKW := Lib.hid (HKP.out.mono HBE.out.size)
  have HOFF := Lib.hid (HKP.out.off HL.out (S := fun k => k = w.heap.size + 2) (fun k hk => by have := HD0.out.size; omega))
  have HB4 := Lib.hid hb4d
  have HD4 := Lib.hid ((HD0.out.later HB3.out).later hb4d)
  have HA4 := Lib.hid ((HAE.out.below HB3.out).below hb4d)
  have HL4 := Lib.hid (HL1.out.below hb4d)
  have HC16 := Lib.hid (HA1.out W4.drew HA4.out)
  have k1 : W4.drew.cell? ⟨w.heap.size + 1, 1, none⟩ = some (.int .i64 x.q) := HD4.out.at 1 _ rfl
  have k2 : W4.drew.cell? ⟨w.heap.size + 1, 2, none⟩ = some (.int .i64 x.c) := HD4.out.at 2 _ rfl
  have l4 : (loadX ⟨w3.heap.size, 0, none⟩).run Try.prog W4.drew = .ok (.agg (RC (s.with (addL s.L x.q x.c)) (.slice A1 n1 c1))) W4.drew := run_loadVar_row _ w3.heap.size 35 35 _ (0, 0) _ (show W4.drew.heap[w3.heap.size]? = _ from hr4) Try.underlying35 rfl info35
  obtain ⟨Y, hY⟩ : ∃ Y, Y = w3.heap.size := ⟨_, rfl⟩
  have HZY := Lib.hid (show w.heap.size + 3 ≤ Y by omega)
  have HY4 : Hid (Y < W4.heap.size) := Lib.hid (by rw [hY]; exact (Array.getElem?_eq_some_iff.1 hr4).1)
  rw [← hY] at l4 HR4 ⊢
  clear hb4 hr4 hb4d HD0 HAE HL1 HA1 hY
  generalize addE s.L x.q x.c = E1 at *
  generalize x.q = xq at *
  generalize x.c = xc at *
  refine Code.wp_mono nrm_le ?_
  go_region_with (first
    | ((go_at_call 16; with_reducible refine HC16.out.mono ?_); rintro e W5 ⟨rfl, hA5, hC5⟩; have hr5 : W5.heap[Y]? = some (.cells (RC (s.with (addL s.L xq xc)) (.slice A1 n1 c1)) 35 (0, 0)) := (hC5.block Y HY4.out (by have := HZY.out; omega)).trans HR4.out; have l5 : (loadX ⟨Y, 0, none⟩).run Try.prog W5 = .ok (.agg (RC (s.with (addL s.L xq xc)) (.slice A1 n1 c1))) W5 := run_loadVar_row _ Y 35 35 _ (0, 0) _ hr5 Try.underlying35 rfl info35; have HR5 := Lib.hid hr5; have HA5 := Lib.hid hA5; have HC5 := Lib.hid hC5; have HL5 := Lib.hid (HL4.out.chg hC5 (off_map HA4.out HL4.out)); have HC23 := Lib.hid (HAG.out W5 hA5 A1 n1 c1 HL5.out); have HD5 := Lib.hid (HD4.out.chg hC5 (fun k hk => by omega)); clear hr5 hA5 hC5)
    | ((go_at_call 23; with_reducible refine HC23.out.mono ?_); rintro e W6 ⟨rfl, hb6⟩; have l6 : (loadX ⟨Y, 0, none⟩).run Try.prog W6 = .ok (.agg (RC (s.with (addL s.L xq xc)) (.slice A1 n1 c1))) W6 := run_loadVar_row _ Y 35 35 _ (0, 0) _ ((hb6.block Y (Array.getElem?_eq_some_iff.1 HR5.out).1).trans HR5.out) Try.underlying35 rfl info35; have HB6 := Lib.hid hb6; obtain ⟨p1, p2, p3⟩ := (HD5.out.later hb6).put (s.with (addL s.L xq xc)) A1 n1 c1; have P2 := Lib.hid p2; have P3 := Lib.hid p3; clear hb6 p2 p3))
  all_goals
    simp only [nrm]
    go_wp2
    (try simp only [Exit.inBlock, Exit.then])
    refine bodyPost_ret (v := .tuple #[.agg (RC (s.with (addL s.L xq xc)) (.slice A1 n1 c1)), .bool true]) ?_ rfl ⟨_, A1, n1, c1, rfl, ?_, HOK2.out, ?_, ?_, HKW.out⟩
    · exact results_row1 (a := 6) (b := 7) (ty := 35) rfl _ _ (w.heap.size + 2) 35 (RC (s.with (addL s.L xq xc)) (.slice A1 n1 c1)) (0, 0) _ rfl P2.out Try.underlying35 rfl info35
    · exact (HA5.out.below HB6.out).chg P3.out (by show ¬ b = w.heap.size + 2; omega) (by show ¬ m = w.heap.size + 2; omega)
    · exact (HL5.out.below HB6.out).chg P3.out HOFF.out
    · exact (((Chg.of_below HBW.out).trans HC5.out (fun i hi _ => .inr hi)).then_below HB6.out).trans P3.out (fun i hi hlt => by omega)
theorem do_rem (b m : Nat) (s : St) (A : Option Addr) (n c : Nat) (x : KC) (w : World) (h : Arb w b m s) (hO : Ok s) (hl : Lds w (.slice A n c) s.L) (hk : x.kd = 1) :
    Calls Try.prog 15 #[.pointer (some ⟨b, 0, none⟩), .agg (RC s (.slice A n c)), .agg x.cells] w (DoPost w b m s (.slice A n c)) := by
  have HO := Lib.hid hO
  have hlen := hO.srt.len
  have HD0 := Lib.hid (DD.start (w := w) (s := s) (v := .slice A n c) (x := x))
  have hE0 := dd_below w (.cells (RC s (.slice A n c)) 35) (.cells x.cells 42) (.cells zero35 35)
  have hbl := h.lt
  have hml := h.map.lt
  obtain ⟨E, hE⟩ : ∃ E, E = ((w.alloc (.cells (RC s (.slice A n c)) 35)).alloc (.cells x.cells 42)).alloc (.cells zero35 35) := ⟨_, rfl⟩
  rw [← hE] at HD0 hE0
  have HBE := Lib.hid hE0
  have HAE := Lib.hid (h.below hE0)
  have HLE := Lib.hid (hl.below hE0)
  have HL := Lib.hid hl
  have HR := Lib.hid (rrem_any s (.slice A n c) x.q E HLE.out hO.srt)
  have HA1 := Lib.hid (fun (W : World) (hW : Arb W b m s) => Remove_any b m s W hW HO.out.srt x.q)
  have HOK2 := Lib.hid (with_ok hO (hO.srt.rem x.q))
  have HAG := Lib.hid (fun (W : World) (hW : Arb W b m (s.with (remL s.L x.q))) (A1 : Option Addr) (n1 c1 : Nat) (hl1 : Lds W (.slice A1 n1 c1) (remL s.L x.q)) => agrees_any b m (s.with (remL s.L x.q)) (s.with (remL s.L x.q)) A1 n1 c1 W hW (hO.srt.rem x.q) hl1)
  have k0 : E.cell? ⟨w.heap.size + 1, 0, none⟩ = some (.int .i64 1) := HD0.out.at 0 _ (by rw [← hk]; rfl)
  have k1 : E.cell? ⟨w.heap.size + 1, 1, none⟩ = some (.int .i64 x.q) := HD0.out.at 1 _ rfl
  have hld := HD0.out.load
  clear hk h hO hl hE0
  unfold KC.cells zero35 at hE
  unfold RC at hE ⊢
  unfold KC.cells
  go_enter Try.func15, Try.ntmps15
  go_upto_region 1 with fail
  rw [← hE]
  clear hE
  go_upto_region 7 with ((go_at_call 28; with_reducible refine HR.out.mono ?_); rintro e w3 ⟨A1, n1, c1, rfl, hl1, hb3, hkp⟩; have HB3 := Lib.hid hb3; have HL1 := Lib.hid hl1; have HKP := Lib.hid hkp; obtain ⟨v1, v2, v3⟩ := var_put w3 (s.with (remL s.L x.q)) A1 n1 c1; have V1 := v1; unfold zero35 at V1; have V2 := Lib.hid v2; have V3 := Lib.hid v3; clear hl1 hb3 hkp v1 v2 v3)
  have hz3 : w.heap.size + 3 ≤ w3.heap.size := Nat.le_trans HD0.out.size HB3.out.size
  obtain ⟨W4, hW4⟩ : ∃ W4, W4 = (w3.alloc (.cells #[.bool false, .int .i64 0, .int .i64 0, .int .i64 0, .int .i64 0, .slice none 0 0, .int .i64 0, .int .i64 0, .int .i64 0, .int .i64 0, .int .i64 0, .int .i64 0, .int .i64 0, .int .i64 0] 35)).setRow w3.heap.size (RC (s.with (remL s.L x.q)) (.slice A1 n1 c1)) := ⟨_, rfl⟩
  have hb4 : Below w3.heap.size w3 W4 := by rw [hW4]; exact V3.out
  have hr4 : W4.heap[w3.heap.size]? = some (.cells (RC (s.with (remL s.L x.q)) (.slice A1 n1 c1)) 35 (0, 0)) := by rw [hW4]; exact V2.out
  rw [← hW4]
  clear hW4 V1 V2 V3 k0 k1 hld HR
  have hb4d : Below w3.heap.size w3 W4.drew := hb4.drew
  have HR4 := Lib.hid hr4
  have HBW := Lib.hid ((HBE.out.trans (HB3.out.mono HBE.out.size)).trans (hb4d.mono (Nat.le_trans HBE.out.size HB3.out.size)))
  have HKW := Lib.hid (HKP.out.mono HBE.out.size)
  have HOFF := Lib.hid (HKP.out.off HL.out (S := fun k => k = w.heap.size + 2) (fun k hk => by have := HD0.out.size; omega))
  have HB4 := Lib.hid hb4d
  have HD4 := Lib.hid ((HD0.out.later HB3.out).later hb4d)
  have HA4 := Lib.hid ((HAE.out.below HB3.out).below hb4d)
  have HL4 := Lib.hid (HL1.out.below hb4d)
  have HC16 := Lib.hid (HA1.out W4.drew HA4.out)
  have k1 : W4.drew.cell? ⟨w.heap.size + 1, 1, none⟩ = some (.int .i64 x.q) := HD4.out.at 1 _ rfl
  have l4 : (loadX ⟨w3.heap.size, 0, none⟩).run Try.prog W4.drew = .ok (.agg (RC (s.with (remL s.L x.q)) (.slice A1 n1 c1))) W4.drew := run_loadVar_row _ w3.heap.size 35 35 _ (0, 0) _ (show W4.drew.heap[w3.heap.size]? = _ from hr4) Try.underlying35 rfl info35
  obtain ⟨Y, hY⟩ : ∃ Y, Y = w3.heap.size := ⟨_, rfl⟩
  have HZY := Lib.hid (show w.heap.size + 3 ≤ Y by omega)
  have HY4 : Hid (Y < W4.heap.size) := Lib.hid (by rw [hY]; exact (Array.getElem?_eq_some_iff.1 hr4).1)
  rw [← hY] at l4 HR4 ⊢
  clear hb4 hr4 hb4d HD0 HAE HL1 HA1 hY
  generalize remE s.L x.q = E1 at *
  generalize x.q = xq at *
  refine Code.wp_mono nrm_le ?_
  go_region_with (first
    | ((go_at_call 21; with_reducible refine HC16.out.mono ?_); rintro e W5 ⟨rfl, hA5, hC5⟩; have hr5 : W5.heap[Y]? = some (.cells (RC (s.with (remL s.L xq)) (.slice A1 n1 c1)) 35 (0, 0)) := (hC5.block Y HY4.out (by have := HZY.out; omega)).trans HR4.out; have l5 : (loadX ⟨Y, 0, none⟩).run Try.prog W5 = .ok (.agg (RC (s.with (remL s.L xq)) (.slice A1 n1 c1))) W5 := run_loadVar_row _ Y 35 35 _ (0, 0) _ hr5 Try.underlying35 rfl info35; have HR5 := Lib.hid hr5; have HA5 := Lib.hid hA5; have HC5 := Lib.hid hC5; have HL5 := Lib.hid (HL4.out.chg hC5 (off_map HA4.out HL4.out)); have HC23 := Lib.hid (HAG.out W5 hA5 A1 n1 c1 HL5.out); have HD5 := Lib.hid (HD4.out.chg hC5 (fun k hk => by omega)); clear hr5 hA5 hC5)
    | ((go_at_call 23; with_reducible refine HC23.out.mono ?_); rintro e W6 ⟨rfl, hb6⟩; have l6 : (loadX ⟨Y, 0, none⟩).run Try.prog W6 = .ok (.agg (RC (s.with (remL s.L xq)) (.slice A1 n1 c1))) W6 := run_loadVar_row _ Y 35 35 _ (0, 0) _ ((hb6.block Y (Array.getElem?_eq_some_iff.1 HR5.out).1).trans HR5.out) Try.underlying35 rfl info35; have HB6 := Lib.hid hb6; obtain ⟨p1, p2, p3⟩ := (HD5.out.later hb6).put (s.with (remL s.L xq)) A1 n1 c1; have P2 := Lib.hid p2; have P3 := Lib.hid p3; clear hb6 p2 p3))
  all_goals
    simp only [nrm]
    go_wp2
    (try simp only [Exit.inBlock, Exit.then])
    refine bodyPost_ret (v := .tuple #[.agg (RC (s.with (remL s.L xq)) (.slice A1 n1 c1)), .bool true]) ?_ rfl ⟨_, A1, n1, c1, rfl, ?_, HOK2.out, ?_, ?_, HKW.out⟩
    · exact results_row1 (a := 6) (b := 7) (ty := 35) rfl _ _ (w.heap.size + 2) 35 (RC (s.with (remL s.L xq)) (.slice A1 n1 c1)) (0, 0) _ rfl P2.out Try.underlying35 rfl info35
    · exact (HA5.out.below HB6.out).chg P3.out (by show ¬ b = w.heap.size + 2; omega) (by show ¬ m = w.heap.size + 2; omega)
    · exact (HL5.out.below HB6.out).chg P3.out HOFF.out
    · exact (((Chg.of_below HBW.out).trans HC5.out (fun i hi _ => .inr hi)).then_below HB6.out).trans P3.out (fun i hi hlt => by omega)
end Go.Proofs.Ytildofclgofjdaa
