/- The contract of parse. Condition: it is given 60 bytes. -/
import Derived.Test.YtcebockdfkjoiaaDoorP
namespace Go.Proofs.YtcebockdfkjoiaaDoor
open Go.RowKit
set_option linter.unusedVariables false
set_option maxHeartbeats 1000000
set_option maxRecDepth 100000

/-- The state of parse: n: the description's cells (the error's behind them), p: the reader's variable, g: the reader. -/
structure PS (w W : World) (n p g : Nat) (vd : Value) (l : List UInt8) (a : Nat) (c : Array Value) : Prop where
  rd : Rd W g vd l a
  var : W.heap[p]? = some (.cells #[.pointer (some ⟨g, 0, none⟩)] 76 (0, 0))
  row : W.heap[n]? = some (.cells c 25 (0, 0))
  err : W.heap[n + 1]? = some (.cells #[.int .i64 0] 28 (0, 0))
  bel : Below n w W
  ng : n + 1 < g
  np : n + 1 < p
  gp : g ≠ p
  vn : ∀ b, vd.ownBlock = some b → n + 1 < b
theorem PS.cell {w W : World} {n p g : Nat} {vd : Value} {l : List UInt8} {a : Nat} {c : Array Value} (h : PS w W n p g vd l a c) : W.cell? ⟨p, 0, none⟩ = some (.pointer (some ⟨g, 0, none⟩)) := by
  rw [cell_of_row W p 0 _ 76 (0, 0) h.var]; rfl
theorem PS.at {w W : World} {n p g : Nat} {vd : Value} {l : List UInt8} {a : Nat} {c : Array Value} (h : PS w W n p g vd l a c) (j : Nat) : W.cell? ⟨n, j, none⟩ = c[j]? := cell_of_row W n j _ 25 (0, 0) h.row
theorem PS.free {w W : World} {n p g : Nat} {vd : Value} {l : List UInt8} {a : Nat} {c : Array Value} (h : PS w W n p g vd l a c) (j : Nat) : W.frozen? ⟨n, j, none⟩ = false := frozen_of_row W n j _ 25 h.row
theorem PS.step {w W W' : World} {n p g : Nat} {vd : Value} {l : List UInt8} {a a' : Nat} {c : Array Value} (h : PS w W n p g vd l a c) (hr : Rd W' g vd l a') (hc : Chg (· = g) W W') : PS w W' n p g vd l a' c := by
  have e : ∀ k (o : Obj), W.heap[k]? = some o → k ≠ g → W'.heap[k]? = some o := fun k o hk hne => (hc.block k (Array.getElem?_eq_some_iff.1 hk).1 hne).trans hk
  refine ⟨hr, e _ _ h.var h.gp.symm, e _ _ h.row (by have := h.ng; omega), e _ _ h.err (by have := h.ng; omega), h.bel.trans (hc.below ?_ ?_), h.ng, h.np, h.gp, h.vn⟩
  · exact Nat.le_of_lt (Array.getElem?_eq_some_iff.1 h.row).1
  · rintro i rfl; have := h.ng; omega
theorem PS.set {w W : World} {n p g : Nat} {vd : Value} {l : List UInt8} {a : Nat} {c : Array Value} (h : PS w W n p g vd l a c) (j : Nat) (v : Value) : PS w (W.setCell ⟨n, j, none⟩ v) n p g vd l a (c.setIfInBounds j v) := by
  have e : ∀ k, k ≠ n → (W.setCell ⟨n, j, none⟩ v).heap[k]? = W.heap[k]? := fun k hk => set_other W n j k v hk
  have hng := h.ng; have hnp := h.np
  have hs : (W.setCell ⟨n, j, none⟩ v).heap.size = W.heap.size := by simp [World.setCell]
  refine ⟨?_, (e _ (by omega)).trans h.var, set_row W n j c 25 v h.row, (e _ (by omega)).trans h.err, h.bel.trans ?_, hng, hnp, h.gp, h.vn⟩
  · refine ⟨h.rd.blk.imp fun t ht => (e _ (by omega)).trans ht, ?_, h.rd.le, h.rd.small, h.rd.ne, fun b hb => by rw [hs]; exact h.rd.lo b hb⟩
    obtain ⟨A, c', hv, hc, hr⟩ := h.rd.byt
    refine ⟨A, c', hv, hc, fun h0 => ?_⟩
    obtain ⟨b, o, rfl, hb, hcell⟩ := hr h0
    have hbn := h.vn b (by rw [hv]; rfl)
    exact ⟨b, o, rfl, by rw [hs]; exact hb, fun j' hj' => (World.cell?_of_block (a := ⟨b, o + j', none⟩) (e b (by omega))).trans (hcell j' hj')⟩
  · exact (Below.refl n W).setCell (p := ⟨n, j, none⟩) (Nat.le_refl _) v
theorem PS.below {w W W' : World} {n p g : Nat} {vd : Value} {l : List UInt8} {a : Nat} {c : Array Value} (h : PS w W n p g vd l a c) (hb : Below W.heap.size W W') : PS w W' n p g vd l a c :=
  h.step (h.rd.below hb) (Chg.of_below hb)
theorem ps_start {w w1 : World} {g : Nat} {vd : Value} {b : List UInt8} {o1 o2 : Array Value} (hrd : Rd w1 g vd b 0) (h1 : o1 = #[.int .u8 0, .int .i64 0, .int .u64 0, .int .u64 0, .int .i64 0, .int .i64 0]) (h2 : o2 = #[.int .i64 0])
    (hb : Below ((w.alloc (.cells o1 25)).alloc (.cells o2 28)).heap.size ((w.alloc (.cells o1 25)).alloc (.cells o2 28)) w1) (hg : ((w.alloc (.cells o1 25)).alloc (.cells o2 28)).heap.size ≤ g) (hv : ∀ b, vd.ownBlock = some b → ((w.alloc (.cells o1 25)).alloc (.cells o2 28)).heap.size ≤ b) :
    PS w (w1.alloc (.cells #[.pointer (some ⟨g, 0, none⟩)] 76)) w.heap.size w1.heap.size g vd b 0 #[.int .u8 0, .int .i64 0, .int .u64 0, .int .u64 0, .int .i64 0, .int .i64 0] := by
  subst h1; subst h2
  have e2 : ((w.alloc (.cells #[.int .u8 0, .int .i64 0, .int .u64 0, .int .u64 0, .int .i64 0, .int .i64 0] 25)).alloc (.cells #[.int .i64 0] 28)).heap.size = w.heap.size + 2 := by simp
  have hs := hb.size
  rw [e2] at hs hg hv
  have hlt := hrd.lt
  have k : ∀ j, j < w.heap.size + 2 → (w1.alloc (.cells #[.pointer (some ⟨g, 0, none⟩)] 76)).heap[j]? = ((w.alloc (.cells #[.int .u8 0, .int .i64 0, .int .u64 0, .int .u64 0, .int .i64 0, .int .i64 0] 25)).alloc (.cells #[.int .i64 0] 28)).heap[j]? := fun j hj =>
    (Below.heap_alloc w1 _ j (by omega)).trans (hb.block j (by rw [e2]; exact hj))
  refine ⟨hrd.below ((Below.refl _ _).alloc (Nat.le_refl _) _), heap_alloc_new w1 _, ?_, ?_, ?_, by omega, by omega, by omega, fun b' hb' => by have := hv b' hb'; omega⟩
  · rw [k _ (by omega), Below.heap_alloc _ _ _ (by simp)]; exact heap_alloc_new w _
  · rw [k _ (by omega)]
    have := heap_alloc_new (w.alloc (.cells #[.int .u8 0, .int .i64 0, .int .u64 0, .int .u64 0, .int .i64 0, .int .i64 0] 25)) (.cells #[.int .i64 0] 28)
    simpa using this
  · have h3 := ((Below.refl w.heap.size w).alloc (Nat.le_refl _) (.cells #[.int .u8 0, .int .i64 0, .int .u64 0, .int .u64 0, .int .i64 0, .int .i64 0] 25)).alloc (by simp) (.cells #[.int .i64 0] 28)
    exact (h3.trans (hb.mono (by omega))).alloc (by omega) _
/-- The closure that reads an integer, its value in the integers. -/
theorem integer_z {w W : World} {n p g : Nat} {vd : Value} {l : List UInt8} {a : Nat} {c : Array Value} (h : PS w W n p g vd l a c) (k : Nat) (K X : Int) (hK : K = (k : Int)) (hX : ((getV ((l.drop a).take k) : Nat) : Int) = X) (h1 : 1 ≤ k) (h8 : k ≤ 8) (hn : a + k ≤ l.length) :
    Calls Tryd.prog 44 #[.int .i64 K, .pointer (some ⟨p, 0, none⟩)] W fun e W' => e = .returned (.int .u64 X) ∧ PS w W' n p g vd l (a + k) c := by
  subst hK; subst hX
  refine (integer_any g p vd l a k W h.rd h.cell h1 h8 hn).mono ?_
  rintro e W' ⟨rfl, hr, hc⟩
  exact ⟨rfl, h.step hr hc⟩
theorem zeros_yes {w W : World} {n p g : Nat} {vd : Value} {l : List UInt8} {a : Nat} {c : Array Value} (h : PS w W n p g vd l a c) (k : Nat) (K : Int) (hK : K = (k : Int)) (hn : a + k ≤ l.length) (hz : (l.drop a).take k = List.replicate k 0) :
    Calls Tryd.prog 43 #[.pointer (some ⟨g, 0, none⟩), .int .i64 K] W fun e W' => e = .returned (.int .i64 0) ∧ PS w W' n p g vd l (a + k) c := by
  subst hK
  refine (Zeros_ok g vd l a k W h.rd hn hz).mono ?_
  rintro e W' ⟨rfl, hr, hc⟩
  exact ⟨rfl, h.step hr hc⟩
theorem zeros_no {w W : World} {n p g : Nat} {vd : Value} {l : List UInt8} {a : Nat} {c : Array Value} (h : PS w W n p g vd l a c) (k : Nat) (K : Int) (hK : K = (k : Int)) (hn : a + k ≤ l.length) (hz : (l.drop a).take k ≠ List.replicate k 0) :
    Calls Tryd.prog 43 #[.pointer (some ⟨g, 0, none⟩), .int .i64 K] W fun e W' => e = .returned (.int .i64 6) ∧ PS w W' n p g vd l a c := by
  subst hK
  have hlen : ((l.drop a).take k).length = k := by rw [List.length_take, List.length_drop]; omega
  refine (Zeros_format g vd l a k W h.rd hn (fun hall => hz ?_)).mono ?_
  · refine List.ext_getElem (by simp [hlen]) fun j h1 h2 => ?_
    rw [hall j h1]; simp
  · rintro e W' ⟨rfl, hr, hc⟩
    exact ⟨rfl, h.step hr hc⟩
/-- What parse returns. -/
def Parsed (b : List UInt8) (V : Value) (E : Int) : Prop := (Sp.fine b ∧ V = (Sp.raw b).val ∧ E = 0) ∨ (¬ Sp.fine b ∧ V = Sp.zero.val ∧ E = 6)
theorem parsed_no {b : List UInt8} {V : Value} {E : Int} (h : Parsed b V E) (hn : ¬ Sp.fine b) : V = .agg #[.int .u8 0, .int .i64 0, .int .u64 0, .int .u64 0, .int .i64 0, .int .i64 0] ∧ E = 6 := by
  rcases h with ⟨h, -⟩ | ⟨-, h1, h2⟩
  · exact absurd h hn
  · exact ⟨h1, h2⟩
theorem end_leaves {W : World} {n : Nat} {u0 u1 u2 u3 u4 u5 x : Value} {tmps : Array Value} {R : Ending → World → Prop} {u : FrameMode} (hr : W.heap[n]? = some (.cells #[u0, u1, u2, u3, u4, u5] 25 (0, 0))) (he : W.heap[n + 1]? = some (.cells #[x] 28 (0, 0)))
    (hu : u = .returning) (t2 : tmps[2]? = some (.pointer (some ⟨n, 0, none⟩))) (t3 : tmps[3]? = some (.pointer (some ⟨n + 1, 0, none⟩))) (hR : R (.returned (.tuple #[.agg #[u0, u1, u2, u3, u4, u5], x])) W) : Leaves Tryd.prog Tryd.f29 tmps R [] u W := by
  subst hu
  have c0 : W.cell? ⟨n, 0, none⟩ = some u0 := cell_of_row W n 0 _ _ _ hr
  have c1 : W.cell? ⟨n, 1, none⟩ = some u1 := cell_of_row W n 1 _ _ _ hr
  have c2 : W.cell? ⟨n, 2, none⟩ = some u2 := cell_of_row W n 2 _ _ _ hr
  have c3 : W.cell? ⟨n, 3, none⟩ = some u3 := cell_of_row W n 3 _ _ _ hr
  have c4 : W.cell? ⟨n, 4, none⟩ = some u4 := cell_of_row W n 4 _ _ _ hr
  have c5 : W.cell? ⟨n, 5, none⟩ = some u5 := cell_of_row W n 5 _ _ _ hr
  have ce : W.cell? ⟨n + 1, 0, none⟩ = some x := cell_of_row W (n + 1) 0 _ _ _ he
  clear hr he
  simp [Leaves, results, Tryd.results29, go_sem, t2, t3, c0, c1, c2, c3, c4, c5, ce]
  exact hR
theorem fail_below {w W w'' : World} {n p g : Nat} {vd : Value} {l : List UInt8} {a : Nat} {c : Array Value} (h : PS w W n p g vd l a c) (hC : Chg (fun b => b = n ∨ b = n + 1) W w'') : Below n w w'' :=
  h.bel.trans (hC.below (Nat.le_of_lt (Array.getElem?_eq_some_iff.1 h.row).1) (by rintro i (h | h) <;> omega))
set_option maxHeartbeats 6000000 in
theorem PS.as {w W : World} {n p g : Nat} {vd : Value} {l : List UInt8} {a : Nat} {c c' : Array Value} (h : PS w W n p g vd l a c) (hc : c = c') : PS w W n p g vd l a c' := hc ▸ h
theorem ok_end {w W : World} {p g : Nat} {vd : Value} {l : List UInt8} {a : Nat} {u0 u1 u2 u3 u4 u5 : Value} {tmps : Array Value} (h : PS w W w.heap.size p g vd l a #[u0, u1, u2, u3, u4, u5])
    (t2 : tmps[2]? = some (.pointer (some ⟨w.heap.size, 0, none⟩))) (t3 : tmps[3]? = some (.pointer (some ⟨w.heap.size + 1, 0, none⟩))) :
    Leaves Tryd.prog Tryd.f29 tmps (fun e w' => e = .returned (.tuple #[.agg #[u0, u1, u2, u3, u4, u5], .int .i64 0]) ∧ Below w.heap.size w w') [] (settle .returning) (((((((W.setCell ⟨w.heap.size, 0, none⟩ u0).setCell ⟨w.heap.size, 1, none⟩ u1).setCell ⟨w.heap.size, 2, none⟩ u2).setCell ⟨w.heap.size, 3, none⟩ u3).setCell ⟨w.heap.size, 4, none⟩ u4).setCell ⟨w.heap.size, 5, none⟩ u5).setCell ⟨w.heap.size + 1, 0, none⟩ (.int .i64 0)) := by
  have R6 := (((((h.set 0 u0).set 1 u1).set 2 u2).set 3 u3).set 4 u4).set 5 u5
  have e : ((((((#[u0, u1, u2, u3, u4, u5] : Array Value).setIfInBounds 0 u0).setIfInBounds 1 u1).setIfInBounds 2 u2).setIfInBounds 3 u3).setIfInBounds 4 u4).setIfInBounds 5 u5 = #[u0, u1, u2, u3, u4, u5] := rfl
  rw [e] at R6
  generalize (((((W.setCell ⟨w.heap.size, 0, none⟩ u0).setCell ⟨w.heap.size, 1, none⟩ u1).setCell ⟨w.heap.size, 2, none⟩ u2).setCell ⟨w.heap.size, 3, none⟩ u3).setCell ⟨w.heap.size, 4, none⟩ u4).setCell ⟨w.heap.size, 5, none⟩ u5 = W6 at R6 ⊢
  have re : (W6.setCell ⟨w.heap.size + 1, 0, none⟩ (.int .i64 0)).heap[w.heap.size + 1]? = some (.cells #[.int .i64 0] 28 (0, 0)) := set_row W6 (w.heap.size + 1) 0 _ 28 _ R6.err
  have rr : (W6.setCell ⟨w.heap.size + 1, 0, none⟩ (.int .i64 0)).heap[w.heap.size]? = some (.cells #[u0, u1, u2, u3, u4, u5] 25 (0, 0)) := (set_other _ _ _ _ _ (by omega)).trans R6.row
  exact end_leaves rr re rfl t2 t3 ⟨rfl, R6.bel.setCell (p := ⟨w.heap.size + 1, 0, none⟩) (Nat.le_succ _) _⟩
set_option maxHeartbeats 6000000 in
theorem parse_gen (v : Value) (b : List UInt8) (V : Value) (E : Int) (w : World) (h : Byt w v b) (hl : b.length = 60) (hR : Hid (Parsed b V E)) :
    Calls Tryd.prog 29 #[v] w fun e w' => e = .returned (.tuple #[V, .int .i64 E]) ∧ Below w.heap.size w w' := by
  have hmf : ∀ (fn : Fn) (first cap : Array Value) (w : World), (Instr.makeFunc fn first cap).run Tryd.prog w = .ok (.func fn first cap) w := fun _ _ _ _ => rfl
  have H := Lib.hid h; clear h
  have Hl := Lib.hid hl; clear hl
  go_enter_defers Tryd.func29, Tryd.ntmps29
  go_wp2_with fail
  refine (NewReader_any v b _ (H.out.below (((Below.refl _ _).alloc (Nat.le_refl _) _).alloc (by simp) _)) (by have := Hl.out; omega)).mono ?_
  rintro e w1 ⟨⟨g, vd, rfl, hg, hvd, hrd⟩, hb1⟩
  have Hrd := Lib.hid hrd; have Hb1 := Lib.hid hb1; have Hvd := Lib.hid hvd; have Hg := Lib.hid hg; clear hrd hb1 hvd hg
  go_wp2_with fail
  have P0 := Lib.hid (ps_start (w := w) Hrd.out rfl rfl Hb1.out Hg.out Hvd.out); clear Hrd Hb1 Hg Hvd
  generalize hp : w1.heap.size = p at P0 ⊢
  generalize w1.alloc (.cells #[.pointer (some ⟨g, 0, none⟩)] 76) = W0 at P0 ⊢
  clear hp w1
  obtain ⟨X, hX⟩ : ∃ X : Int, ((getV ((b.drop 0).take 4) : Nat) : Int) = X := ⟨_, rfl⟩
  have HX := Lib.hid hX; clear hX
  refine (integer_z P0.out 4 _ X rfl HX.out (by omega) (by omega) (by have := Hl.out; omega)).mono ?_
  rintro e W1 ⟨rfl, hP⟩
  have P1 := Lib.hid hP; clear hP P0
  by_cases hm : X = 1280591427
  rotate_left
  · have hm2 : (X == 1280591427) = false := by simpa using hm
    go_wp2_with fail
    refine (require_no _).mono ?_
    rintro e w' ⟨rfl, rfl⟩
    go_wp2
    refine leaves_cons (f := 41) (args := #[.pointer (some ⟨w.heap.size, 0, none⟩), .pointer (some ⟨w.heap.size + 1, 0, none⟩)]) (by simp) (by simp [go_sem]) ?_
    refine (catch_panicking w.heap.size (w.heap.size + 1) _ _ _ _ _ _ _ [] _ P1.out.row P1.out.err (by omega)).mono ?_
    rintro e u' w'' ⟨rfl, rfl, hC, hr, he⟩
    obtain ⟨rfl, rfl⟩ := parsed_no hR.out (fun hf => hm (by rw [← HX.out, hf.1]; rfl))
    exact end_leaves hr he rfl rfl rfl ⟨rfl, fail_below P1.out hC⟩
  subst hm
  go_wp2_with fail
  refine (require_yes _).mono ?_
  rintro e w' ⟨rfl, rfl⟩
  go_wp2_with fail
  obtain ⟨K, hX⟩ : ∃ K : Nat, getV ((b.drop 4).take 1) = K := ⟨_, rfl⟩
  have hltK : K < 256 := by rw [← hX]; have := getV_lt ((b.drop 4).take 1); rw [cut_len b Hl.out 4 1 (by omega)] at this; exact this
  have HK := Lib.hid hX; clear hX
  refine (integer_z P1.out 1 _ (K : Int) rfl (by rw [HK.out]) (by omega) (by omega) (by have := Hl.out; omega)).mono ?_
  rintro e W2 ⟨rfl, hP⟩
  have P2 := Lib.hid hP; clear hP P1
  have hc : W2.cell? ⟨w.heap.size, 0, none⟩ = some (.int .u8 0) := P2.out.at 0
  have hf := P2.out.free 0
  go_wp2_with fail
  have P3 := Lib.hid (P2.out.set 0 (.int .u8 (K : Int))); clear P2 hc hf
  generalize W2.setCell ⟨w.heap.size, 0, none⟩ (.int .u8 (K : Int)) = W3 at P3 ⊢
  by_cases hz : (b.drop 5).take 3 = List.replicate 3 0
  rotate_left
  · refine (zeros_no P3.out 3 _ rfl (by have := Hl.out; omega) hz).mono ?_
    rintro e W4 ⟨rfl, hP⟩
    have P4 := Lib.hid hP; clear hP P3
    go_wp2_with fail
    refine (require_no _).mono ?_
    rintro e w' ⟨rfl, rfl⟩
    go_wp2
    refine leaves_cons (f := 41) (args := #[.pointer (some ⟨w.heap.size, 0, none⟩), .pointer (some ⟨w.heap.size + 1, 0, none⟩)]) (by simp) (by simp [go_sem]) ?_
    refine (catch_panicking w.heap.size (w.heap.size + 1) _ _ _ _ _ _ _ [] _ P4.out.row P4.out.err (by omega)).mono ?_
    rintro e u' w'' ⟨rfl, rfl, hC, hr, he⟩
    obtain ⟨rfl, rfl⟩ := parsed_no hR.out (fun hf => hz hf.2.1)
    exact end_leaves hr he rfl rfl rfl ⟨rfl, fail_below P4.out hC⟩
  refine (zeros_yes P3.out 3 _ rfl (by have := Hl.out; omega) hz).mono ?_
  rintro e W4 ⟨rfl, hP⟩
  have P4 := Lib.hid hP; clear hP P3
  have Hz := Lib.hid hz; clear hz
  go_wp2_with fail
  refine (require_yes _).mono ?_
  rintro e w' ⟨rfl, rfl⟩
  go_wp2_with fail
  obtain ⟨Q, hX⟩ : ∃ Q : Nat, getV ((b.drop 8).take 8) = Q := ⟨_, rfl⟩
  have hltQ : Q < 18446744073709551616 := by rw [← hX]; have := getV_lt ((b.drop 8).take 8); rw [cut_len b Hl.out 8 8 (by omega)] at this; exact this
  have HQ := Lib.hid hX; clear hX
  refine (integer_z P4.out 8 _ (Q : Int) rfl (by rw [HQ.out]) (by omega) (by omega) (by have := Hl.out; omega)).mono ?_
  rintro e W5 ⟨rfl, hP⟩
  have P5 := Lib.hid hP; clear hP P4
  have hc : W5.cell? ⟨w.heap.size, 2, none⟩ = some (.int .u64 0) := P5.out.at 2
  have hf := P5.out.free 2
  go_wp2_with fail
  have P6 := Lib.hid (P5.out.set 2 (.int .u64 (Q : Int))); clear P5 hc hf
  generalize W5.setCell ⟨w.heap.size, 2, none⟩ (.int .u64 (Q : Int)) = W6 at P6 ⊢
  obtain ⟨Pv, hX⟩ : ∃ Pv : Nat, getV ((b.drop 16).take 8) = Pv := ⟨_, rfl⟩
  have hltPv : Pv < 18446744073709551616 := by rw [← hX]; have := getV_lt ((b.drop 16).take 8); rw [cut_len b Hl.out 16 8 (by omega)] at this; exact this
  have HPv := Lib.hid hX; clear hX
  refine (integer_z P6.out 8 _ (Pv : Int) rfl (by rw [HPv.out]) (by omega) (by omega) (by have := Hl.out; omega)).mono ?_
  rintro e W7 ⟨rfl, hP⟩
  have P7 := Lib.hid hP; clear hP P6
  have hc : W7.cell? ⟨w.heap.size, 3, none⟩ = some (.int .u64 0) := P7.out.at 3
  have hf := P7.out.free 3
  go_wp2_with fail
  have P8 := Lib.hid (P7.out.set 3 (.int .u64 (Pv : Int))); clear P7 hc hf
  generalize W7.setCell ⟨w.heap.size, 3, none⟩ (.int .u64 (Pv : Int)) = W8 at P8 ⊢
  obtain ⟨S, hX⟩ : ∃ S : Nat, getV ((b.drop 24).take 4) = S := ⟨_, rfl⟩
  have hltS : S < 4294967296 := by rw [← hX]; have := getV_lt ((b.drop 24).take 4); rw [cut_len b Hl.out 24 4 (by omega)] at this; exact this
  have HS := Lib.hid hX; clear hX
  refine (integer_z P8.out 4 _ (S : Int) rfl (by rw [HS.out]) (by omega) (by omega) (by have := Hl.out; omega)).mono ?_
  rintro e W9 ⟨rfl, hP⟩
  have P9 := Lib.hid hP; clear hP P8
  have hc : W9.cell? ⟨w.heap.size, 1, none⟩ = some (.int .i64 0) := P9.out.at 1
  have hf := P9.out.free 1
  go_wp2_with fail
  have P10 := Lib.hid (P9.out.set 1 (.int .i64 (S : Int))); clear P9 hc hf
  generalize W9.setCell ⟨w.heap.size, 1, none⟩ (.int .i64 (S : Int)) = W10 at P10 ⊢
  obtain ⟨I, hX⟩ : ∃ I : Nat, getV ((b.drop 28).take 4) = I := ⟨_, rfl⟩
  have hltI : I < 4294967296 := by rw [← hX]; have := getV_lt ((b.drop 28).take 4); rw [cut_len b Hl.out 28 4 (by omega)] at this; exact this
  have HI := Lib.hid hX; clear hX
  refine (integer_z P10.out 4 _ (I : Int) rfl (by rw [HI.out]) (by omega) (by omega) (by have := Hl.out; omega)).mono ?_
  rintro e W11 ⟨rfl, hP⟩
  have P11 := Lib.hid hP; clear hP P10
  have hc : W11.cell? ⟨w.heap.size, 4, none⟩ = some (.int .i64 0) := P11.out.at 4
  have hf := P11.out.free 4
  go_wp2_with fail
  have P12 := Lib.hid (P11.out.set 4 (.int .i64 (I : Int))); clear P11 hc hf
  generalize W11.setCell ⟨w.heap.size, 4, none⟩ (.int .i64 (I : Int)) = W12 at P12 ⊢
  obtain ⟨L, hX⟩ : ∃ L : Nat, getV ((b.drop 32).take 4) = L := ⟨_, rfl⟩
  have hltL : L < 4294967296 := by rw [← hX]; have := getV_lt ((b.drop 32).take 4); rw [cut_len b Hl.out 32 4 (by omega)] at this; exact this
  have HL := Lib.hid hX; clear hX
  refine (integer_z P12.out 4 _ (L : Int) rfl (by rw [HL.out]) (by omega) (by omega) (by have := Hl.out; omega)).mono ?_
  rintro e W13 ⟨rfl, hP⟩
  have P13 := Lib.hid hP; clear hP P12
  have hv13 : W13.cell? ⟨p, 0, none⟩ = some (.pointer (some ⟨g, 0, none⟩)) := P13.out.cell
  have hc : W13.cell? ⟨w.heap.size, 5, none⟩ = some (.int .i64 0) := P13.out.at 5
  have hf := P13.out.free 5
  go_wp2_with fail
  have P14 := Lib.hid (P13.out.set 5 (.int .i64 (L : Int))); clear P13 hc hf
  generalize W13.setCell ⟨w.heap.size, 5, none⟩ (.int .i64 (L : Int)) = W14 at P14 ⊢
  refine (Left_any g vd b 36 _ P14.out.rd).mono ?_
  rintro e W15 ⟨rfl, q, hq⟩
  have P15 : Hid (PS w W15 w.heap.size p g vd b 36 _) := Lib.hid (P14.out.below (by rw [hq]; exact below_drewN (Below.refl _ _) q)); clear hq P14
  have e24 : (b.length : Int) - (36 : Nat) = 24 := by have := Hl.out; omega
  simp only [e24]
  go_wp2_with fail
  by_cases hz : (b.drop 36).take 24 = List.replicate 24 0
  rotate_left
  · refine (zeros_no P15.out 24 _ rfl (by have := Hl.out; omega) hz).mono ?_
    rintro e W16 ⟨rfl, hP⟩
    have P16 := Lib.hid hP; clear hP P15
    go_wp2_with fail
    refine (require_no _).mono ?_
    rintro e w' ⟨rfl, rfl⟩
    go_wp2
    refine leaves_cons (f := 41) (args := #[.pointer (some ⟨w.heap.size, 0, none⟩), .pointer (some ⟨w.heap.size + 1, 0, none⟩)]) (by simp) (by simp [go_sem]) ?_
    refine (catch_panicking w.heap.size (w.heap.size + 1) _ _ _ _ _ _ _ [] _ P16.out.row P16.out.err (by omega)).mono ?_
    rintro e u' w'' ⟨rfl, rfl, hC, hr, he⟩
    obtain ⟨rfl, rfl⟩ := parsed_no hR.out (fun hf => hz hf.2.2.1)
    exact end_leaves hr he rfl rfl rfl ⟨rfl, fail_below P16.out hC⟩
  refine (zeros_yes P15.out 24 _ rfl (by have := Hl.out; omega) hz).mono ?_
  rintro e W16 ⟨rfl, hP⟩
  have P16 := Lib.hid hP; clear hP P15
  have Hz2 := Lib.hid hz; clear hz
  go_wp2_with fail
  refine (require_yes _).mono ?_
  rintro e w' ⟨rfl, rfl⟩
  have c0 : W16.cell? ⟨w.heap.size, 0, none⟩ = some (.int .u8 (K : Int)) := P16.out.at 0
  have c1 : W16.cell? ⟨w.heap.size, 1, none⟩ = some (.int .i64 (S : Int)) := P16.out.at 1
  have c2 : W16.cell? ⟨w.heap.size, 2, none⟩ = some (.int .u64 (Q : Int)) := P16.out.at 2
  have c3 : W16.cell? ⟨w.heap.size, 3, none⟩ = some (.int .u64 (Pv : Int)) := P16.out.at 3
  have c4 : W16.cell? ⟨w.heap.size, 4, none⟩ = some (.int .i64 (I : Int)) := P16.out.at 4
  have c5 : W16.cell? ⟨w.heap.size, 5, none⟩ = some (.int .i64 (L : Int)) := P16.out.at 5
  obtain ⟨s, hs⟩ : ∃ s : Sp, s = ⟨K, S, Q, Pv, I, L⟩ := ⟨_, rfl⟩
  have Hraw := Lib.hid (show Sp.raw b = s by rw [hs, ← HK.out, ← HS.out, ← HQ.out, ← HPv.out, ← HI.out, ← HL.out]; rfl)
  have Hwf := Lib.hid (show s.wf from by rw [← Hraw.out]; exact Sp.raw_wf b Hl.out)
  have Hval := Lib.hid (show s.val = .agg #[.int .u8 (K : Int), .int .i64 (S : Int), .int .u64 (Q : Int), .int .u64 (Pv : Int), .int .i64 (I : Int), .int .i64 (L : Int)] by rw [hs]; rfl)
  clear hs
  go_wp2_with fail
  refine (show Calls Tryd.prog 13 #[.agg #[.int .u8 (K : Int), .int .i64 (S : Int), .int .u64 (Q : Int), .int .u64 (Pv : Int), .int .i64 (I : Int), .int .i64 (L : Int)]] W16 _ by rw [← Hval.out]; exact Valid_any s Hwf.out W16).mono ?_
  rintro e W17 ⟨rfl, hb⟩
  have P17 := Lib.hid (P16.out.below hb); clear hb P16 c0 c1 c2 c3 c4 c5
  by_cases hok : s.ok
  rotate_left
  · simp only [decide_eq_false hok]
    go_wp2_with fail
    refine (require_no _).mono ?_
    rintro e w' ⟨rfl, rfl⟩
    go_wp2
    refine leaves_cons (f := 41) (args := #[.pointer (some ⟨w.heap.size, 0, none⟩), .pointer (some ⟨w.heap.size + 1, 0, none⟩)]) (by simp) (by simp [go_sem]) ?_
    refine (catch_panicking w.heap.size (w.heap.size + 1) _ _ _ _ _ _ _ [] _ P17.out.row P17.out.err (by omega)).mono ?_
    rintro e u' w'' ⟨rfl, rfl, hC, hr, he⟩
    obtain ⟨rfl, rfl⟩ := parsed_no hR.out (fun hf => hok (by rw [← Hraw.out]; exact hf.2.2.2))
    exact end_leaves hr he rfl rfl rfl ⟨rfl, fail_below P17.out hC⟩
  simp only [decide_eq_true hok]
  have Hok := Lib.hid hok; clear hok
  go_wp2_with fail
  refine (require_yes _).mono ?_
  rintro e w' ⟨rfl, rfl⟩
  have c0 : W17.cell? ⟨w.heap.size, 0, none⟩ = some (.int .u8 (K : Int)) := P17.out.at 0
  have c1 : W17.cell? ⟨w.heap.size, 1, none⟩ = some (.int .i64 (S : Int)) := P17.out.at 1
  have c2 : W17.cell? ⟨w.heap.size, 2, none⟩ = some (.int .u64 (Q : Int)) := P17.out.at 2
  have c3 : W17.cell? ⟨w.heap.size, 3, none⟩ = some (.int .u64 (Pv : Int)) := P17.out.at 3
  have c4 : W17.cell? ⟨w.heap.size, 4, none⟩ = some (.int .i64 (I : Int)) := P17.out.at 4
  have c5 : W17.cell? ⟨w.heap.size, 5, none⟩ = some (.int .i64 (L : Int)) := P17.out.at 5
  have f0 := P17.out.free 0
  have f1 := P17.out.free 1
  have f2 := P17.out.free 2
  have f3 := P17.out.free 3
  have f4 := P17.out.free 4
  have f5 := P17.out.free 5
  have ce : W17.cell? ⟨w.heap.size + 1, 0, none⟩ = some (.int .i64 0) := cell_of_row W17 (w.heap.size + 1) 0 _ _ _ P17.out.err
  have fe : W17.frozen? ⟨w.heap.size + 1, 0, none⟩ = false := frozen_of_row W17 (w.heap.size + 1) 0 _ _ P17.out.err
  go_wp2
  refine leaves_cons (f := 41) (args := #[.pointer (some ⟨w.heap.size, 0, none⟩), .pointer (some ⟨w.heap.size + 1, 0, none⟩)]) (by simp) (by simp [go_sem]) ?_
  refine (catch_idle w.heap.size (w.heap.size + 1) _).mono ?_
  rintro e u' w'' ⟨rfl, rfl, rfl⟩
  obtain ⟨rfl, rfl⟩ : V = s.val ∧ E = 0 := by
    rcases hR.out with ⟨-, h1, h2⟩ | ⟨h0, -⟩
    · rw [Hraw.out] at h1; exact ⟨h1, h2⟩
    · exact absurd ⟨(by have := HX.out; omega), Hz.out, Hz2.out, by rw [Hraw.out]; exact Hok.out⟩ h0
  rw [Hval.out]
  exact ok_end (P17.out.as rfl) rfl rfl
theorem parse_any (v : Value) (b : List UInt8) (w : World) (h : Byt w v b) (hl : b.length = 60) :
    Calls Tryd.prog 29 #[v] w fun e w' => e = .returned (.tuple #[(if Sp.fine b then Sp.raw b else Sp.zero).val, .int .i64 (if Sp.fine b then 0 else 6)]) ∧ Below w.heap.size w w' := by
  refine parse_gen v b _ _ w h hl (Lib.hid ?_)
  by_cases hf : Sp.fine b
  · exact .inl ⟨hf, by rw [if_pos hf], if_pos hf⟩
  · exact .inr ⟨hf, by rw [if_neg hf], if_neg hf⟩
end Go.Proofs.YtcebockdfkjoiaaDoor
