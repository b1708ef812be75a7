/- The walk of PrpNone. Conditions stand in each theorem. -/
import Derived.Test.YtngaifokkkmmcaaDB
namespace Go.Proofs.Ytngaifokkkmmcaa
open Go.RowKit Go.Shelf
attribute [local go_sem] Oper.semAt_some
set_option linter.unusedVariables false
set_option maxHeartbeats 4000000
set_option maxRecDepth 100000
theorem run_equalIn_func_nil {P : Program} (w : World) (d : Nat) (t : TypeId) {ps rs : Array TypeId} {vr : Bool} (f : Fn) (a b : Array Value) (h : P.underlying t = some (.func ps rs vr)) :
    (Op.equalIn (d + 1) t (.func f a b) .nilFunc).run P w = .ok false w := by
  simp [Op.equalIn, run_underlying h]
theorem run_eql_func_nil {P : Program} (w : World) (t : TypeId) {ps rs : Array TypeId} {vr : Bool} (f : Fn) (a b : Array Value) (h : P.underlying t = some (.func ps rs vr)) :
    (binOp .eql t (.func f a b) .nilFunc).run P w = .ok (.bool false) w := by
  simp only [binOp]
  simp [show Op.equal t (.func f a b) .nilFunc = Op.equalIn (9999 + 1) t (.func f a b) .nilFunc from rfl, run_equalIn_func_nil w 9999 t f a b h]
theorem res5 (W' : World) (q : Nat) (tm : Array Value) (htm : tm[8]? = some (.pointer (some ⟨q, 0, none⟩))) (h : W'.cell? ⟨q, 0, none⟩ = some (.bool true)) : (results Try.f5 tm).run Try.prog W' = .ok (.bool true) W' := by
  simp [results, Try.results5, go_sem, h, htm]
/-- PrpNone's call of Each: an iterator over nothing. -/
theorem Each_none {w : World} (pv : Value) (fs sc n : Int) (h : Calls Try.prog 20 #[pv, .int .u64 fs, .int .u64 sc, .int .i64 n] w (SpPost w (.error 1))) : Calls Try.prog 11 #[pv, .int .u64 fs, .int .u64 sc, .int .i64 n] w fun e w' => ∃ q qb, e = .returned (.func (.func 56) #[] #[.pointer (some ⟨q, 0, none⟩), .pointer (some ⟨q + 1, 0, none⟩)]) ∧ q < w'.heap.size ∧ w'.cell? ⟨q, 0, none⟩ = some (.int .i64 ((0 : Nat) : Int)) ∧
    w'.heap[q + 1]? = some (.cells #[.func (.func 29) #[] #[.pointer (some ⟨qb, 0, none⟩)]] 74 (0, 0)) ∧ Below w.heap.size w w' :=
  (Each_any pv fs sc n _ h).mono fun e w' ⟨q, qb, A, c, h1, h2, h3, h4, h5, h6⟩ => ⟨q, qb, h1, (Array.getElem?_eq_some_iff.1 h2).1, by rw [cell_of_row w' q 0 _ 3 (0, 0) h2]; rfl, h3, h6⟩
/-- What PrpNone asks of a pointer to no memory. -/
structure Nn (w : World) (p : Option Addr) : Prop where
  req : ∀ W, Below w.heap.size w W → ∀ n : Int, Calls Try.prog 34 #[.pointer p, .int .i64 n] W fun e w' => e = Pan 1 ∧ Below W.heap.size W w'
theorem Nn.of_mi {w : World} {p : Option Addr} (h : Mi w p) : Nn w p := ⟨fun W hb n => reqT_mi (h.later hb) n⟩
theorem Nn.later {w W : World} {p : Option Addr} (h : Nn w p) (hb : Below w.heap.size w W) : Nn W p := ⟨fun W' hb' => h.req W' (hb.trans (hb'.mono hb.size))⟩
/-- The state around PrpNone's loop. -/
structure NI (V W : World) (q qb : Nat) : Prop where
  fn : W.heap[q + 1]? = some (.cells #[.func (.func 29) #[] #[.pointer (some ⟨qb, 0, none⟩)]] 74 (0, 0))
  bel : Below V.heap.size V W
theorem own_ni {β : Type} {V : World} {q qb B : Nat} (hB : V.heap.size ≤ B) : OwnFrom B (fun (_ : β) W => NI V W q qb) := fun x X Y row hs hg hr =>
  ⟨(hg.block _ (Array.getElem?_eq_some_iff.1 hs.fn).1 (fun e => by
    obtain ⟨_, o', ho, hc'⟩ := hr _ e.symm
    rw [hs.fn] at ho; cases ho; cases hc')).trans hs.fn, hs.bel.grown hg hs.bel.size (fun k e => by have := (hr k e).1; omega)⟩
section
variable {w V : World} {p : Option Addr}
theorem none_build (h : Nn V p) (vl vp : Value) (n : Int) (W : World) (hb : Below V.heap.size V W) : Calls Try.prog 15 #[.pointer p, vl, vp, .int .i64 0, .int .i64 n] W fun e w' => e = .returned (.tuple #[.int .u64 0, .int .u64 0, .int .i64 1]) ∧ Below W.heap.size W w' :=
  Build_req (base := 0) (b := 0) (d := 0) (cap := 0) (.pointer p) vl vp 0 n 1 fun W' hb' => h.req W' (hb.trans (hb'.mono hb.size)) n
theorem none_spans (h : Nn V p) (fs sc n : Int) (W : World) (hb : Below V.heap.size V W) : Calls Try.prog 20 #[.pointer p, .int .u64 fs, .int .u64 sc, .int .i64 n] W (SpPost W (.error 1)) :=
  Spans_req (.pointer p) fs sc n 1 fun W' hb' => h.req W' (hb.trans (hb'.mono hb.size)) n
theorem none_law (h : Nn V p) (fs sc n : Int) (W : World) (hb : Below V.heap.size V W) : Calls Try.prog 18 #[.pointer p, .int .u64 fs, .int .u64 sc, .int .i64 n, .int .i64 1, .slice none 0 0] W fun e w' => e = .returned (.bool true) ∧ Below W.heap.size W w' :=
  spans_eq _ _ _ _ _ _ _ _ (none_spans h fs sc n W hb) rfl (Spn.nil W) (by simp [lstO])
end
/-- The frame at PrpNone's loop. -/
abbrev TN (p : Option Addr) (z : Bool) (x15 x16 : Value) (fs sc : Nat) (n : Int) (n0 v0 q : Nat) : Array Value :=
  #[.int .u64 (fs : Int), .int .u64 (sc : Int), .int .i64 n, .bool z, undef, undef, undef, undef, .pointer (some ⟨n0, 0, none⟩), .pointer p, .int .u64 0, .int .u64 0, .int .i64 1,
    .func (.func 56) #[] #[.pointer (some ⟨q, 0, none⟩), .pointer (some ⟨q + 1, 0, none⟩)], .bool z, x15, x16, .tuple #[.int .u64 0, .int .u64 0, .int .i64 1], .pointer p, .int .u64 (fs : Int), .slice (some ⟨v0, 0, none⟩) 1 1, .int .u64 (sc : Int), .slice (some ⟨v0 + 1, 0, none⟩) 1 1, .int .i64 n,
    .tuple #[.int .u64 0, .int .u64 0, .int .i64 1], .int .u64 0, .int .u64 0, .int .i64 1, .pointer p, .int .u64 (fs : Int), .int .u64 (sc : Int), .int .i64 n,
    .func (.func 56) #[] #[.pointer (some ⟨q, 0, none⟩), .pointer (some ⟨q + 1, 0, none⟩)], .func (.func 56) #[] #[.pointer (some ⟨q, 0, none⟩), .pointer (some ⟨q + 1, 0, none⟩)], .bool false, .func (.func 56) #[] #[.pointer (some ⟨q, 0, none⟩), .pointer (some ⟨q + 1, 0, none⟩)],
    undef, undef, undef, undef, undef, undef, undef, undef, undef, undef, undef, undef, undef, undef, undef, undef, undef, undef, undef, undef, undef]
theorem none_false (fs sc : Nat) (n : Int) (w : World) : Calls Try.prog 5 #[.int .u64 (fs : Int), .int .u64 (sc : Int), .int .i64 n, .bool false] w (OkB w) := by
  have hqn := fun (W : World) (f : Fn) (x y : Array Value) => run_eql_func_nil (P := Try.prog) W 35 f x y Try.underlying35
  obtain ⟨V, hV⟩ : ∃ V, V = w.alloc (.cells #[.bool false] 4) := ⟨_, rfl⟩
  have hx : V.heap[w.heap.size]? = some (.cells #[.bool false] 4 (0, 0)) := by rw [hV]; exact heap_alloc_new w _
  have hb : Below w.heap.size w V := by rw [hV]; exact below_alloc w _
  have hsz : w.heap.size < V.heap.size := (Array.getElem?_eq_some_iff.1 hx).1
  have hN : Nn V none := Nn.of_mi (Mi.nil V)
  have HBd := Lib.hid (fun W (hb : Below V.heap.size V W) vl vp => none_build hN vl vp n W hb)
  have HEc := Lib.hid (fun W (hb : Below V.heap.size V W) => Each_none (w := W) _ (fs : Int) (sc : Int) n (none_spans hN fs sc n W hb))
  have HSp := Lib.hid (fun W (hb : Below V.heap.size V W) => none_law hN (fs : Int) (sc : Int) n W hb)
  have HWk := Lib.hid works_any
  have HNm := Lib.hid (fun W => num_any 1 W)
  have HV := Lib.hid hV
  have HX := Lib.hid (And.intro hx (And.intro hb hsz))
  clear hV hx hb hsz hN
  refine calls_of_wpF Try.func5 rfl ?_
  simp only [Try.ntmps5, List.size_toArray, List.length_cons, List.length_nil, Nat.reduceAdd, Nat.reduceSub, Array.replicate_succ, Array.replicate_zero, List.push_toArray, List.append_toArray, List.nil_append, List.cons_append]
  refine wpF_seq (wpF_of ?_)
  go_wp2
  refine wpF_seq (wpF_of ?_)
  go_wp2
  refine wpF_seq (wpF_of ?_)
  go_wp2
  rw [← HV.out]
  refine wpF_seq (wpF_of ?_)
  go_wp2_with fail
  obtain ⟨V1, hV1⟩ : ∃ V1, V1 = (V.alloc (.cells #[.int .u64 (fs : Int)] 23)).alloc (.cells #[.int .u64 (sc : Int)] 23) := ⟨_, rfl⟩
  rw [← hV1]
  have hb1 : Below V.heap.size V V1 := by rw [hV1]; exact (below_alloc V _).alloc (by simp) _
  with_reducible refine (HBd.out _ hb1 _ _).mono ?_
  rintro e w1 ⟨rfl, hb2⟩
  have HB1 := Lib.hid (hb1.trans (hb2.mono hb1.size))
  clear hV1 hb1 hb2
  go_wp2
  refine wpF_seq (wpF_of ?_)
  go_wp2_with fail
  with_reducible refine (HEc.out _ HB1.out).mono ?_
  rintro e w2 ⟨q, qb, rfl, hq, hcq, hfn, hb3⟩
  have HB2 := Lib.hid (HB1.out.trans (hb3.mono HB1.out.size))
  have HQ := Lib.hid (And.intro hq (And.intro hcq hfn))
  clear hb3 hq hcq hfn
  go_wp2
  refine wpF_seq (wpF_of ?_)
  go_wp2
  refine wpF_seq (wpF_seq (wpF_of ?_))
  go_wp2
  refine wpF_block (K := fun a W => ∃ D, a = { tmps := TN none false undef undef fs sc n w.heap.size V.heap.size q, defers := [mrk D] } ∧ NI V W q qb ∧ W.heap[D]? = some (.deferred (some [])) ∧ V.heap.size ≤ D) (X := fun _ _ _ => False) ?rng ?fin ?pan
  case pan => exact fun c a w h => h.elim
  case rng =>
    have hB := HB2.out.size
    refine range56 Try.func5 (q1 := q) (q2 := q + 1) (gw := qb) (N := 0) rfl (enters_of Try.func56 (by kernel_rfl) rfl) (by decide) rfl HQ.out.1 HQ.out.2.1
      (fun _ W => NI V W q qb) (fun _ _ _ => False) (fun _ _ => False) (own_ni hB) (fun k v X Y row hx => hx.elim) ⟨HQ.out.2.2, HB2.out⟩
      (fun k W h => cell_of_row W (q + 1) 0 _ 74 (0, 0) h.fn) (fun k hk => absurd hk (by omega)) (fun _ _ _ _ => False) (fun k v a' u X Y row hx => hx.elim) (fun l k hk => absurd hk (by omega)) (fun l k hk => absurd hk (by omega)) ?don ?pn
    case don =>
      intro D W hD hi hd
      exact ⟨D, rfl, hi, hd, by omega⟩
    case pn => exact fun D c W _ h => h.elim
  case fin =>
    rintro a W ⟨D, rfl, hni, hD, hDl⟩
    obtain ⟨hx, hb, hsz⟩ := HX.out
    have HH := Lib.hid (And.intro hni (And.intro hD hDl))
    have HS1 := Lib.hid (HSp.out W hni.bel)
    have hxb := (hni.bel.block _ hsz).trans hx
    clear hni hD hDl hx hb hsz
    dsimp only [TN]
    refine wpF_of ?_
    go_wp2_with fail
    with_reducible refine HS1.out.mono ?_
    rintro e w3 ⟨rfl, hb3⟩
    have HB3 := Lib.hid hb3
    clear hb3
    go_wp2_with (first
      | ((go_at_call 12; with_reducible refine (HNm.out _).mono ?_); rintro e w' ⟨rfl, rfl⟩))
    with_reducible refine (HWk.out _).mono ?_
    rintro e w4 ⟨rfl, hb4⟩
    have hb := HB3.out.trans (hb4.mono HB3.out.size)
    obtain ⟨hni, hD, hDl⟩ := HH.out
    have hn0 := HX.out.2.2
    have hx4 := (hb.block w.heap.size (Array.getElem?_eq_some_iff.1 hxb).1).trans hxb
    have hD4 := (hb.block D (Array.getElem?_eq_some_iff.1 hD).1).trans hD
    have c4 := cell_of_row w4 w.heap.size 0 _ 4 (0, 0) hx4
    have f4 := frozen_of_row w4 w.heap.size 0 _ 4 hx4
    have hx5 := heap_setCell_same w4 w.heap.size 0 _ 4 (.bool true) hx4
    have hD5 : (w4.setCell ⟨w.heap.size, 0, none⟩ (.bool true)).heap[D]? = some (.deferred (some [])) := (Below.heap_setCell w4 ⟨w.heap.size, 0, none⟩ _ D (by show D ≠ w.heap.size; omega)).trans hD4
    have hbw : Below w.heap.size w (w4.setCell ⟨w.heap.size, 0, none⟩ (.bool true)) := ((HX.out.2.1.trans (hni.bel.mono (Nat.le_of_lt hn0))).trans (hb.mono (by have := hni.bel.size; omega))).setCell (Nat.le_refl _) _
    have HF : Hid (∀ tm : Array Value, tm[8]? = some (.pointer (some ⟨w.heap.size, 0, none⟩)) → LeavesInM Fence.wide 9 Try.prog Try.f5 tm (OkB w) [mrk D] .returning (w4.setCell ⟨w.heap.size, 0, none⟩ (.bool true))) := Lib.hid fun tm ht => by
      have h9 : (((w4.setCell ⟨w.heap.size, 0, none⟩ (.bool true)).putObj D (.deferred none)).heap[w.heap.size]?) = some (.cells #[.bool true] 4 (0, 0)) := (World.putObj_heap_other (by omega)).trans hx5
      refine ⟨by simp, .inl ⟨D, _, rfl, run_takeDeferred hD5, ⟨_, res5 _ w.heap.size tm ht (by rw [cell_of_row _ w.heap.size 0 _ 4 (0, 0) h9]; rfl), rfl, hbw.trans ⟨rfl, rfl, rfl, by simp, fun k hk => World.putObj_heap_other (by omega)⟩⟩⟩⟩
    clear hb hni hD hDl hn0 hx4 hD4 hx5 hD5 hbw hb4 hxb
    go_wp2
    exact HF.out _ rfl
theorem none_true (fs sc : Nat) (n : Int) (w : World) : Calls Try.prog 5 #[.int .u64 (fs : Int), .int .u64 (sc : Int), .int .i64 n, .bool true] w (OkB w) := by
  have hqn := fun (W : World) (f : Fn) (x y : Array Value) => run_eql_func_nil (P := Try.prog) W 35 f x y Try.underlying35
  have hz := zero62
  have s0 : (w.alloc (.cells #[.bool false] 4)).heap.size = w.heap.size + 1 := World.size_alloc _ _
  obtain ⟨V, hV⟩ : ∃ V, V = (w.alloc (.cells #[.bool false] 4)).alloc (.cells zMem 56) := ⟨_, rfl⟩
  have hx : V.heap[w.heap.size]? = some (.cells #[.bool false] 4 (0, 0)) := by rw [hV]; exact (Below.heap_alloc _ _ _ (by omega)).trans (heap_alloc_new w _)
  have hb : Below w.heap.size w V := by rw [hV]; exact (below_alloc w _).alloc (by omega) _
  have hsz : w.heap.size < V.heap.size := (Array.getElem?_eq_some_iff.1 hx).1
  have hzx : V.heap[w.heap.size + 1]? = some (.cells zMem 56 (0, 0)) := by
    have := heap_alloc_new (w.alloc (.cells #[.bool false] 4)) (.cells zMem 56)
    rw [s0] at this
    rw [hV]; exact this
  have hN : Nn V (some ⟨w.heap.size + 1, 0, none⟩) := Nn.of_mi (Mi.zero V _ hzx)
  have HBd := Lib.hid (fun W (hb : Below V.heap.size V W) vl vp => none_build hN vl vp n W hb)
  have HEc := Lib.hid (fun W (hb : Below V.heap.size V W) => Each_none (w := W) _ (fs : Int) (sc : Int) n (none_spans hN fs sc n W hb))
  have HSp := Lib.hid (fun W (hb : Below V.heap.size V W) => none_law hN (fs : Int) (sc : Int) n W hb)
  have HWk := Lib.hid works_any
  have HNm := Lib.hid (fun W => num_any 1 W)
  have HV := Lib.hid hV
  have HX := Lib.hid (And.intro hx (And.intro hb hsz))
  clear hV hx hb hsz hN
  refine calls_of_wpF Try.func5 rfl ?_
  simp only [Try.ntmps5, List.size_toArray, List.length_cons, List.length_nil, Nat.reduceAdd, Nat.reduceSub, Array.replicate_succ, Array.replicate_zero, List.push_toArray, List.append_toArray, List.nil_append, List.cons_append]
  refine wpF_seq (wpF_of ?_)
  go_wp2
  refine wpF_seq (wpF_of ?_)
  go_wp2
  refine wpF_seq (wpF_of ?_)
  go_wp2
  rw [← HV.out]
  refine wpF_seq (wpF_of ?_)
  go_wp2_with fail
  obtain ⟨V1, hV1⟩ : ∃ V1, V1 = (V.alloc (.cells #[.int .u64 (fs : Int)] 23)).alloc (.cells #[.int .u64 (sc : Int)] 23) := ⟨_, rfl⟩
  rw [← hV1]
  have hb1 : Below V.heap.size V V1 := by rw [hV1]; exact (below_alloc V _).alloc (by simp) _
  with_reducible refine (HBd.out _ hb1 _ _).mono ?_
  rintro e w1 ⟨rfl, hb2⟩
  have HB1 := Lib.hid (hb1.trans (hb2.mono hb1.size))
  clear hV1 hb1 hb2
  go_wp2
  refine wpF_seq (wpF_of ?_)
  go_wp2_with fail
  with_reducible refine (HEc.out _ HB1.out).mono ?_
  rintro e w2 ⟨q, qb, rfl, hq, hcq, hfn, hb3⟩
  have HB2 := Lib.hid (HB1.out.trans (hb3.mono HB1.out.size))
  have HQ := Lib.hid (And.intro hq (And.intro hcq hfn))
  clear hb3 hq hcq hfn
  go_wp2
  refine wpF_seq (wpF_of ?_)
  go_wp2
  refine wpF_seq (wpF_seq (wpF_of ?_))
  go_wp2
  refine wpF_block (K := fun a W => ∃ D, a = { tmps := TN (some ⟨w.heap.size + 1, 0, none⟩) true (.agg zMem) (.pointer (some ⟨w.heap.size + 1, 0, none⟩)) fs sc n w.heap.size V.heap.size q, defers := [mrk D] } ∧ NI V W q qb ∧ W.heap[D]? = some (.deferred (some [])) ∧ V.heap.size ≤ D) (X := fun _ _ _ => False) ?rng ?fin ?pan
  case pan => exact fun c a w h => h.elim
  case rng =>
    have hB := HB2.out.size
    refine range56 Try.func5 (q1 := q) (q2 := q + 1) (gw := qb) (N := 0) rfl (enters_of Try.func56 (by kernel_rfl) rfl) (by decide) rfl HQ.out.1 HQ.out.2.1
      (fun _ W => NI V W q qb) (fun _ _ _ => False) (fun _ _ => False) (own_ni hB) (fun k v X Y row hx => hx.elim) ⟨HQ.out.2.2, HB2.out⟩
      (fun k W h => cell_of_row W (q + 1) 0 _ 74 (0, 0) h.fn) (fun k hk => absurd hk (by omega)) (fun _ _ _ _ => False) (fun k v a' u X Y row hx => hx.elim) (fun l k hk => absurd hk (by omega)) (fun l k hk => absurd hk (by omega)) ?don ?pn
    case don =>
      intro D W hD hi hd
      exact ⟨D, rfl, hi, hd, by omega⟩
    case pn => exact fun D c W _ h => h.elim
  case fin =>
    rintro a W ⟨D, rfl, hni, hD, hDl⟩
    obtain ⟨hx, hb, hsz⟩ := HX.out
    have HH := Lib.hid (And.intro hni (And.intro hD hDl))
    have HS1 := Lib.hid (HSp.out W hni.bel)
    have hxb := (hni.bel.block _ hsz).trans hx
    clear hni hD hDl hx hb hsz
    dsimp only [TN]
    refine wpF_of ?_
    go_wp2_with fail
    with_reducible refine HS1.out.mono ?_
    rintro e w3 ⟨rfl, hb3⟩
    have HB3 := Lib.hid hb3
    clear hb3
    go_wp2_with (first
      | ((go_at_call 12; with_reducible refine (HNm.out _).mono ?_); rintro e w' ⟨rfl, rfl⟩))
    with_reducible refine (HWk.out _).mono ?_
    rintro e w4 ⟨rfl, hb4⟩
    have hb := HB3.out.trans (hb4.mono HB3.out.size)
    obtain ⟨hni, hD, hDl⟩ := HH.out
    have hn0 := HX.out.2.2
    have hx4 := (hb.block w.heap.size (Array.getElem?_eq_some_iff.1 hxb).1).trans hxb
    have hD4 := (hb.block D (Array.getElem?_eq_some_iff.1 hD).1).trans hD
    have c4 := cell_of_row w4 w.heap.size 0 _ 4 (0, 0) hx4
    have f4 := frozen_of_row w4 w.heap.size 0 _ 4 hx4
    have hx5 := heap_setCell_same w4 w.heap.size 0 _ 4 (.bool true) hx4
    have hD5 : (w4.setCell ⟨w.heap.size, 0, none⟩ (.bool true)).heap[D]? = some (.deferred (some [])) := (Below.heap_setCell w4 ⟨w.heap.size, 0, none⟩ _ D (by show D ≠ w.heap.size; omega)).trans hD4
    have hbw : Below w.heap.size w (w4.setCell ⟨w.heap.size, 0, none⟩ (.bool true)) := ((HX.out.2.1.trans (hni.bel.mono (Nat.le_of_lt hn0))).trans (hb.mono (by have := hni.bel.size; omega))).setCell (Nat.le_refl _) _
    have HF : Hid (∀ tm : Array Value, tm[8]? = some (.pointer (some ⟨w.heap.size, 0, none⟩)) → LeavesInM Fence.wide 9 Try.prog Try.f5 tm (OkB w) [mrk D] .returning (w4.setCell ⟨w.heap.size, 0, none⟩ (.bool true))) := Lib.hid fun tm ht => by
      have h9 : (((w4.setCell ⟨w.heap.size, 0, none⟩ (.bool true)).putObj D (.deferred none)).heap[w.heap.size]?) = some (.cells #[.bool true] 4 (0, 0)) := (World.putObj_heap_other (by omega)).trans hx5
      refine ⟨by simp, .inl ⟨D, _, rfl, run_takeDeferred hD5, ⟨_, res5 _ w.heap.size tm ht (by rw [cell_of_row _ w.heap.size 0 _ 4 (0, 0) h9]; rfl), rfl, hbw.trans ⟨rfl, rfl, rfl, by simp, fun k hk => World.putObj_heap_other (by omega)⟩⟩⟩⟩
    clear hb hni hD hDl hn0 hx4 hD4 hx5 hD5 hbw hb4 hxb
    go_wp2
    exact HF.out _ rfl
theorem none_any (fs sc : Nat) (n : Int) (z : Bool) (w : World) : Calls Try.prog 5 #[.int .u64 (fs : Int), .int .u64 (sc : Int), .int .i64 n, .bool z] w (OkB w) := by
  cases z
  · exact none_false fs sc n w
  · exact none_true fs sc n w
end Go.Proofs.Ytngaifokkkmmcaa
