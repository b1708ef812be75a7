/- The contract of works. No condition. -/
import Derived.Test.YteiemegkdnjpgaaO
namespace Go.Proofs.Yteiemegkdnjpgaa
open Go.RowKit Go.Shelf
set_option linter.unusedVariables false
set_option maxHeartbeats 4000000
set_option maxRecDepth 100000
/-- A mapping of the call's own, and what was there is as it was. -/
def WS (w : World) (bb m1 m2 g cap s b p : Nat) (L : List (Int × Int)) (W : World) : Prop := Mg W w.heap.size bb m1 m2 g cap s b p L ∧ Below w.heap.size w W
section
variable {w W W' : World} {bb m1 m2 g cap s b p : Nat} {L L' : List (Int × Int)}
theorem WS.mg (h : WS w bb m1 m2 g cap s b p L W) : Mg W w.heap.size bb m1 m2 g cap s b p L := h.1
theorem WS.bel (h : WS w bb m1 m2 g cap s b p L W) : Below w.heap.size w W := h.2
theorem WS.later (h : WS w bb m1 m2 g cap s b p L W) (hb : Below W.heap.size W W') : WS w bb m1 m2 g cap s b p L W' := ⟨h.1.below hb, h.2.trans (hb.mono h.2.size)⟩
theorem WS.mv (h : WS w bb m1 m2 g cap s b p L W) (hm : Mg W' w.heap.size bb m1 m2 g cap s b p L') (hc : Chg (Ft m1 m2 g) W W') : WS w bb m1 m2 g cap s b p L' W' :=
  ⟨hm, h.2.trans (hc.below h.2.size (fun k hk => h.1.ft_ge hk))⟩
theorem ws_apply (h : WS w bb m1 m2 g cap s b p L W) {v : Value} {xs : List (Int × Int)} (hv : Ent W v xs) (hvo : 0 < xs.length → ∀ k, v.ownBlock = some k → ¬ Ft m1 m2 g k) (hl : xs.length ≤ 4096) (hR : ∀ x ∈ xs, I64 x.1 ∧ I64 x.2) : Calls Try.prog 14 #[.pointer (some ⟨bb, 0, none⟩), v] W fun e w' => e = .returned (.int .i64 (appE s b p L xs)) ∧ WS w bb m1 m2 g cap s b p (appS s b p L L xs) w' :=
  (Apply_any h.1 hv hvo hl hR).mono fun e w' ⟨a1, a2, a3⟩ => ⟨a1, h.mv a2 a3⟩
/-- Entries that were there before the mapping. -/
theorem ws_old (h : WS w bb m1 m2 g cap s b p L W) {v : Value} {xs : List (Int × Int)} (hv : Ent w v xs) (hl : xs.length ≤ 4096) (hR : ∀ x ∈ xs, I64 x.1 ∧ I64 x.2) : Calls Try.prog 14 #[.pointer (some ⟨bb, 0, none⟩), v] W fun e w' => e = .returned (.int .i64 (appE s b p L xs)) ∧ WS w bb m1 m2 g cap s b p (appS s b p L L xs) w' := by
  refine ws_apply h (hv.below h.2) (fun h0 k hk hf => ?_) hl hR
  obtain ⟨A, c, rfl, _, hr⟩ := hv
  obtain ⟨g', o, cs, ty, fr, rfl, hg, _⟩ := hr h0
  simp only [Value.ownBlock, Option.some.injEq] at hk
  subst hk
  have h1 := (Array.getElem?_eq_some_iff.1 hg).1
  have h2 := h.1.ft_ge hf
  omega
theorem ent_one (W : World) (a c : Int) : Ent (W.alloc (.cells #[.int .i64 a, .int .i64 c] 50)) (.slice (some ⟨W.heap.size, 0, none⟩) 1 1) [(a, c)] :=
  ⟨_, 1, rfl, by simp, fun _ => ⟨W.heap.size, 0, _, 50, (0, 0), rfl, heap_alloc_new W _, fun j hj => by
    have : j = 0 := by simp at hj; omega
    subst this; exact ⟨rfl, rfl⟩⟩⟩
theorem ent_two (W : World) (a c d f : Int) : Ent (W.alloc (.cells #[.int .i64 a, .int .i64 c, .int .i64 d, .int .i64 f] 50)) (.slice (some ⟨W.heap.size, 0, none⟩) 2 2) [(a, c), (d, f)] :=
  ⟨_, 2, rfl, by simp, fun _ => ⟨W.heap.size, 0, _, 50, (0, 0), rfl, heap_alloc_new W _, fun j hj => by
    have : j = 0 ∨ j = 1 := by simp at hj; omega
    rcases this with rfl | rfl <;> exact ⟨rfl, rfl⟩⟩⟩
theorem ws_ap1 (h : WS w bb m1 m2 g cap s b p L W) (a c E : Int) (L' : List (Int × Int)) (ha : I64 a ∧ I64 c) (e1 : appE s b p L [(a, c)] = E) (e2 : appS s b p L L [(a, c)] = L') : Calls Try.prog 14 #[.pointer (some ⟨bb, 0, none⟩), .slice (some ⟨W.heap.size, 0, none⟩) 1 1] (W.alloc (.cells #[.int .i64 a, .int .i64 c] 50)) fun e w' => e = .returned (.int .i64 E) ∧ WS w bb m1 m2 g cap s b p L' w' := by
  subst e1 e2
  exact ws_apply (h.later (below_alloc W _)) (ent_one W a c) (fun _ k hk hf => by have := h.1.ft_lt hf; simp [Value.ownBlock] at hk; omega) (by simp) (by simpa using ha)
theorem ws_ap2 (h : WS w bb m1 m2 g cap s b p L W) (a c d f E : Int) (L' : List (Int × Int)) (ha : (I64 a ∧ I64 c) ∧ I64 d ∧ I64 f) (e1 : appE s b p L [(a, c), (d, f)] = E) (e2 : appS s b p L L [(a, c), (d, f)] = L') : Calls Try.prog 14 #[.pointer (some ⟨bb, 0, none⟩), .slice (some ⟨W.heap.size, 0, none⟩) 2 2] (W.alloc (.cells #[.int .i64 a, .int .i64 c, .int .i64 d, .int .i64 f] 50)) fun e w' => e = .returned (.int .i64 E) ∧ WS w bb m1 m2 g cap s b p L' w' := by
  subst e1 e2
  exact ws_apply (h.later (below_alloc W _)) (ent_two W a c d f) (fun _ k hk hf => by have := h.1.ft_lt hf; simp [Value.ownBlock] at hk; omega) (by simp) (by simpa using ha)
theorem ws_at (h : WS w bb m1 m2 g cap s b p L W) (q k : Int) (f : Bool) (hq : I64 q) (e1 : (look L q).getD 0 = k) (e2 : (look L q).isSome = f) : Calls Try.prog 22 #[.pointer (some ⟨bb, 0, none⟩), .int .i64 q] W fun e w' => e = .returned (.tuple #[.int .i64 k, .bool f]) ∧ WS w bb m1 m2 g cap s b p L w' := by
  subst e1 e2
  exact (At_any h.1 hq).mono fun e w' ⟨a1, a2⟩ => ⟨a1, h.later a2⟩
theorem ws_sec (h : WS w bb m1 m2 g cap s b p L W) (q k : Int) (f : Bool) (hq : I64 q) (e1 : (look (flip L) q).getD 0 = k) (e2 : (look (flip L) q).isSome = f) : Calls Try.prog 23 #[.pointer (some ⟨bb, 0, none⟩), .int .i64 q] W fun e w' => e = .returned (.tuple #[.int .i64 k, .bool f]) ∧ WS w bb m1 m2 g cap s b p L w' := by
  subst e1 e2
  exact (Sector_any h.1 hq).mono fun e w' ⟨a1, a2⟩ => ⟨a1, h.later a2⟩
theorem ws_valid (h : WS w bb m1 m2 g cap s b p L W) (q k : Int) (e1 : valid b p L q = k) : Calls Try.prog 24 #[.pointer (some ⟨bb, 0, none⟩), .int .i64 q] W fun e w' => e = .returned (.int .i64 k) ∧ WS w bb m1 m2 g cap s b p L w' := by
  subst e1
  exact (Valid_any h.1 q).mono fun e w' ⟨a1, a2⟩ => ⟨a1, h.later a2⟩
theorem ws_count (h : WS w bb m1 m2 g cap s b p L W) (k : Int) (e1 : (L.length : Int) = k) : Calls Try.prog 25 #[.pointer (some ⟨bb, 0, none⟩)] W fun e w' => e = .returned (.int .i64 k) ∧ WS w bb m1 m2 g cap s b p L w' := by
  subst e1
  exact (Count_any h.1).mono fun e w' ⟨a1, a2⟩ => ⟨a1, h.later a2⟩
end
theorem run_equalIn_func_nil {P : Program} (w : World) (d : Nat) (t : TypeId) {ps rs : Array TypeId} {vr : Bool} (f : Fn) (a b : Array Value) (h : P.underlying t = some (.func ps rs vr)) :
    (Op.equalIn (d + 1) t (.func f a b) .nilFunc).run P w = .ok false w := by
  simp [Op.equalIn, run_underlying h]
theorem run_eql_func_nil {P : Program} (w : World) (t : TypeId) {ps rs : Array TypeId} {vr : Bool} (f : Fn) (a b : Array Value) (h : P.underlying t = some (.func ps rs vr)) :
    (binOp .eql t (.func f a b) .nilFunc).run P w = .ok (.bool false) w := by
  simp only [binOp]
  simp [show Op.equal t (.func f a b) .nilFunc = Op.equalIn (9999 + 1) t (.func f a b) .nilFunc from rfl, run_equalIn_func_nil w 9999 t f a b h]
theorem run_neq_func_nil {P : Program} (w : World) (t : TypeId) {ps rs : Array TypeId} {vr : Bool} (f : Fn) (a b : Array Value) (h : P.underlying t = some (.func ps rs vr)) :
    (binOp .neq t (.func f a b) .nilFunc).run P w = .ok (.bool true) w := by
  simp only [binOp]
  simp [show Op.equal t (.func f a b) .nilFunc = Op.equalIn (9999 + 1) t (.func f a b) .nilFunc from rfl, run_equalIn_func_nil w 9999 t f a b h]
def OkB (w : World) (e : Ending) (w' : World) : Prop := e = .returned (.bool true) ∧ Below w.heap.size w w'
theorem i64d {a : Int} (h : -9223372036854775808 ≤ a ∧ a ≤ 9223372036854775807) : I64 a := h
theorem seq_later {w1 W W' : World} {l : List (Int × Int)} {B : Nat} {v : Value} (h : Bx1 W B 79 v ∧ Ent W v l ∧ ∀ b, v.ownBlock = some b → b < W.heap.size) (hb : Below W.heap.size W W') : Bx1 W' B 79 v ∧ Ent W' v l ∧ ∀ b, v.ownBlock = some b → b < W'.heap.size :=
  ⟨h.1.below hb, h.2.1.below hb, fun b h1 => Nat.lt_of_lt_of_le (h.2.2 b h1) hb.size⟩
set_option maxHeartbeats 16000000 in
theorem works_any (w : World) : Calls Try.prog 12 #[] w (OkB w) := by
  have hF : Fits 4 2 3 [] := ⟨by omega, by omega, by omega, List.Pairwise.nil, by simp, List.Pairwise.nil⟩
  have HN := Lib.hid (show Calls Try.prog 8 #[.int .i64 4, .int .i64 2, .int .i64 3] w fun e w' => ∃ bb m1 m2 g cap, e = .returned (.tuple #[.pointer (some ⟨bb, 0, none⟩), .int .i64 0]) ∧ WS w bb m1 m2 g cap 4 2 3 [] w' from
    (New_ok 4 2 3 w hF).mono fun e w' ⟨bb, m1, m2, g, cap, h1, h2, h3⟩ => ⟨bb, m1, m2, g, cap, h1, h2, h3⟩)
  have hpn := fun W : World => fun f a b => run_neq_func_nil (P := Try.prog) W 41 f a b Try.underlying41
  clear hF
  go_enter Try.func12, Try.ntmps12
  go_wp2_with (first
    | ((go_at_call 8; with_reducible refine HN.out.mono ?_); rintro e W0 ⟨bb, m1, m2, g, cap, rfl, h⟩; have S0 := Lib.hid h; clear h)
    | ((go_at_call 10; with_reducible refine (num_any _ _).mono ?_); rintro e w' ⟨rfl, rfl⟩)
    | ((go_at_call 14; with_reducible refine (ws_ap2 S0.out 2 4 0 1 0 [(0, 1), (2, 4)] (by unfold I64; omega) (by decide) (by decide)).mono ?_); rintro e W1 ⟨rfl, h⟩; have S1 := Lib.hid h; clear h)
    | ((go_at_call 22; with_reducible refine (ws_at S1.out 2 4 true (by unfold I64; omega) (by decide) (by decide)).mono ?_); rintro e W2 ⟨rfl, h⟩; have S2 := Lib.hid h; clear h)
    | ((go_at_call 22; with_reducible refine (ws_at S2.out 1 0 false (by unfold I64; omega) (by decide) (by decide)).mono ?_); rintro e W3 ⟨rfl, h⟩; have S3 := Lib.hid h; clear h)
    | ((go_at_call 23; with_reducible refine (ws_sec S3.out 4 2 true (by unfold I64; omega) (by decide) (by decide)).mono ?_); rintro e W4 ⟨rfl, h⟩; have S4 := Lib.hid h; clear h)
    | ((go_at_call 24; with_reducible refine (ws_valid S4.out 1 1 (by decide)).mono ?_); rintro e W5 ⟨rfl, h⟩; have S5 := Lib.hid h; clear h)
    | ((go_at_call 25; with_reducible refine (ws_count S5.out 2 (by decide)).mono ?_); rintro e W6 ⟨rfl, h⟩; have S6 := Lib.hid h; clear h)
    | ((go_at_call 14; with_reducible refine (ws_ap1 S6.out 1 4 11 [(0, 1), (2, 4)] (by unfold I64; omega) (by decide) (by decide)).mono ?_); rintro e W7 ⟨rfl, h⟩; have S7 := Lib.hid h; clear h)
    | ((go_at_call 14; with_reducible refine (ws_ap2 S7.out 2 5 4 0 3 [(0, 1), (2, 4)] (by unfold I64; omega) (by decide) (by decide)).mono ?_); rintro e W8 ⟨rfl, h⟩; have S8 := Lib.hid h; clear h)
    | ((go_at_call 14; with_reducible refine (ws_ap1 S8.out 2 6 3 [(0, 1), (2, 4)] (by unfold I64; omega) (by decide) (by decide)).mono ?_); rintro e W9 ⟨rfl, h⟩; have S9 := Lib.hid h; clear h)
    | ((go_at_call 22; with_reducible refine (ws_at S9.out 2 4 true (by unfold I64; omega) (by decide) (by decide)).mono ?_); rintro e W10 ⟨rfl, h⟩; have S10 := Lib.hid h; clear h)
    | ((go_at_call 14; with_reducible refine (ws_ap2 S10.out 2 (-1) 1 4 0 [(0, 1), (1, 4)] (by unfold I64; omega) (by decide) (by decide)).mono ?_); rintro e W11 ⟨rfl, h⟩; have S11 := Lib.hid h; clear h)
    | ((go_at_call 17; with_reducible refine (Pages_any S11.out.mg 1).mono ?_); rintro e W12 ⟨B, v, rfl, _, hbx, hen, hvo, hbe⟩; have S12 := Lib.hid (S11.out.later hbe); have HSQ := Lib.hid (show Bx1 W12 B 79 v ∧ Ent W12 v [(4, 1)] ∧ ∀ b, v.ownBlock = some b → b < W12.heap.size from ⟨hbx, hen, fun b hb => (hvo b hb).2⟩); clear hbx hen hvo hbe)
    | ((go_at_call 27; with_reducible refine (Entries_any S12.out.mg).mono ?_); rintro e W13 ⟨v1, rfl, hen1, _, hbe⟩; have S13 := Lib.hid (S12.out.later hbe); have HSQ2 := Lib.hid (seq_later (w1 := w) HSQ.out hbe); obtain ⟨A1, c1, hv1, _⟩ := hen1.form; subst hv1; have HE1 := Lib.hid (show Ent W13 (.slice A1 2 c1) [(0, 1), (1, 4)] from hen1); clear hen1 hbe)
    | ((go_at_call 20; with_reducible refine (same_any (HE1.out.below (below_alloc W13 _)) (ent_two W13 0 1 1 4) (by decide) (by decide)).mono ?_); rintro e W14 ⟨he, hb⟩; have he2 := he.trans (congrArg (fun t => Ending.returned (.bool t)) (show decide ([((0 : Int), (1 : Int)), (1, 4)] = [(0, 1), (1, 4)]) = true by decide)); subst he2; have hbw : Below W13.heap.size W13 W14 := (below_alloc W13 _).trans (hb.mono (by simp)); have S14 := Lib.hid (S13.out.later hbw); have HSQ3 := Lib.hid (seq_later (w1 := w) HSQ2.out hbw); clear hb hbw he)
    | ((go_at_call 21; with_reducible refine (read_any HSQ3.out.1 HSQ3.out.2.1 HSQ3.out.2.2 (by decide) false 9).mono ?_); rintro e W15 ⟨v2, rfl, hen2, _, hbe⟩; rw [show rdl false 9 [((4 : Int), (1 : Int))] = [(1, 4)] by decide] at hen2; have S15 := Lib.hid (S14.out.later hbe); obtain ⟨A2, c2, hv2, _⟩ := hen2.form; subst hv2; have HE2 := Lib.hid (show Ent W15 (.slice A2 1 c2) [(1, 4)] from hen2); clear hen2 hbe)
    | ((go_at_call 20; with_reducible refine (same_any (HE2.out.below (below_alloc W15 _)) (ent_one W15 1 4) (by decide) (by decide)).mono ?_); rintro e W16 ⟨he, hb⟩; have he2 := he.trans (congrArg (fun t => Ending.returned (.bool t)) (show decide ([((1 : Int), (4 : Int))] = [(1, 4)]) = true by decide)); subst he2; have hbw : Below W15.heap.size W15 W16 := (below_alloc W15 _).trans (hb.mono (by simp)); have S16 := Lib.hid (S15.out.later hbw); clear hb hbw he))
  go_ret
  exact ⟨rfl, S16.out.bel⟩
end Go.Proofs.Yteiemegkdnjpgaa
