/- The contract of Apply's deferred closure. Conditions stand in each theorem. -/
import Derived.Test.YteiemegkdnjpgaaG
namespace Go.Proofs.Yteiemegkdnjpgaa
open Go.RowKit
set_option linter.unusedVariables false
set_option maxHeartbeats 2000000
set_option maxRecDepth 100000
theorem elem27 : Try.prog.elem 27 = 50 := by kernel_rfl
theorem under27e : Try.prog.underlying 27 = some (.slice (Try.prog.elem 27)) := by rw [elem27]; exact Try.underlying27
theorem info50 : (Try.prog.info? 50).map (fun i => (i.zero, i.size, i.bytes)) = some (some (.agg #[.int .i64 0, .int .i64 0]), 2, 16) := by kernel_rfl
theorem info_parts50 : ∃ i, Try.prog.info? 50 = some i ∧ i.zero = some (.agg #[.int .i64 0, .int .i64 0]) ∧ i.size = 2 ∧ i.bytes = 16 := by
  have h := info50
  cases e : Try.prog.info? 50 with
  | none => rw [e] at h; cases h
  | some i => rw [e] at h; simp at h; exact ⟨i, rfl, h.1, h.2.1, h.2.2⟩
theorem cut_run (f n k : Nat) (hk : k ≤ n) (W : World) : (Instr.slice 27 (.slice (some ⟨f, 0, none⟩) n n) none (some (.int .i64 (k : Int))) (some (.int .i64 (k : Int)))).run Try.prog W = .ok (.slice (some ⟨f, 0, none⟩) k k) W := by
  obtain ⟨i0, hi0, hz0, hz1, hz2⟩ := info_parts50
  rw [run_slice_hm (P := Try.prog) (w := W) (t := 27) (a := some ⟨f, 0, none⟩) (len := n) (cap := n) (ht := under27e) .i64 .i64 k k (by omega) (by omega) (by omega)]
  simp [sizeOf, typeInfo, elem27, hi0, hz1, sliced, add_plain]
theorem assert_some (E : Int) (w : World) : (Instr.typeAssert (.iface 24 (.int .i64 E)) 20 24 true).run Try.prog w = .ok (.tuple #[.int .i64 E, .bool true]) w := by kernel_rfl
theorem assert_none (w : World) : (Instr.typeAssert .nilIface 20 24 true).run Try.prog w = .ok (.tuple #[.int .i64 0, .bool false]) w := by kernel_rfl
/-- Block f holds the first entries of what was replaced. -/
def FRow (W : World) (f n : Nat) (fm : List (Int × Int)) : Prop :=
  ∃ cur, W.heap[f]? = some (.cells cur 50 (0, 0)) ∧ cur.size = n * 2 ∧ fm.length ≤ n ∧ ∀ j (hj : j < fm.length), cur[j * 2]? = some (.int .i64 fm[j].1) ∧ cur[j * 2 + 1]? = some (.int .i64 fm[j].2)
theorem FRow.ent {W : World} {f n : Nat} {fm : List (Int × Int)} (h : FRow W f n fm) : Ent W (.slice (some ⟨f, 0, none⟩) fm.length fm.length) fm := by
  obtain ⟨cur, h1, h2, h3, h4⟩ := h
  exact ⟨_, _, rfl, Nat.le_refl _, fun _ => ⟨f, 0, cur, 50, (0, 0), rfl, h1, fun j hj => by rw [Nat.zero_add]; exact h4 j hj⟩⟩
theorem FRow.lt {W : World} {f n : Nat} {fm : List (Int × Int)} (h : FRow W f n fm) : f < W.heap.size := by
  obtain ⟨cur, h1, _⟩ := h
  exact (Array.getElem?_eq_some_iff.1 h1).1
theorem FRow.keep {W W' : World} {f n : Nat} {fm : List (Int × Int)} (h : FRow W f n fm) (hb : W'.heap[f]? = W.heap[f]?) : FRow W' f n fm := by
  obtain ⟨cur, h1, r⟩ := h
  exact ⟨cur, hb.trans h1, r⟩
/-- The variables of Apply: the receiver, the former entries, how many were applied, the error. -/
structure Vs (W : World) (bb q2 q5 q6 q4 f n : Nat) (fm : List (Int × Int)) (E : Int) : Prop where
  v2 : Bx1 W q2 23 (.pointer (some ⟨bb, 0, none⟩))
  v5 : Bx1 W q5 27 (.slice (some ⟨f, 0, none⟩) n n)
  v6 : Bx1 W q6 3 (.int .i64 (fm.length : Int))
  v4 : Bx1 W q4 24 (.int .i64 E)
  row : FRow W f n fm
theorem Vs.keep {W W' : World} {bb q2 q5 q6 q4 f n : Nat} {fm : List (Int × Int)} {E : Int} (h : Vs W bb q2 q5 q6 q4 f n fm E) (hk : ∀ k, k = q2 ∨ k = q5 ∨ k = q6 ∨ k = q4 ∨ k = f → W'.heap[k]? = W.heap[k]?) : Vs W' bb q2 q5 q6 q4 f n fm E :=
  ⟨(hk _ (.inl rfl)).trans h.v2, (hk _ (.inr (.inl rfl))).trans h.v5, (hk _ (.inr (.inr (.inl rfl)))).trans h.v6, (hk _ (.inr (.inr (.inr (.inl rfl))))).trans h.v4, h.row.keep (hk _ (.inr (.inr (.inr (.inr rfl)))))⟩
theorem Vs.lt {W : World} {bb q2 q5 q6 q4 f n : Nat} {fm : List (Int × Int)} {E : Int} (h : Vs W bb q2 q5 q6 q4 f n fm E) {k : Nat} (hk : k = q2 ∨ k = q5 ∨ k = q6 ∨ k = q4 ∨ k = f) : k < W.heap.size := by
  rcases hk with rfl | rfl | rfl | rfl | rfl
  · exact h.v2.lt
  · exact h.v5.lt
  · exact h.v6.lt
  · exact h.v4.lt
  · exact h.row.lt
theorem Vs.below {W W' : World} {bb q2 q5 q6 q4 f n : Nat} {fm : List (Int × Int)} {E : Int} (h : Vs W bb q2 q5 q6 q4 f n fm E) (hb : Below W.heap.size W W') : Vs W' bb q2 q5 q6 q4 f n fm E := h.keep fun k hk => hb.block k (h.lt hk)
theorem Vs.chg {S : Nat → Prop} {W W' : World} {bb q2 q5 q6 q4 f n : Nat} {fm : List (Int × Int)} {E : Int} (h : Vs W bb q2 q5 q6 q4 f n fm E) (hc : Chg S W W') (hS : ∀ k, k = q2 ∨ k = q5 ∨ k = q6 ∨ k = q4 ∨ k = f → ¬ S k) : Vs W' bb q2 q5 q6 q4 f n fm E := h.keep fun k hk => hc.block k (h.lt hk) (hS k hk)
theorem catch_idle (q2 q5 q6 q4 : Nat) (w : World) :
    CallsD Try.prog 32 #[.pointer (some ⟨q2, 0, none⟩), .pointer (some ⟨q5, 0, none⟩), .pointer (some ⟨q6, 0, none⟩), .pointer (some ⟨q4, 0, none⟩)] .returning w fun e u' w' => e = .returned (.tuple #[]) ∧ u' = .returning ∧ w' = w := by
  refine callsD_of_wpS Try.func32 rfl fun c₀ cs hu => ?_
  apply wpS_seq
  apply wpS_region
  simp [wpOpsS, go_sem, recoverD, hu, Try.ntmps32, Exit.thenS, assert_none]
  refine wpS_of_wp ?_
  change Code.wp _ _ _ { tmps := #[.pointer (some ⟨q2, 0, none⟩), .pointer (some ⟨q5, 0, none⟩), .pointer (some ⟨q6, 0, none⟩), .pointer (some ⟨q4, 0, none⟩), .int .i64 0, .bool false, .tuple #[.int .i64 0, .bool false], .nilIface, .tuple #[.int .i64 0, .bool false], .int .i64 0, .bool false, undef, undef, undef, undef, undef, undef, undef, undef], defers := [] } _
  go_wp2
  cases c₀
  simp_all [bodyPostS, results, Try.results32]
theorem frame19 (a b c d x0 x1 x2 x3 x4 x5 x6 : Value) : #[a, b, c, d] ++ ((((((((Array.replicate 15 undef).setIfInBounds 3 x3).setIfInBounds 4 x4).setIfInBounds 2 x2).setIfInBounds 5 x5).setIfInBounds 6 x6).setIfInBounds 0 x0).setIfInBounds 1 x1) =
    #[a, b, c, d, x0, x1, x2, x3, x4, x5, x6, undef, undef, undef, undef, undef, undef, undef, undef] := by kernel_rfl
theorem catch_panicking {w : World} {base bb m1 m2 g cap s b p q2 q5 q6 q4 f n : Nat} {fm : List (Int × Int)} {E0 E : Int} (Ls : Nat → List (Int × Int)) (older : List PanicEntry) (hm : Mg w base bb m1 m2 g cap s b p (Ls fm.length)) (hv : Vs w bb q2 q5 q6 q4 f n fm E0) (hl : n ≤ 4096) (hf : f ≠ g) (hq : ∀ k, Ft m1 m2 g k → k ≠ q4) (hqb : bb ≠ q4)
    (hs : ∀ k (hk : k < fm.length), reqE s b p (Ls (k + 1)) fm[k].1 fm[k].2 = 0 ∧ asg (Ls (k + 1)) fm[k].1 fm[k].2 = Ls k) :
    CallsD Try.prog 32 #[.pointer (some ⟨q2, 0, none⟩), .pointer (some ⟨q5, 0, none⟩), .pointer (some ⟨q6, 0, none⟩), .pointer (some ⟨q4, 0, none⟩)] (.panicking ({ v := .iface 24 (.int .i64 E), recovered := false } :: older)) w fun e u' w' =>
      e = .returned (.tuple #[]) ∧ u' = .panicking ({ v := .iface 24 (.int .i64 E), recovered := true } :: older) ∧ Mg w' base bb m1 m2 g cap s b p (Ls 0) ∧ Bx1 w' q4 24 (.int .i64 E) ∧ Chg (fun k => Ft m1 m2 g k ∨ k = q4) w w' := by
  refine callsD_of_wpS Try.func32 rfl fun c₀ cs hu => ?_
  apply wpS_seq
  apply wpS_region
  simp [wpOpsS, go_sem, recoverD, hu, Try.ntmps32, Exit.thenS, assert_some]
  have HM := Lib.hid hm
  have HV := Lib.hid hv
  have HS := Lib.hid hs
  have hln : fm.length ≤ n := by obtain ⟨cur, _, _, h, _⟩ := hv.row; exact h
  have hcut := cut_run f n fm.length hln
  have hne := gw_ne w
  have k2 := fun r : Gw w => (HV.out.below r.h).v2.cell
  have k5 := fun r : Gw w => (HV.out.below r.h).v5.cell
  have k6 := fun r : Gw w => (HV.out.below r.h).v6.cell
  have HLN := Lib.hid hln
  clear hm hv hs hln
  refine wpS_of_wp ?_
  rw [frame19]
  go_wp2
  refine wp_region_gw_tail 5 (by kernel_rfl) (by kernel_rfl) ?_
  simp only [List.take_succ_cons, List.take_zero, List.drop_succ_cons, List.drop_zero]
  repeat (go_big_quiet_step (fail))
  refine wpQuiet_nil ?_
  rintro w6 ⟨⟨_, hb6⟩, rfl⟩
  have HB6 := Lib.hid hb6
  have HV6 := Lib.hid (HV.out.below hb6)
  have HR := Lib.hid (restore_any Ls (HM.out.below hb6) (Nat.le_trans HLN.out hl) (HV.out.below hb6).row.ent (fun k hk => by simp [Value.ownBlock] at hk; omega) HS.out)
  clear hb6 hne k2 k5 k6 hcut
  go_wp2_with ((go_at_call 33; with_reducible refine HR.out.mono ?_); rintro e w7 ⟨rfl, hm7, hc7⟩; have HM7 := Lib.hid hm7; have HC7 := Lib.hid hc7; have b4 := HV6.out.v4.chg hc7 (fun h => hq _ h rfl); have HB4 := Lib.hid b4; have c4 := b4.cell; have f4 := b4.free; clear hm7 hc7 b4)
  have hch : Chg (fun k => Ft m1 m2 g k ∨ k = q4) w (w7.setCell ⟨q4, 0, none⟩ (.int .i64 E)) := (((Chg.of_below (S := fun k => Ft m1 m2 g k ∨ k = q4) HB6.out).also (HC7.out.mono fun k h => .inl h))).setCell (.inr rfl) _
  have hk : ∀ k, k ≠ q4 → (w7.setCell ⟨q4, 0, none⟩ (.int .i64 E)).heap[k]? = w7.heap[k]? := fun k h => Below.heap_setCell w7 _ _ k h
  have hmf : Mg (w7.setCell ⟨q4, 0, none⟩ (.int .i64 E)) base bb m1 m2 g cap s b p (Ls 0) := HM7.out.keep (hk _ hqb) fun k h => hk k (hq k h)
  have hbx : Bx1 (w7.setCell ⟨q4, 0, none⟩ (.int .i64 E)) q4 24 (.int .i64 E) := heap_setCell_same w7 q4 0 _ 24 _ HB4.out
  generalize w7.setCell ⟨q4, 0, none⟩ (.int .i64 E) = W at *
  exact ⟨rfl, _, rfl, _, by simp [results, Try.results32, go_sem], rfl, rfl, hmf, hbx, hch⟩
end Go.Proofs.Yteiemegkdnjpgaa
