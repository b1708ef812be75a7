/- The iterator that All and Pages return. Conditions stand in each theorem. -/
import Derived.Test.YteiemegkdnjpgaaK
namespace Go.Proofs.Yteiemegkdnjpgaa
open Go.RowKit Go.Shelf
attribute [local go_sem] Oper.semAt_some
set_option linter.unusedVariables false
set_option maxHeartbeats 2000000
set_option maxRecDepth 100000
abbrev fe (x : Int × Int) : Array Value := #[.int .i64 x.1, .int .i64 x.2]
theorem seq_in (S : Nat → Prop) (B' l0 B : Nat) (v : Value) (l : List (Int × Int)) (hl : l.length ≤ 16777216) (hgS : ∀ b, v.ownBlock = some b → ¬ S b) (J Jx : Nat → World → Prop) (W0 : World) (hJ : OwnFrom W0.heap.size J)
    (hY : ∀ k (hk : k < l.length) W1, J k W1 → Ynd Try.prog l0 (fe l[k]) W1 fun e W' => (e = .returned (.bool true) ∧ J (k + 1) W' ∧ Kd S B' W1 W') ∨ (e = .returned (.bool false) ∧ Jx (k + 1) W' ∧ KeepsFrom B' W1 W'))
    (hc : Bx1 W0 B 79 v) (hr : Ent W0 v l) (h0 : J 0 W0) :
    CallsIn Fence.wide 9 Try.prog 50 #[.func (.yield l0) #[] #[], .pointer (some ⟨B, 0, none⟩)] W0 fun e W' => (∃ u, e = .returned u) ∧ (J l.length W' ∨ ∃ k, k ≤ l.length ∧ Jx k W') := by
  have H0 := Lib.hid h0
  have HR := Lib.hid hr
  have HY := Lib.hid hY
  have HJ := Lib.hid hJ
  have k0 := hc.cell
  obtain ⟨A, c, hv, _⟩ := hr.form
  rw [hv] at k0
  have hl2 : (l.length : Int) ≤ 16777216 := by omega
  subst hv
  clear h0 hr hY hJ hc
  refine callsIn_of_wp Try.func50 rfl trivial ?_ rfl
  simp only [Try.ntmps50, List.size_toArray, List.length_cons, List.length_nil, Nat.reduceAdd, Nat.reduceSub, Array.replicate_succ, Array.replicate_zero, List.push_toArray, List.append_toArray, List.nil_append, List.cons_append]
  gi_wp2
  refine wpIn_wide.2 (wp_scope_straight ((wpIn_wide (n := 9)).1 (wpIn_seq (wpIn_label ?_))))
  dsimp only [Exit.then]
  gi_wp2
  gi_loopw [7] (fun i wr => ∃ k : Nat, k ≤ l.length ∧ i = .int .i64 k ∧ Hid (J k wr) ∧ Hid (Ent wr (.slice A l.length c) l)) (fun i _ => l.length - (RowKit.intOf i).toNat)
  case atStart => exact ⟨0, Nat.zero_le _, rfl, H0, HR⟩
  case round =>
    obtain ⟨k, hk, rfl, HJk, HRk⟩ := hrel
    by_cases hlt : k < l.length
    · obtain ⟨gx, o, cc, hvg, c0, c1⟩ := HRk.out.at hlt
      simp only [Value.slice.injEq] at hvg
      obtain ⟨hA, -, -⟩ := hvg
      subst hA
      have hJ2 := HJ.out.alloc (.cells #[.int .i64 l[k].1, .int .i64 l[k].2] 80) HJk.out
      obtain ⟨fn, tmps, assign, body, hy, hR⟩ := HY.out k hlt _ hJ2
      have HR2 := Lib.hid (HRk.out.below (below_alloc wr (.cells #[.int .i64 l[k].1, .int .i64 l[k].2] 80)))
      have HRR := Lib.hid hR
      clear hR hJ2
      dsimp only [fe] at hy
      generalize l[k] = x at *
      gi_wp2
      refine (RoundIn.deep 8 HRR.out).mono ?_
      rintro e W3 (⟨rfl, hJ3, hk3⟩ | ⟨rfl, hJx3, hkx⟩)
      · have HJ3 := Lib.hid hJ3
        have HR3 := Lib.hid (HR2.out.kc hk3.1 hgS)
        clear hJ3 hk3
        gi_wp2
        go_roundw
        case rel => exact ⟨k + 1, by omega, by go_num, HJ3, HR3⟩
        case measure => simp [RowKit.intOf]; omega
      · have HJ3 := Lib.hid hJx3
        clear hJx3
        gi_wp2
        dsimp only [Exit.noGoto]
        go_end0
        exact ⟨⟨_, rfl⟩, .inr ⟨k + 1, by omega, HJ3.out⟩⟩
    · have hkl : k = l.length := by omega
      subst hkl
      gi_wp2
      dsimp only [Exit.noGoto]
      go_end0
      exact ⟨⟨_, rfl⟩, .inl HJk.out⟩
theorem seq_yields (S : Nat → Prop) (B' B : Nat) (v : Value) (l : List (Int × Int)) (w : World) (hl : l.length ≤ 16777216) (hgS : ∀ b, v.ownBlock = some b → ¬ S b) (hc : Bx1 w B 79 v) (hr : Ent w v l) :
    Yields Try.prog 50 #[.pointer (some ⟨B, 0, none⟩)] fe S B' l w := fun l0 J Jx W hW hB' hJ hJx hY h0 =>
  seq_in S B' l0 B v l hl hgS J Jx W hJ hY (hc.below hW) (hr.below hW) h0
end Go.Proofs.Yteiemegkdnjpgaa
