/- The contracts of same, Entries and read. Conditions stand in each theorem. -/
import Derived.Test.YteiemegkdnjpgaaL
namespace Go.Proofs.Yteiemegkdnjpgaa
open Go.RowKit Go.Shelf
attribute [local go_sem] Oper.semAt_some
set_option linter.unusedVariables false
set_option maxHeartbeats 4000000
set_option maxRecDepth 100000
theorem eqIn50 (n : Nat) (a b c d : Int) (W : World) : (Op.equalIn (n + 1 + 1) 50 (.agg #[.int .i64 a, .int .i64 b]) (.agg #[.int .i64 c, .int .i64 d])).run Try.prog W = .ok (a == c && b == d) W := by
  by_cases h1 : a = c <;> by_cases h2 : b = d <;> simp [Op.equalIn, run_underlying Try.underlying50, run_underlying Try.underlying3, go_sem, h1, h2]
theorem neq50 (a b c d : Int) (W : World) : (binOp .neq 50 (.agg #[.int .i64 a, .int .i64 b]) (.agg #[.int .i64 c, .int .i64 d])).run Try.prog W = .ok (.bool (!(a == c && b == d))) W := by
  rw [run_neq_struct, show (10000 : Nat) = 9998 + 1 + 1 from rfl, eqIn50]
  rfl
theorem below_drewN (w : World) (n : Nat) : Below w.heap.size w (w.drewN n) := ⟨rfl, rfl, rfl, Nat.le_refl _, fun _ _ => rfl⟩
theorem same_any {w : World} {va vb : Value} {a b : List (Int × Int)} (ha : Ent w va a) (hb : Ent w vb b) (hl : a.length ≤ 16777216) (hlb : b.length ≤ 16777216) : Calls Try.prog 20 #[va, vb] w fun e w' => e = .returned (.bool (decide (a = b))) ∧ Below w.heap.size w w' := by
  obtain ⟨Aa, ca, rfl, _⟩ := ha.form
  obtain ⟨Ab, cb, rfl, _⟩ := hb.form
  have HA := Lib.hid ha
  have HB := Lib.hid hb
  have hl2 : (a.length : Int) ≤ 16777216 := by omega
  have hl3 : (b.length : Int) ≤ 16777216 := by omega
  clear ha hb
  by_cases hlen : a.length = b.length
  · have hle : (a.length : Int) = (b.length : Int) := by omega
    have hlb2 : b.length = a.length := hlen.symm
    rw [hlb2] at HB ⊢
    have HLN := Lib.hid hlen
    clear hle hlb2 hlen hl3 hlb
    go_enter Try.func20, Try.ntmps20
    go_wp2
    go_loopw [5] (fun i wr => ∃ k : Nat, k ≤ a.length ∧ i = .int .i64 k ∧ Hid (a.take k = b.take k) ∧ Hid (Below w.heap.size w wr)) (fun i _ => a.length - (RowKit.intOf i).toNat)
    case atStart => exact ⟨0, Nat.zero_le _, rfl, Lib.hid (by simp), Lib.hid (Below.refl _ _)⟩
    case round =>
      obtain ⟨k, hk, rfl, HT, HBE⟩ := hrel
      by_cases hlt : k < a.length
      · have hltb : k < b.length := by rw [← HLN.out]; exact hlt
        obtain ⟨ga, oa, cca, hva, a0, a1⟩ := (HA.out.below HBE.out).at hlt
        obtain ⟨gb, ob, ccb, hvb, b0, b1⟩ := (HB.out.below HBE.out).at hltb
        simp only [Value.slice.injEq] at hva hvb
        obtain ⟨e1, -, -⟩ := hva
        obtain ⟨e2, -, -⟩ := hvb
        subst e1 e2
        have HTS := Lib.hid (fun (h : a[k] = b[k]) => (show a.take (k + 1) = b.take (k + 1) by rw [List.take_succ_eq_append_getElem hlt, List.take_succ_eq_append_getElem hltb, HT.out, h]))
        have HNE := Lib.hid (fun (h : ¬ a[k] = b[k]) => (show ¬ a = b from fun e => h (by subst e; rfl)))
        generalize a[k] = x at *
        generalize b[k] = y at *
        obtain ⟨x1, x2⟩ := x
        obtain ⟨y1, y2⟩ := y
        dsimp only at a0 a1 b0 b1
        have hq := neq50
        by_cases he : x1 = y1 ∧ x2 = y2
        · obtain ⟨rfl, rfl⟩ := he
          have HTT := Lib.hid (HTS.out rfl)
          have hq1 : ∀ W : World, (binOp .neq 50 (.agg #[.int .i64 x1, .int .i64 x2]) (.agg #[.int .i64 x1, .int .i64 x2])).run Try.prog W = .ok (.bool false) W := fun W => by rw [neq50]; simp
          clear hq
          go_wp2
          go_quiet (fail)
          have HB2 := Lib.hid (HBE.out.trans ((below_drewN wr nq).mono HBE.out.size))
          generalize wr.drewN nq = W2 at *
          go_wp2
          go_roundw
          case rel => exact ⟨k + 1, by omega, by go_num, HTT, HB2⟩
          case measure => simp [RowKit.intOf]; omega
        · have hq1 : ∀ W : World, (binOp .neq 50 (.agg #[.int .i64 x1, .int .i64 x2]) (.agg #[.int .i64 y1, .int .i64 y2])).run Try.prog W = .ok (.bool true) W := fun W => by
            rw [neq50]
            by_cases h1 : x1 = y1
            · have h2 : ¬ x2 = y2 := fun h => he ⟨h1, h⟩
              simp [h1, h2]
            · simp [h1]
          have HN2 := Lib.hid (HNE.out (fun h => he (by injection h with p q; exact ⟨p, q⟩)))
          clear hq he
          go_wp2
          go_quiet (fail)
          have HB2 := Lib.hid (HBE.out.trans ((below_drewN wr nq).mono HBE.out.size))
          generalize wr.drewN nq = W2 at *
          go_wp2
          go_ret
          exact ⟨congrArg (fun t => Ending.returned (.bool t)) (decide_eq_false HN2.out).symm, HB2.out⟩
      · have hkl : k = a.length := by omega
        subst hkl
        have ht := HT.out
        rw [List.take_length, HLN.out, List.take_length] at ht
        have HE := Lib.hid ht
        clear ht
        go_wp2
        go_ret
        exact ⟨congrArg (fun t => Ending.returned (.bool t)) (decide_eq_true HE.out).symm, HBE.out⟩
  · have hle : ¬ (a.length : Int) = (b.length : Int) := by omega
    have hd : ((a.length : Int) == (b.length : Int)) = false := by rw [beq_eq_false_iff_ne]; exact hle
    have hd2 : decide (a.length = b.length) = false := decide_eq_false hlen
    have HN := Lib.hid (show ¬ a = b from fun e => hlen (by rw [e]))
    go_enter Try.func20, Try.ntmps20
    go_wp2
    go_ret
    exact ⟨congrArg (fun t => Ending.returned (.bool t)) (decide_eq_false HN.out).symm, Below.refl _ _⟩
theorem wpListIn_append_run {F : Fence} {nF : Nat} {P : Program} {w : World} {ops : Array Oper} {rest : List Oper} {o : Oper} {a : Act} {Q : Exit → Act → World → Prop} (hgd : o.guard = none) (s x : Operand) (t tx : TypeId)
    (ho : o.op = .call { callee := .builtin .append, args := #[s, x], argTypes := #[t, tx] }) (v xv v' : Value) (w' : World) (hs : a.eval s = v) (hx : a.eval x = xv)
    (hr : (Builtin.append_ #[t, tx] o.type #[v, xv]).run P w = .ok v' w') (h : wpListIn F nF P ops Q rest (a.put o.dst v') w') : wpListIn F nF P ops Q (o :: rest) a w := by
  refine wpListIn_plain hgd fun K hK => ?_
  unfold Oper.wpIn
  refine ⟨by simp [Oper.about, ho, resolve, Target.leads, Sem.run_pure], ?_⟩
  rw [Oper.semAt_plain F _ _ (by rw [ho]; intro c hc'; cases hc')]
  simp [execOp, ho, resolve, invoke, builtin, hs, hx, hr, Result.andThen]
  exact hK _ _ h
/-- Block q is a variable that holds the pairs l, in a row that lies from B on. -/
def Bf (B q : Nat) (l : List (Int × Int)) (W : World) : Prop := ∃ v, Bx1 W q 27 v ∧ W.ownsRow B 50 2 v l.length (pv l) ∧ q < B
theorem Bf.below {B q : Nat} {l : List (Int × Int)} {W W' : World} (h : Bf B q l W) (hb : Below W.heap.size W W') (hB : B ≤ W.heap.size) : Bf B q l W' := by
  obtain ⟨v, h1, h2, h3⟩ := h
  exact ⟨v, h1.below hb, h2.kept (row := none) ⟨hb.os, hb.tape, hb.output, hb.size, fun j hj _ => hb.block j hj⟩ (by cases e : v.ownBlock <;> simp), h3⟩
theorem own_bf {β : Type} {B q : Nat} {l : List (Int × Int)} (B' : Nat) : OwnFrom B' (fun (_ : β) W => Bf B q l W) := fun k X Y row hs hg hr => by
  obtain ⟨v, h1, h2, h3⟩ := hs
  refine ⟨v, own_bx B' k X Y row h1 hg hr, h2.kept hg ?_, h3⟩
  cases e : v.ownBlock with
  | none => exact .inl rfl
  | some g =>
    refine .inr fun e2 => ?_
    obtain ⟨o, ho, hc⟩ := (hr g e2.symm).2
    rcases h2.2 with ⟨rfl, _⟩ | ⟨g', cap, cur, rfl, _, hg', _⟩
    · simp [Value.ownBlock] at e
    · simp [Value.ownBlock] at e
      subst e
      rw [hg'] at ho; cases ho; cases hc
/-- One more pair. -/
theorem bf_append {B q : Nat} {l : List (Int × Int)} {W : World} (h : Bf B q l W) (hB : B ≤ W.heap.size) (hl : l.length ≤ 16777216) (a c : Int) (ty : TypeId) : ∃ v v' w2, Bx1 W q 27 v ∧ (∃ A n m, v = .slice A n m) ∧ (∃ A m, v' = .slice A (l.length + 1) m) ∧
    (Builtin.append_ #[27, 27] ty #[v, .slice (some ⟨W.heap.size, 0, none⟩) 1 1]).run Try.prog (W.alloc (.cells #[.int .i64 a, .int .i64 c] 50)) = .ok v' w2 ∧ Bx1 w2 q 27 v ∧ Bf B q (l ++ [(a, c)]) (w2.setCell ⟨q, 0, none⟩ v') ∧ Chg (fun k => k = q ∨ B ≤ k) W (w2.setCell ⟨q, 0, none⟩ v') ∧ Chg (fun k => B ≤ k) W w2 := by
  obtain ⟨i50, hi, hz0, hz1, hz2⟩ := info_parts50
  obtain ⟨v, hv, ho', hqB⟩ := h
  obtain ⟨ga, capa, w2, hrun, hown2, hgrow, hlies, _⟩ := run_append_lies (P := Try.prog) (ty := ty) (W.alloc (.cells #[.int .i64 a, .int .i64 c] 50)) 27 B 50 i50 _ 2 16 Try.underlying27 hi hz0 hz1 hz2 rfl (by decide) v l.length (pv l) (ho'.alloc _) ⟨W.heap.size, 0, none⟩ 1 1 [.int .i64 a, .int .i64 c] rfl (World.news_of_block (heap_alloc_new W _)) (by intro u hu; simp at hu; rcases hu with rfl | rfl <;> rfl) (by omega) (by unfold maxLen; omega) (by omega) (by simp; omega) W.heap.size.succ (by simp)
  have hvb : ∀ k, v.ownBlock = some k → B ≤ k := fun k hk => (ho'.lt k hk).1
  have hlt0 := hv.lt
  have hvo : v.ownBlock ≠ some q := fun e => by have := hvb q e; omega
  have hw2 : Bx1 w2 q 27 v := (hgrow.block _ (by simp; omega) (fun e => hvo e.symm)).trans ((Below.heap_alloc W _ _ hlt0).trans hv)
  have hga : B ≤ ga := (hown2.lt ga rfl).1
  have hgr : Chg (fun k => B ≤ k) W w2 := ((Chg.of_below (below_alloc W _)).also (Chg.of_grown hgrow)).mono fun k hk => hvb k hk
  obtain ⟨A, n, e⟩ := own_form ho'
  refine ⟨v, _, w2, hv, ⟨A, _, n, e⟩, ⟨_, capa, rfl⟩, hrun, hw2, ⟨_, heap_setCell_same w2 q 0 _ 27 _ hw2, ?_, hqB⟩, (hgr.mono fun k hk => .inr hk).setCell (.inl rfl) _, hgr⟩
  rw [pv_snoc, List.length_append]
  refine hown2.kept (row := some q) ⟨rfl, rfl, rfl, by simp [World.setCell], fun j hj hne => Below.heap_setCell w2 _ _ j (fun e => hne (by rw [e]))⟩ (.inr ?_)
  simp [Value.ownBlock]; omega
end Go.Proofs.Yteiemegkdnjpgaa
