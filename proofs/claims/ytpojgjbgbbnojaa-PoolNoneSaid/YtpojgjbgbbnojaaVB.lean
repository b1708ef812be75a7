/- The iterator that Blocks returns. Conditions stand in each theorem. -/
import Derived.Test.YtpojgjbgbbnojaaVA
namespace Go.Proofs.Ytpojgjbgbbnojaa
open Go.RowKit Go.Shelf
attribute [local go_sem] Oper.semAt_some
set_option linter.unusedVariables false
set_option maxHeartbeats 4000000
set_option maxRecDepth 100000
/-- The blocks in a state, with their numbers. -/
def fl (l : List Blk) (s : Int) : List (Nat × Blk) := (enum l).filter fun p => decide (p.2.st = s)
def cn (l : List Blk) (s : Int) (k : Nat) : Nat := (((enum l).take k).filter fun p => decide (p.2.st = s)).length
theorem cn_zero (l : List Blk) (s : Int) : cn l s 0 = 0 := by simp [cn]
theorem cn_all (l : List Blk) (s : Int) : cn l s (enum l).length = (fl l s).length := by simp [cn, fl]
theorem take_enum {l : List Blk} {k : Nat} (hk : k < l.length) : (enum l).take (k + 1) = (enum l).take k ++ [(k, l[k])] := by
  rw [List.take_succ_eq_append_getElem (by rw [enum_length]; exact hk), enum_at hk]
theorem cn_no {l : List Blk} {s : Int} {k : Nat} (hk : k < l.length) (h : ¬ l[k].st = s) : cn l s (k + 1) = cn l s k := by
  unfold cn
  rw [take_enum hk, List.filter_append]
  simp [h]
theorem cn_yes {l : List Blk} {s : Int} {k : Nat} (hk : k < l.length) (h : l[k].st = s) : cn l s (k + 1) = cn l s k + 1 ∧ ∃ hc : cn l s k < (fl l s).length, (fl l s)[cn l s k] = (k, l[k]) := by
  have hf : fl l s = ((enum l).take k).filter (fun p => decide (p.2.st = s)) ++ ((k, l[k]) :: ((enum l).drop (k + 1)).filter fun p => decide (p.2.st = s)) := by
    unfold fl
    conv => lhs; rw [← List.take_append_drop (k + 1) (enum l), List.filter_append, take_enum hk, List.filter_append]
    simp [h]
  refine ⟨?_, ?_⟩
  · unfold cn
    rw [take_enum hk, List.filter_append]
    simp [h]
  · have hc : cn l s k < (fl l s).length := by rw [hf]; unfold cn; simp
    refine ⟨hc, ?_⟩
    have : (fl l s)[cn l s k]? = some (k, l[k]) := by
      rw [hf]
      unfold cn
      rw [List.getElem?_append_right (Nat.le_refl _), Nat.sub_self]
      rfl
    rw [List.getElem?_eq_getElem hc] at this
    exact Option.some.inj this
theorem cn_le (l : List Blk) (s : Int) (k : Nat) : cn l s k ≤ (fl l s).length := by
  unfold cn fl
  exact ((List.take_sublist k _).filter _).length_le
abbrev fe (x : Nat × Blk) : Array Value := #[.int .i64 (x.1 : Int), .int .i64 x.2.er]
/-- What a round of the inner loop starts with. -/
def InAx (S : Nat → Prop) (l0 B5 B3 q3 : Nat) (sl fv : Value) (l : List Blk) (k : Nat) (a' : Act) (W : World) : Prop :=
  ∃ (hk : k < l.length) (q : Nat), ¬ S q ∧ W.heap[q]? = some (.cells #[.int .i64 l[k].er, .int .i64 l[k].st] 69 (0, 0)) ∧
    a' = { tmps := #[.func (.yield l0) #[] #[], .pointer (some ⟨B5, 0, none⟩), .pointer (some ⟨B3, 0, none⟩), .pointer (some ⟨q3, 0, none⟩), .int .i64 (k : Int), .pointer (some ⟨q, 0, none⟩), sl, fv, .int .i64 (k : Int), .agg #[.int .i64 l[k].er, .int .i64 l[k].st], undef, undef, undef, undef, undef, undef, undef, undef, undef, undef, undef, undef, undef], defers := [] }
theorem own_inAx (S : Nat → Prop) (l0 B5 B3 q3 : Nat) (sl fv : Value) (l : List Blk) (k : Nat) (a' : Act) (B : Nat) : OwnFrom B (fun (_ : Unit) W => InAx S l0 B5 B3 q3 sl fv l k a' W) := fun _ X Y row hs hg hr => by
  obtain ⟨hk, q, hq, h1, h2⟩ := hs
  refine ⟨hk, q, hq, (hg.block q (Array.getElem?_eq_some_iff.1 h1).1 (fun e => ?_)).trans h1, h2⟩
  obtain ⟨o, ho, hc⟩ := (hr q e.symm).2
  rw [h1] at ho; cases ho; cases hc
theorem blocks1_gen (S : Nat → Prop) (B' l0 B5 B3 : Nat) (s : Int) (sl : Value) (l : List Blk) (J Jx : Nat → World → Prop) (W0 : World) (hB' : B' ≤ W0.heap.size) (hJ : OwnFrom W0.heap.size J) (hJx : OwnFrom W0.heap.size Jx) (hS : ∀ k, S k → k < W0.heap.size ∧ k ≠ B3) (hsl : ∃ A n c, sl = .slice A n c)
    (hY : ∀ k (hk : k < (fl l s).length) W1, J k W1 → Ynd Try.prog l0 (fe (fl l s)[k]) W1 fun e W' => (e = .returned (.bool true) ∧ J (k + 1) W' ∧ Kd S B' W1 W') ∨ (e = .returned (.bool false) ∧ Jx (k + 1) W' ∧ KeepsFrom B' W1 W'))
    (hc5 : Bx1 W0 B5 48 sl) (hc3 : Bx1 W0 B3 44 (.int .i64 s)) (h0 : J 0 W0)
    (hin : ∀ W B B', Below W0.heap.size W0 W → Bx1 W B 48 sl → Yields Try.prog 56 #[.pointer (some ⟨B, 0, none⟩)] ev S B' (enum l) W) :
    CallsIn Fence.wide 9 Try.prog 39 #[.func (.yield l0) #[] #[], .pointer (some ⟨B5, 0, none⟩), .pointer (some ⟨B3, 0, none⟩)] W0 fun e W' => (∃ v, e = .returned v) ∧ (J (fl l s).length W' ∨ ∃ k, k ≤ (fl l s).length ∧ Jx k W') := by
  obtain ⟨A, n, c, rfl⟩ := hsl
  have b1 := below_alloc W0 (.cells #[.func (.yield l0) #[] #[]] 79)
  have b2 : Below W0.heap.size W0 ((W0.alloc (.cells #[.func (.yield l0) #[] #[]] 79)).alloc (.cells #[.slice A n c] 48)) := b1.alloc (by simp) _
  have x1 : Bx1 ((W0.alloc (.cells #[.func (.yield l0) #[] #[]] 79)).alloc (.cells #[.slice A n c] 48)) W0.heap.size 79 (.func (.yield l0) #[] #[]) := (Bx1.new W0 79 _).below (below_alloc _ _)
  have x2 : Bx1 ((W0.alloc (.cells #[.func (.yield l0) #[] #[]] 79)).alloc (.cells #[.slice A n c] 48)) (W0.heap.size + 1) 48 (.slice A n c) := by
    have := Bx1.new (W0.alloc (.cells #[.func (.yield l0) #[] #[]] 79)) 48 (.slice A n c)
    rwa [World.size_alloc] at this
  have x3 : Bx1 ((W0.alloc (.cells #[.func (.yield l0) #[] #[]] 79)).alloc (.cells #[.slice A n c] 48)) B3 44 (.int .i64 s) := hc3.below b2
  have hse : ((W0.alloc (.cells #[.func (.yield l0) #[] #[]] 79)).alloc (.cells #[.slice A n c] 48)).heap.size = W0.heap.size + 2 := by simp
  have hj0 : J 0 ((W0.alloc (.cells #[.func (.yield l0) #[] #[]] 79)).alloc (.cells #[.slice A n c] 48)) := hJ.alloc _ (hJ.alloc _ h0)
  have hyi := fun B' => hin _ _ B' b2 x2
  have c5 := ((hc5.below b1)).cell
  have HAll := Lib.hid (All_any A n c (W0.alloc (.cells #[.func (.yield l0) #[] #[]] 79)))
  have HYI := Lib.hid hyi
  have HJ := Lib.hid hJ
  have HJX := Lib.hid hJx
  have HY := Lib.hid hY
  have HS := Lib.hid hS
  have HX1 := Lib.hid x1
  have HX3 := Lib.hid x3
  have HJ0 := Lib.hid hj0
  have HSE := Lib.hid hse
  clear hin hyi hJ hJx hY hS x1 x2 x3 hj0 hse b1 b2 hc5 hc3 h0
  have f40 : Fence.wide.fn 40 := trivial
  refine callsIn_of_wp_marks Try.func39 rfl trivial ?_ rfl
  simp only [Try.ntmps39, List.size_toArray, List.length_cons, List.length_nil, Nat.reduceAdd, Nat.reduceSub, Array.replicate_succ, Array.replicate_zero, List.push_toArray, List.append_toArray, List.nil_append, List.cons_append]
  gi_wp2
  refine wpIn_wide.2 (wp_scope_straight ((wpIn_wide (n := 9)).1 (wpIn_seq (wpIn_label ?_))))
  dsimp only [Exit.then]
  gi_wp2_with (gi_at_call 40; refine (callsIn_wide.2 HAll.out).mono ?_; rintro e w' ⟨rfl, rfl⟩)
  generalize (W0.alloc (.cells #[.func (.yield l0) #[] #[]] 79)).alloc (.cells #[.slice A n c] 48) = E at *
  have hmono : ∀ {I : Nat → World → Prop}, OwnFrom W0.heap.size I → OwnFrom E.heap.size I := fun h k X Y row hs hg hr => h k X Y row hs hg (fun r e => ⟨by have := (hr r e).1; have := HSE.out; omega, (hr r e).2⟩)
  have ex0 : ∀ {W : World} {D : Nat}, E.heap.size ≤ D → W.heap[D]? = some (.deferred (some [])) → (J (fl l s).length W ∨ ∃ k, k ≤ (fl l s).length ∧ Jx k W) →
      (J (fl l s).length (W.putObj D (.deferred none)) ∨ ∃ k, k ≤ (fl l s).length ∧ Jx k (W.putObj D (.deferred none))) := fun hD hd hj => by
    have hD2 : W0.heap.size ≤ _ := Nat.le_trans (by have := HSE.out; omega) hD
    rcases hj with h | ⟨k, hk, h⟩
    · exact .inl (HJ.out.putObj _ h hD2 hd rfl)
    · exact .inr ⟨k, hk, HJX.out.putObj _ h hD2 hd rfl⟩
  refine range_list (gf := 56) rfl (enters_of Try.func56 (by kernel_rfl) rfl) (HYI.out _) (Below.refl _ _) (fun _ => rfl)
    (fun k W => J (cn l s k) W ∧ Bx1 W W0.heap.size 79 (.func (.yield l0) #[] #[]) ∧ Bx1 W B3 44 (.int .i64 s)) (fun c k W => c = .exit 0 ∧ ∃ j, j ≤ (fl l s).length ∧ Jx j W)
    (fun k X Y row hs hg hr => ⟨hmono HJ.out _ X Y row hs.1 hg hr, own_bx _ () X Y row hs.2.1 hg hr, own_bx _ () X Y row hs.2.2 hg hr⟩)
    (fun c k X Y row hs hg hr => by obtain ⟨h1, j, h2, h3⟩ := hs; exact ⟨h1, j, h2, hmono HJX.out _ X Y row h3 hg hr⟩)
    ⟨by rw [cn_zero]; exact HJ0.out, HX1.out, HX3.out⟩
    (InAx S l0 B5 B3 W0.heap.size (.slice A n c) (.func (.func 56) #[] #[.pointer (some ⟨W0.heap.size + 1, 0, none⟩)]) l) (fun k a' => own_inAx _ _ _ _ _ _ _ _ _ _ _) ?assign ?body ?done ?stop
  case assign =>
    intro l' k hk W K ⟨hj, h1, h3⟩ hK
    rw [enum_length] at hk
    rw [enum_at hk]
    have HK := Lib.hid hK
    have hb := below_alloc W (.cells #[.int .i64 l[k].er, .int .i64 l[k].st] 69)
    have hfin := hK _ (W.alloc (.cells #[.int .i64 l[k].er, .int .i64 l[k].st] 69)) ((KeepsOthers.alloc _ _).from _) (Kc.of_below hb) ⟨hmono HJ.out |>.alloc _ hj, h1.below hb, h3.below hb⟩ ⟨hk, W.heap.size, fun h => by have := (HS.out _ h).1; have := h1.lt; omega, heap_alloc_new W _, rfl⟩
    have HF := Lib.hid hfin
    clear hK hfin HK
    generalize l[k] = x at *
    gi_wp2
    exact HF.out
  case body =>
    rintro l' k hk a' W hl ⟨hj, h1, h3⟩ ⟨hk', q, hq, hcells, rfl⟩
    have q0 := cell_of_row W q 0 _ 69 (0, 0) hcells
    have q1 := cell_of_row W q 1 _ 69 (0, 0) hcells
    have y1 := h1.cell
    have y3 := h3.cell
    by_cases hst : l[k].st = s
    · obtain ⟨e1, hc, e2⟩ := cn_yes hk' hst
      have hY1 := HY.out _ hc W hj
      rw [e2] at hY1
      obtain ⟨fn, tmps, assign, body, hy, hR⟩ := hY1
      rw [e1]
      have HRR := Lib.hid hR
      have HB1 := Lib.hid h1
      have HB3 := Lib.hid h3
      have hd : decide (l[k].st = s) = true := decide_eq_true hst
      have hd2 : (l[k].st == s) = true := by simpa using hst
      clear hj hR h1 h3 e2 hcells
      generalize l[k] = x at *
      gi_wp2
      refine (show RoundIn (Fence.wide.inRound l') 8 Try.prog l0 fn tmps assign body W _ from RoundIn.deep 8 HRR.out).mono ?_
      rintro e W3 (⟨rfl, hJ3, hk3⟩ | ⟨rfl, hJx3, hkx⟩)
      · have HF := Lib.hid (show KeepsFrom E.heap.size W W3 ∧ Kc S W W3 ∧ J (cn l s k + 1) W3 ∧ Bx1 W3 W0.heap.size 79 (.func (.yield l0) #[] #[]) ∧ Bx1 W3 B3 44 (.int .i64 s) from
          ⟨kf_base hk3.2 (by have := HSE.out; omega), hk3.1, hJ3, HB1.out.kc hk3.1 (fun h => by have := (HS.out _ h).1; omega), HB3.out.kc hk3.1 (fun h => (HS.out _ h).2 rfl)⟩)
        clear hJ3 hk3
        gi_wp2
        exact HF.out
      · have HF := Lib.hid (show KeepsFrom E.heap.size W W3 from kf_base hkx (by have := HSE.out; omega))
        have HJ3 := Lib.hid hJx3
        clear hJx3
        gi_wp2
        exact ⟨HF.out, rfl, _, hc, HJ3.out⟩
    · have e1 := cn_no hk' hst
      rw [e1]
      have HF := Lib.hid (show KeepsFrom E.heap.size W W ∧ Kc S W W ∧ J (cn l s k) W ∧ Bx1 W W0.heap.size 79 (.func (.yield l0) #[] #[]) ∧ Bx1 W B3 44 (.int .i64 s) from ⟨KeepsFrom.refl _ _, Kc.refl _ _, hj, h1, h3⟩)
      have hd : decide (l[k].st = s) = false := decide_eq_false hst
      have hd2 : (l[k].st == s) = false := by simpa using hst
      clear hj h1 h3 hcells e1
      generalize l[k] = x at *
      gi_wp2
      refine ⟨fun _ h => (by cases h), ?_⟩
      gi_wp2
      exact HF.out
  case done =>
    intro D W hD ⟨hj, _⟩ hd
    rw [cn_all] at hj
    have HE := Lib.hid (ex0 hD hd (.inl hj))
    gi_wp2
    refine ⟨by simp, .inl ⟨_, _, rfl, run_takeDeferred hd, ?_⟩⟩
    exact ⟨_, results_none rfl _ _ _, ⟨_, rfl⟩, HE.out⟩
  case stop =>
    rintro D c k W hD hk ⟨rfl, j, hj, hjx⟩ hd
    have HE := Lib.hid (ex0 hD hd (.inr ⟨j, hj, hjx⟩))
    gi_wp2
    refine ⟨by simp, .inl ⟨_, _, rfl, run_takeDeferred hd, ?_⟩⟩
    exact ⟨_, results_none rfl _ _ _, ⟨_, rfl⟩, HE.out⟩
/-- The iterator of Blocks yields the blocks in a state. -/
theorem blocks_yields (S : Nat → Prop) (B' B5 B3 g cap : Nat) (s : Int) (l : List Blk) (w : World) (hl : l.length ≤ 4096) (hgS : ¬ S g) (hS : ∀ k, S k → k < w.heap.size ∧ k ≠ B3) (hc5 : Bx1 w B5 48 (.slice (some ⟨g, 0, none⟩) l.length cap)) (hc3 : Bx1 w B3 44 (.int .i64 s)) (hr : Row w g cap l) :
    Yields Try.prog 39 #[.pointer (some ⟨B5, 0, none⟩), .pointer (some ⟨B3, 0, none⟩)] fe S B' (fl l s) w := fun l0 J Jx W hW hB' hJ hJx hY h0 =>
  blocks1_gen S B' l0 B5 B3 s _ l J Jx W hB' hJ hJx (fun k hk => ⟨Nat.lt_of_lt_of_le (hS k hk).1 hW.size, (hS k hk).2⟩) ⟨_, _, _, rfl⟩ hY (hc5.below hW) (hc3.below hW) h0
    (fun W2 B B2 hb hc => all1_yields S B2 B g cap l W2 hl hgS hc ((hr.below hW).below hb))
theorem blocks_none (S : Nat → Prop) (B' B5 B3 : Nat) (s : Int) (w : World) (hS : ∀ k, S k → k < w.heap.size ∧ k ≠ B3) (hc5 : Bx1 w B5 48 (.slice none 0 0)) (hc3 : Bx1 w B3 44 (.int .i64 s)) :
    Yields Try.prog 39 #[.pointer (some ⟨B5, 0, none⟩), .pointer (some ⟨B3, 0, none⟩)] fe S B' (fl [] s) w := fun l0 J Jx W hW hB' hJ hJx hY h0 =>
  blocks1_gen S B' l0 B5 B3 s _ [] J Jx W hB' hJ hJx (fun k hk => ⟨Nat.lt_of_lt_of_le (hS k hk).1 hW.size, (hS k hk).2⟩) ⟨_, _, _, rfl⟩ hY (hc5.below hW) (hc3.below hW) h0
    (fun W2 B B2 hb hc => all1_nil S B2 B W2 hc)
/-- What Blocks leaves: an iterator that yields the blocks in a state. -/
def BlP (w : World) (l : List Blk) (s : Int) (e : Ending) (w' : World) : Prop :=
  ∃ B5 B3, e = .returned (.func (.func 39) #[] #[.pointer (some ⟨B5, 0, none⟩), .pointer (some ⟨B3, 0, none⟩)]) ∧ Below w.heap.size w w' ∧ ∀ S B' W, Below w'.heap.size w' W → (∀ k, S k → k < w.heap.size ∨ (w'.heap.size ≤ k ∧ k < W.heap.size)) → Yields Try.prog 39 #[.pointer (some ⟨B5, 0, none⟩), .pointer (some ⟨B3, 0, none⟩)] fe S B' (fl l s) W
theorem Blocks_any {w : World} {base b g cap : Nat} {l : List Blk} (h : Pl w base b g cap l) (s : Int) : Calls Try.prog 14 #[.pointer (some ⟨b, 0, none⟩), .int .i64 s] w (BlP w l s) := by
  have b0 := below_alloc w (.cells #[.int .i64 s] 44)
  have x0 := Bx1.new w 44 (.int .i64 s)
  have HP := Lib.hid (h.below b0)
  have HC := Lib.hid (Clone_any (h.below b0).row h.fit.pos h.fit.len)
  have HL := Lib.hid h.fit.len
  have HB0 := Lib.hid b0
  have HX0 := Lib.hid x0
  clear h b0 x0
  refine (callsIn_wide (n := 9)).1 ?_
  have f38 : Fence.wide.fn 38 := trivial
  have f37 : Fence.wide.fn 37 := trivial
  refine callsIn_of_wp_marks Try.func14 rfl trivial ?_ rfl
  simp only [Try.ntmps14, List.size_toArray, List.length_cons, List.length_nil, Nat.reduceAdd, Nat.reduceSub, Array.replicate_succ, Array.replicate_zero, List.push_toArray, List.append_toArray, List.nil_append, List.cons_append]
  gi_wp2_with (first
    | (gi_at_call 38; refine (callsIn_wide.2 (all_any HP.out)).mono ?_; rintro e w' ⟨rfl, rfl⟩)
    | (gi_at_call 37; refine (callsIn_wide.2 HC.out).mono ?_; rintro e w2 ⟨g', cap', rfl, hg', hrow, hb2⟩; have HR2 := Lib.hid hrow; have HG2 := Lib.hid hg'; have HB2 := Lib.hid hb2; clear hrow hg' hb2))
  refine ⟨_, results_tmp rfl _ _ _, ?_⟩
  have hsz : (w.alloc (.cells #[.int .i64 s] 44)).heap.size = w.heap.size + 1 := by simp
  have hg := HG2.out
  have hs2 := HB2.out.size
  have b3 : Below w.heap.size w (w2.alloc (.cells #[.slice (some ⟨g', 0, none⟩) l.length cap'] 48)) := (HB0.out.trans (HB2.out.mono (by omega))).alloc (by omega) _
  have hgl := HR2.out.lt
  refine ⟨_, _, rfl, b3, fun S B' W hW hS => blocks_yields S B' _ _ g' cap' s l W HL.out (fun hk => ?_) (fun k hk => ⟨?_, ?_⟩) ((Bx1.new w2 48 _).below hW) (((HX0.out.below HB2.out).below (below_alloc _ _)).below hW) ((HR2.out.below (below_alloc _ _)).below hW)⟩
  · have := hS _ hk; simp at this; omega
  · have := hS _ hk; have := hW.size; simp at *; omega
  · have := hS _ hk; simp at this; omega
end Go.Proofs.Ytpojgjbgbbnojaa
