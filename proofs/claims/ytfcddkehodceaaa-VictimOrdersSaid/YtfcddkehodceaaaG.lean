/- Order of package victim: the iterator over the useful candidates by preference. Conditions stand in each theorem. -/
import Derived.Test.YtfcddkehodceaaaV
namespace Go.Proofs.Ytfcddkehodceaaa
open Go.RowKit Go.Shelf
attribute [local go_sem] Oper.semAt_some
set_option linter.unusedVariables false
set_option maxHeartbeats 4000000
set_option maxRecDepth 100000
theorem rankR_use {l : List Cd} : ∀ r ∈ rankR l, r.c.use := by
  intro r hr
  unfold rankR at hr
  by_cases h : ∀ c ∈ l, c.ok
  · rw [if_pos h] at hr
    obtain ⟨h1, h2⟩ := List.mem_filter.1 (show r ∈ (rkL l |>.take _).filter _ from hr)
    have h3 := List.mem_of_mem_take h1
    obtain ⟨i, hi, rfl⟩ := List.getElem_of_mem h3
    rw [rkL_length] at hi
    have e := rkL_at l i hi
    refine ⟨?_, of_decide_eq_true h2⟩
    rw [e]
    exact h _ (List.getElem_mem hi)
  · rw [if_neg h] at hr; cases hr
theorem rankR_place {l : List Cd} : (rankR l).Pairwise fun x y => x.pl < y.pl := by
  unfold rankR
  split
  · unfold usL useK
    refine List.Pairwise.filter _ ?_
    rw [List.take_length, List.pairwise_iff_getElem]
    intro i j hi hj hij
    rw [rkL_length] at hi hj
    rw [rkL_at l i hi, rkL_at l j hj]
    show (i : Int) < (j : Int)
    omega
  · exact List.Pairwise.nil
theorem rankR_len (l : List Cd) : (rankR l).length ≤ l.length := by
  unfold rankR
  split
  · have := useK_le (rkL l) (rkL l).length
    rw [rkL_length] at this
    unfold usL
    rw [rkL_length]
    exact this
  · simp
/-- The iterator's memory: a box that holds a slice of the ranked candidates D. All of it lies from base on. -/
structure OrdAt (base : Nat) (W : World) (q : Nat) (D : List Rk) : Prop where
  hq : base ≤ q
  box : ∃ A c, W.heap[q]? = some (.cells #[.slice A D.length c] 46 (0, 0)) ∧ (D = [] ∨ ∃ g cap, A = some ⟨g, 0, none⟩ ∧ base ≤ g ∧ g ≠ q ∧ AllAt W g cap D.length D)
def OrdPost (w : World) (l : List Cd) (e : Ending) (w' : World) : Prop :=
  ∃ q D, e = .returned (.func (.func 24) #[] #[.pointer (some ⟨q, 0, none⟩)]) ∧ Below w.heap.size w w' ∧ OrdAt w.heap.size w' q D ∧ D.Perm (rankR l) ∧ D.Pairwise Qr
theorem Order_any (w : World) (v : Value) (l : List Cd) (hv : Cs w v l) (hl : l.length < 40) : Calls Try.prog 16 #[v] w (OrdPost w l) := by
  have HK := Lib.hid (rank_any w v l hv (by omega))
  have hlen := rankR_len l
  have HU := Lib.hid (@rankR_use l)
  have HP := Lib.hid (@rankR_place l)
  obtain ⟨R, hR⟩ : ∃ R, R = rankR l := ⟨_, rfl⟩
  unfold OrdPost
  unfold RankPost at HK
  rw [← hR] at hlen HU HP HK ⊢
  obtain ⟨ee, hee⟩ : ∃ ee, ee = errL l := ⟨_, rfl⟩
  rw [← hee] at HK
  have hRl : R.length < 40 := by omega
  clear hv hR hlen hee
  go_enter Try.func16, Try.ntmps16
  go_upto_region 2 with (go_at_call 17; (with_reducible refine HK.out.mono ?_); rintro e w2 ⟨hb2, v2, rfl, ho2⟩; have HB2 := Lib.hid hb2; obtain ⟨-, h3⟩ := own_at ho2; clear hb2 ho2; have H3 := Lib.hid h3; rcases h3 with ⟨-, rfl⟩ | ⟨g, cap, rfl, -⟩)
  · have hRn : R = [] := by
      rcases H3.out with ⟨h, -⟩ | ⟨g, cap, h, -⟩
      · exact h
      · cases h
    subst hRn
    have hn := sortNil_any (w2.alloc (.cells #[.slice none 0 0] 46))
    clear H3
    go_wp2_with (go_at_call 23; refine hn.mono ?_; rintro e w3 ⟨rfl, rfl⟩)
    go_ret
    refine ⟨w2.heap.size, [], rfl, HB2.out.trans (((Below.refl _ _).alloc (Nat.le_refl _) _).mono HB2.out.size), ⟨HB2.out.size, none, 0, heap_alloc_new w2 _, .inl rfl⟩, List.Perm.refl _, List.Pairwise.nil⟩
  · obtain ⟨hg1, hg2, hA, hcap⟩ : w.heap.size ≤ g ∧ g < w2.heap.size ∧ AllAt w2 g cap R.length R ∧ R.length ≤ cap := by
      rcases H3.out with ⟨-, h⟩ | ⟨g', cap', h, h1, h2, h3, h4⟩
      · cases h
      · cases h; exact ⟨h1, h2, h3, h4⟩
    clear H3
    have hA3 := hA.below ((Below.refl w2.heap.size w2).alloc (Nat.le_refl _) (.cells #[.slice (some ⟨g, 0, none⟩) R.length cap] 46)) hg2
    have hs := sortU_any (c := cap) hA3 hcap hRl HU.out (fun i j hj hij => (List.pairwise_iff_getElem.1 HP.out) i j (by omega) hj hij)
    have HS := Lib.hid hs
    have HBX := Lib.hid (heap_alloc_new w2 (.cells #[.slice (some ⟨g, 0, none⟩) R.length cap] 46))
    have HW3 := Lib.hid (show w2.heap.size < (w2.alloc (.cells #[.slice (some ⟨g, 0, none⟩) R.length cap] 46)).heap.size by simp)
    have HB3 : Hid (Below w2.heap.size w2 (w2.alloc (.cells #[.slice (some ⟨g, 0, none⟩) R.length cap] 46))) := (Below.refl _ _).alloc (Nat.le_refl _) _
    clear hA hA3 hs
    go_wp2_with (go_at_call 23; (with_reducible refine HS.out.mono ?_); rintro e w3 ⟨rfl, D, hD1, hD2, hD3, hD4⟩; have HD := Lib.hid (And.intro hD1 (And.intro hD2 (And.intro hD3 hD4))); clear hD1 hD2 hD3 hD4)
    go_ret
    obtain ⟨hD1, hD2, hD3, hD4⟩ := HD.out
    refine ⟨w2.heap.size, D, rfl, HB2.out.trans ⟨hD4.os.trans HB3.out.os, hD4.tape.trans HB3.out.tape, hD4.output.trans HB3.out.output, Nat.le_trans HB3.out.size hD4.size, fun k hk => ?_⟩, ⟨HB2.out.size, some ⟨g, 0, none⟩, cap, ?_, .inr ⟨g, cap, rfl, hg1, by omega, hD3⟩⟩, hD1, hD2⟩
    · have h1 := HB2.out.size
      exact (hD4.block k (by have := HW3.out; omega) (by omega)).trans (HB3.out.block k (by omega))
    · rw [hD4.block w2.heap.size HW3.out (by omega), hD1.length_eq]; exact HBX.out
/-- What a yield hands over. -/
abbrev ev (r : Rk) : Array Value := #[.int .i64 r.pl, .agg #[.int .i64 r.c.bl, .int .i64 r.c.va, .int .i64 r.c.pa, .int .i64 r.c.ag]]
theorem own_all {g cap : Nat} {L : List Rk} (B : Nat) : OwnFrom B (fun (_ : Nat) W => AllAt W g cap L.length L) := fun k X Y row hs hg hr => by
  obtain ⟨cur, h1, _⟩ := hs.row
  refine hs.same (hg.block g (Array.getElem?_eq_some_iff.1 h1).1 (fun e => ?_))
  obtain ⟨o, ho, hc⟩ := (hr g e.symm).2
  rw [h1] at ho; cases ho; cases hc
theorem Kc.all {S : Nat → Prop} {W W' : World} {g cap : Nat} {L : List Rk} (h : Kc S W W') (hr : AllAt W g cap L.length L) (hS : ¬ S g) : AllAt W' g cap L.length L := by
  obtain ⟨cur, h1, _⟩ := hr.row
  exact hr.same ((h.2 g _ h1 rfl hS).trans h1.symm)
theorem ord1_in (S : Nat → Prop) (B' l0 B g cap c : Nat) (D : List Rk) (hl : D.length ≤ 4096) (hgS : ¬ S g) (J Jx : Nat → World → Prop) (W0 : World) (hJ : OwnFrom W0.heap.size J)
    (hY : ∀ k (hk : k < D.length) W1, J k W1 → Ynd Try.prog l0 (ev D[k]) W1 fun e W' => (e = .returned (.bool true) ∧ J (k + 1) W' ∧ Kd S B' W1 W') ∨ (e = .returned (.bool false) ∧ Jx (k + 1) W' ∧ KeepsFrom B' W1 W'))
    (hc : W0.cell? ⟨B, 0, none⟩ = some (.slice (some ⟨g, 0, none⟩) D.length c)) (hr : AllAt W0 g cap D.length D) (h0 : J 0 W0) :
    CallsIn Fence.wide 9 Try.prog 24 #[.func (.yield l0) #[] #[], .pointer (some ⟨B, 0, none⟩)] W0 fun e W' => (∃ v, e = .returned v) ∧ (J D.length W' ∨ ∃ k, k ≤ D.length ∧ Jx k W') := by
  have H0 := Lib.hid h0
  have HR := Lib.hid hr
  have HY := Lib.hid hY
  have HJ := Lib.hid hJ
  have hl2 : (D.length : Int) ≤ 4096 := by omega
  clear h0 hr hY hJ
  refine callsIn_of_wp Try.func24 rfl trivial ?_ rfl
  simp only [Try.ntmps24, List.size_toArray, List.length_cons, List.length_nil, Nat.reduceAdd, Nat.reduceSub, Array.replicate_succ, Array.replicate_zero, List.push_toArray, List.append_toArray, List.nil_append, List.cons_append]
  gi_wp2
  refine wpIn_wide.2 (wp_scope_straight ((wpIn_wide (n := 9)).1 (wpIn_seq (wpIn_label ?_))))
  dsimp only [Exit.then]
  gi_wp2
  gi_loopw [7] (fun i wr => ∃ k : Nat, k ≤ D.length ∧ i = .int .i64 k ∧ Hid (J k wr) ∧ Hid (AllAt wr g cap D.length D)) (fun i _ => D.length - (RowKit.intOf i).toNat)
  case atStart => exact ⟨0, Nat.zero_le _, rfl, H0, HR⟩
  case round =>
    obtain ⟨k, hk, rfl, HJk, HRk⟩ := hrel
    by_cases hlt : k < D.length
    · have hrk := HRk.out.el k hlt hlt
      have hyk := HY.out k hlt
      obtain ⟨r, hr⟩ : ∃ r, r = D[k] := ⟨_, rfl⟩
      rw [← hr] at hrk hyk
      clear hr
      have c0 := hrk.c0; have c1 := hrk.c1; have c2 := hrk.c2; have c3 := hrk.c3; have c4 := hrk.c4; have c5 := hrk.c5; have c6 := hrk.c6
      have hJ2 := HJ.out.alloc (.cells r.row 52) HJk.out
      obtain ⟨fn, tmps, assign, body, hy, hR⟩ := hyk _ hJ2
      have HR2 := Lib.hid (HRk.out.same (((Below.refl _ wr).alloc (Nat.le_refl _) (.cells r.row 52)).block g HRk.out.lt))
      have HRR := Lib.hid hR
      clear hR hJ2 hyk hrk
      obtain ⟨⟨bl, va, pa, ag⟩, pl⟩ := r
      generalize hn : Cd.num ⟨bl, va, pa, ag⟩ = nn at *
      generalize hd : Cd.den ⟨bl, va, pa, ag⟩ = dd at *
      simp only [Rk.row, ev, hn, hd] at *
      clear hn hd
      gi_wp2
      refine (RoundIn.deep 8 HRR.out).mono ?_
      rintro e W3 (⟨rfl, hJ3, hk3⟩ | ⟨rfl, hJx3, hkx⟩)
      · have HJ3 := Lib.hid hJ3
        have HR3 := Lib.hid (hk3.1.all HR2.out hgS)
        clear hJ3 hk3
        gi_wp2
        go_roundw
        case rel => exact ⟨k + 1, by omega, by go_num, HJ3, HR3⟩
        case measure => simp [RowKit.intOf]; omega
      · have HJ3 := Lib.hid hJx3
        clear hJx3
        gi_wp2
        dsimp only [Exit.noGoto]
        gi_wp2
        go_end0
        exact ⟨⟨_, rfl⟩, .inr ⟨k + 1, by omega, HJ3.out⟩⟩
    · have hkl : k = D.length := by omega
      subst hkl
      gi_wp2
      dsimp only [Exit.noGoto]
      gi_wp2
      go_end0
      exact ⟨⟨_, rfl⟩, .inl HJk.out⟩
theorem OrdAt.below {base : Nat} {w W : World} {q : Nat} {D : List Rk} (h : OrdAt base w q D) (hb : Below w.heap.size w W) : OrdAt base W q D := by
  obtain ⟨hq, A, c, h1, h2⟩ := h
  refine ⟨hq, A, c, (hb.block q (Array.getElem?_eq_some_iff.1 h1).1).trans h1, ?_⟩
  rcases h2 with h2 | ⟨g, cap, e, k1, k2, k3⟩
  · exact .inl h2
  · exact .inr ⟨g, cap, e, k1, k2, k3.below hb k3.lt⟩
/-- The iterator of Order yields the ranked candidates, in their order. -/
theorem ord_yields (S : Nat → Prop) (B' base q : Nat) (D : List Rk) (w : World) (h : OrdAt base w q D) (hl : D.length ≤ 4096) (hS : ∀ k, S k → k < base) : Yields Try.prog 24 #[.pointer (some ⟨q, 0, none⟩)] ev S B' D w := fun l0 J Jx W hW hB' hJ hJx hY h0 => by
  obtain ⟨hq, A, c, h1, h2⟩ := h.below hW
  have hc : W.cell? ⟨q, 0, none⟩ = some (.slice A D.length c) := by rw [cell_of_row W q 0 _ 46 (0, 0) h1]; rfl
  rcases h2 with rfl | ⟨g, cap, rfl, k1, k2, k3⟩
  · have H0 := Lib.hid h0
    clear hY hJ hJx h0 h1 h
    refine callsIn_of_wp Try.func24 rfl trivial ?_ rfl
    simp only [Try.ntmps24, List.size_toArray, List.length_cons, List.length_nil, Nat.reduceAdd, Nat.reduceSub, Array.replicate_succ, Array.replicate_zero, List.push_toArray, List.append_toArray, List.nil_append, List.cons_append]
    gi_wp2
    refine wpIn_wide.2 (wp_scope_straight ((wpIn_wide (n := 9)).1 (wpIn_seq (wpIn_label ?_))))
    dsimp only [Exit.then]
    gi_wp2
    refine wpIn_loop_rounds 1 ?_
    rw [roundsIn_succ]
    gi_wp2
    dsimp only [Exit.noGoto]
    gi_wp2
    go_end0
    exact ⟨⟨_, rfl⟩, .inl H0.out⟩
  · exact ord1_in S B' l0 q g cap c D hl (fun h => by have := hS g h; omega) J Jx W hJ hY hc k3 h0
end Go.Proofs.Ytfcddkehodceaaa
