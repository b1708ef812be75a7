/- The walk of JournalBack. No condition on the arguments. -/
import Derived.Test.YtajlddgemkkcdaaGreatPG
namespace Go.Proofs.YtajlddgemkkcdaaGreat
open Go.RowKit
set_option linter.unusedVariables false
set_option maxHeartbeats 8000000
set_option maxRecDepth 100000
/-- A row of bytes of the call's own, seen as a slice. -/
theorem row_open {W : World} {base n : Nat} {v : Value} {bs : List UInt8} (h : W.ownsRow base 5 1 v n (bv bs)) (hn : n = bs.length) (h0 : 0 < n) :
    ∃ g c cur, v = .slice (some ⟨g, 0, none⟩) n c ∧ n ≤ c ∧ base ≤ g ∧ W.heap[g]? = some (.cells cur 5 (0, 0)) ∧ (∀ j (hj : j < bs.length), cur[j]? = some (.int .u8 (bs[j].toNat : Int))) := by
  rcases h.2 with ⟨_, hz⟩ | ⟨g, cap, cur, rfl, hb, hg, h1, h2, h3, h4⟩
  · omega
  · refine ⟨g, cap, cur, rfl, h1, hb, hg, fun j hj => ?_⟩
    have e : (bv bs)[j]? = some (.int .u8 (bs[j].toNat : Int)) := by simp [bv, hj]
    rw [← h4, List.getElem?_take, if_pos (by omega)] at e
    simpa using e
theorem row_byt {W : World} {g n c : Nat} {cur : Array Value} {bs : List UInt8} (hg : W.heap[g]? = some (.cells cur 5 (0, 0))) (hn : n = bs.length) (hc : n ≤ c) (h : ∀ j (hj : j < bs.length), cur[j]? = some (.int .u8 (bs[j].toNat : Int))) : Byt W (.slice (some ⟨g, 0, none⟩) n c) bs := by
  subst hn
  refine ⟨_, c, rfl, hc, fun _ => ⟨g, 0, rfl, (Array.getElem?_eq_some_iff.1 hg).1, fun j hj => ?_⟩⟩
  rw [Nat.zero_add, cell_of_row W g j _ 5 (0, 0) hg]
  exact h j hj
theorem row_store {W : World} {g n c i : Nat} {cur : Array Value} {bs : List UInt8} (hg : W.heap[g]? = some (.cells cur 5 (0, 0))) (hn : n = bs.length) (hc : n ≤ c) (h : ∀ j (hj : j < bs.length), cur[j]? = some (.int .u8 (bs[j].toNat : Int))) (x : UInt8) (hi : i < bs.length) :
    Byt (W.setCell ⟨g, i, none⟩ (.int .u8 (x.toNat : Int))) (.slice (some ⟨g, 0, none⟩) n c) (bs.set i x) := by
  refine row_byt (box_row W g i cur 5 _ hg) (by rw [List.length_set]; exact hn) hc (fun j hj => ?_)
  rw [List.length_set] at hj
  have hl : i < cur.size := (Array.getElem?_eq_some_iff.1 (h i hi)).1
  by_cases e : i = j
  · subst e
    simp [hl]
  · rw [Array.getElem?_setIfInBounds_ne e, h j hj, List.getElem_set_ne e]
/-- What Decode leaves, its error alone. -/
def ErrPost (w : World) (E : Int) (e : Ending) (w' : World) : Prop := (∃ A n c, e = .returned (.tuple #[.slice A n c, .int .i64 E])) ∧ Below w.heap.size w w'
theorem back_any (n : Int) (v : Value) (L : List (Int × Int)) (at_ : Int) (x : UInt8) (w : World) (hv : Ent w v L) (hat : I64 at_) : Calls Tryz.prog 4 #[.int .i64 n, v, .int .i64 at_, .int .u8 (x.toNat : Int)] w (LawPost w) := by
  have HWK := Lib.hid works_any
  have HV := Lib.hid hv
  obtain ⟨A, c, rfl, -, -⟩ := hv
  obtain ⟨q1, q2⟩ := hat
  by_cases h1 : 60 < L.length
  · have h1z : (60 : Int) < (L.length : Int) := by omega
    go_enter Tryz.func4, Tryz.ntmps4
    go_wp2_with ((go_at_call 5; (with_reducible refine (HWK.out _).mono ?_)); rintro e w2 ⟨rfl, hb2⟩; have HB2 := Lib.hid hb2; clear hb2)
    go_ret
    exact ⟨rfl, HB2.out⟩
  have h1z : (L.length : Int) ≤ 60 := by omega
  by_cases h2 : 1000 < n
  · go_enter Tryz.func4, Tryz.ntmps4
    go_wp2_with ((go_at_call 5; (with_reducible refine (HWK.out _).mono ?_)); rintro e w2 ⟨rfl, hb2⟩; have HB2 := Lib.hid hb2; clear hb2)
    go_ret
    exact ⟨rfl, HB2.out⟩
  have h2z : n ≤ 1000 := by omega
  have HE := Lib.hid (encode_any n (.slice A L.length c) L w HV.out (by omega))
  by_cases he : encE n L = 0
  case neg =>
    generalize encE n L = E at *
    generalize encL n L = bs at *
    have heb : (E == 0) = false := by simpa using he
    clear h1 h2
    go_enter Tryz.func4, Tryz.ntmps4
    go_wp2_with (first
      | ((go_at_call 10; with_reducible refine HE.out.mono ?_); rintro e w1 ⟨⟨va, rfl, ho⟩, hb⟩; (obtain ⟨B, d, rfl⟩ := own_form8 ho); have HB1 := Lib.hid hb; clear ho hb)
      | ((go_at_call 9; with_reducible refine (num_any _ _).mono ?_); rintro e w2 ⟨rfl, hg⟩; have HB2 := Lib.hid (HB1.out.trans (hg.below.mono HB1.out.size)); clear hg)
      | ((go_at_call 5; (with_reducible refine (HWK.out _).mono ?_)); rintro e w3 ⟨rfl, hb⟩; have HB3 := Lib.hid (HB2.out.trans (hb.mono HB2.out.size)); clear hb))
    go_ret
    exact ⟨rfl, HB3.out⟩
  obtain ⟨f1, f2, f3, f4⟩ := dec_enc he
  have f5 : 12 ≤ (encL n L).length := by
    have hc : capF n ≠ 0 := fun e => by unfold encE at he; rw [if_pos (.inl e)] at he; omega
    have := capF_pos hc
    omega
  rw [he] at HE
  generalize encL n L = bs at *
  subst f1
  have hbl : bs.length ≤ 1000 := by omega
  have HD1 : Hid (∀ W v, Byt W v bs → Calls Tryz.prog 6 #[v] W fun e w' => (∃ A c, e = .returned (.tuple #[.slice A L.length c, .int .i64 0]) ∧ Ent w' (.slice A L.length c) L) ∧ Below W.heap.size W w') := Lib.hid (fun W v h => by
    have := decode_any v bs W h (by omega)
    unfold DecPost at this
    rwa [f2, f3] at this)
  have HSM : Hid (∀ W v u, Ent W v L → Ent W u L → Calls Tryz.prog 8 #[v, u] W (Ret W (.bool true))) := Lib.hid (fun W v u hv hu => by
    have := same_any v u L L W hv hu (by omega) (by omega)
    rwa [decide_eq_true rfl] at this)
  by_cases hin : 4 + 8 * (L.length : Int) ≤ at_ ∧ at_ < (bs.length : Int)
  case neg =>
    have hor : at_ < 4 + 8 * (L.length : Int) ∨ (bs.length : Int) ≤ at_ := by omega
    have f50 : 0 < bs.length := by omega
    clear f2 f3 f4 h1 h2 he hin
    rcases hor with hor | hor
    all_goals
      go_enter Tryz.func4, Tryz.ntmps4
      go_wp2_with (first
        | ((go_at_call 10; with_reducible refine HE.out.mono ?_); rintro e w1 ⟨⟨va, rfl, ho⟩, hb⟩; (obtain ⟨g, cc, cur, rfl, hcc, hgb, hrow, hcur⟩ := row_open ho rfl f50); have HB1 := Lib.hid hb; have HROW := Lib.hid hrow; have HCUR := Lib.hid hcur; have HBY := Lib.hid (row_byt hrow rfl hcc hcur); clear ho hb hrow hcur HE)
        | ((go_at_call 9; with_reducible refine (num_any _ _).mono ?_); rintro e w2 ⟨rfl, hg⟩; first | (have HB9 := Lib.hid (HB6.out.trans (hg.below.mono HB6.out.size)); clear hg) | (have HB4 := Lib.hid (HB3.out.trans (hg.below.mono HB3.out.size)); have HE4 := Lib.hid (HE3.out.below hg.below); have HROW4 := Lib.hid ((hg.below.block g (Array.getElem?_eq_some_iff.1 HROW3.out).1).trans HROW3.out); clear hg) | (have HB2 := Lib.hid (HB1.out.trans (hg.below.mono HB1.out.size)); have HBY2 := Lib.hid (HBY.out.below hg.below); have HROW2 := Lib.hid ((hg.below.block g (Array.getElem?_eq_some_iff.1 HROW.out).1).trans HROW.out); clear hg))
        | ((go_at_call 6; with_reducible refine (HD1.out _ _ HBY2.out).mono ?_); rintro e w3 ⟨⟨A3, c3, rfl, he3⟩, hb⟩; have HE3 := Lib.hid he3; have HB3 := Lib.hid (HB2.out.trans (hb.mono HB2.out.size)); have HROW3 := Lib.hid ((hb.block g (Array.getElem?_eq_some_iff.1 HROW2.out).1).trans HROW2.out); clear he3 hb HD1)
        | ((go_at_call 8; with_reducible refine (HSM.out _ _ _ HE4.out (HV.out.below HB4.out)).mono ?_); rintro e w5 ⟨rfl, hg⟩; have HB5 := Lib.hid (HB4.out.trans (hg.below.mono HB4.out.size)); have HROW5 := Lib.hid ((hg.below.block g (Array.getElem?_eq_some_iff.1 HROW4.out).1).trans HROW4.out); clear hg HSM)
        | ((go_at_call 5; (with_reducible refine (HWK.out _).mono ?_)); rintro e w6 ⟨rfl, hb⟩; have HB6 := Lib.hid (HB5.out.trans (hb.mono HB5.out.size)); clear hb))
      all_goals
        go_ret
        exact ⟨rfl, HB6.out⟩
  obtain ⟨i, rfl⟩ : ∃ i : Nat, at_ = (i : Int) := ⟨at_.toNat, by omega⟩
  obtain ⟨hi1, hi2⟩ := hin
  obtain ⟨f6, -⟩ := f4 i x (by omega) (by omega)
  have HD2 : Hid (∀ W v, Byt W v (bs.set i x) → Calls Tryz.prog 6 #[v] W (ErrPost W (decE (bs.set i x)))) := Lib.hid (fun W v h => by
    refine (decode_any v (bs.set i x) W h (by rw [List.length_set]; omega)).mono ?_
    rintro e w' ⟨⟨A, c, rfl, -⟩, hb⟩
    exact ⟨⟨A, _, c, rfl⟩, hb⟩)
  generalize decE (bs.set i x) = E2 at *
  have f50 : 0 < bs.length := by omega
  have hi3 : i < bs.length := by omega
  have hi0 : (0 : Int) ≤ (i : Int) := by omega
  clear f2 f3 f4 h1 h2 he
  by_cases hx : x = 0
  · have hE2 := f6.2 hx
    subst hE2
    have hx0 : (x.toNat : Int) = 0 := by rw [hx]; rfl
    have hxb : ((x.toNat : Int) == 0) = true := by rw [hx0]; rfl
    clear f6 hx hx0
    go_enter Tryz.func4, Tryz.ntmps4
    go_wp2_with (first
      | ((go_at_call 10; with_reducible refine HE.out.mono ?_); rintro e w1 ⟨⟨va, rfl, ho⟩, hb⟩; (obtain ⟨g, cc, cur, rfl, hcc, hgb, hrow, hcur⟩ := row_open ho rfl f50); have HB1 := Lib.hid hb; have HROW := Lib.hid hrow; have HCUR := Lib.hid hcur; have HBY := Lib.hid (row_byt hrow rfl hcc hcur); clear ho hb hrow hcur HE)
      | ((go_at_call 9; with_reducible refine (num_any _ _).mono ?_); rintro e w2 ⟨rfl, hg⟩; first | (have HB9 := Lib.hid (HB6.out.trans (hg.below.mono HB6.out.size)); clear hg) | (have HB4 := Lib.hid (HB3.out.trans (hg.below.mono HB3.out.size)); have HE4 := Lib.hid (HE3.out.below hg.below); have HROW4 := Lib.hid ((hg.below.block g (Array.getElem?_eq_some_iff.1 HROW3.out).1).trans HROW3.out); clear hg) | (have HB2 := Lib.hid (HB1.out.trans (hg.below.mono HB1.out.size)); have HBY2 := Lib.hid (HBY.out.below hg.below); have HROW2 := Lib.hid ((hg.below.block g (Array.getElem?_eq_some_iff.1 HROW.out).1).trans HROW.out); clear hg))
      | ((go_at_call 6; with_reducible refine (HD2.out _ _ HBY5.out).mono ?_); rintro e w6 ⟨⟨A6, n6, c6, rfl⟩, hb⟩; have HB6 := Lib.hid (HBS.out.trans (hb.mono HBS.out.size)); clear hb HD2)
      | ((go_at_call 6; with_reducible refine (HD1.out _ _ HBY2.out).mono ?_); rintro e w3 ⟨⟨A3, c3, rfl, he3⟩, hb⟩; have HE3 := Lib.hid he3; have HB3 := Lib.hid (HB2.out.trans (hb.mono HB2.out.size)); have HROW3 := Lib.hid ((hb.block g (Array.getElem?_eq_some_iff.1 HROW2.out).1).trans HROW2.out); clear he3 hb HD1)
      | ((go_at_call 8; with_reducible refine (HSM.out _ _ _ HE4.out (HV.out.below HB4.out)).mono ?_); rintro e w5 ⟨rfl, hg⟩; have HB5 := Lib.hid (HB4.out.trans (hg.below.mono HB4.out.size)); have HROW5 := Lib.hid ((hg.below.block g (Array.getElem?_eq_some_iff.1 HROW4.out).1).trans HROW4.out); have HBY5 := Lib.hid (row_store HROW5.out rfl hcc HCUR.out x hi3); have HBS := Lib.hid (HB5.out.setCell (p := ⟨g, i, none⟩) hgb (.int .u8 (x.toNat : Int))); have k5 := (cell_of_row w5 g i _ _ _ HROW5.out).trans (HCUR.out i hi3); have kf5 := frozen_of_row w5 g i _ _ HROW5.out; clear hg HSM)
      | ((go_at_call 5; (with_reducible refine (HWK.out _).mono ?_)); rintro e w7 ⟨rfl, hb⟩; have HB7 := Lib.hid (HB9.out.trans (hb.mono HB9.out.size)); clear hb))
    go_ret
    exact ⟨rfl, HB7.out⟩
  · have hE2 : (E2 == 0) = false := by
      have : ¬ E2 = 0 := fun e => hx (f6.1 e)
      simpa using this
    have hxb : ((x.toNat : Int) == 0) = false := by simpa using byte_int hx
    clear f6 hx
    go_enter Tryz.func4, Tryz.ntmps4
    go_wp2_with (first
      | ((go_at_call 10; with_reducible refine HE.out.mono ?_); rintro e w1 ⟨⟨va, rfl, ho⟩, hb⟩; (obtain ⟨g, cc, cur, rfl, hcc, hgb, hrow, hcur⟩ := row_open ho rfl f50); have HB1 := Lib.hid hb; have HROW := Lib.hid hrow; have HCUR := Lib.hid hcur; have HBY := Lib.hid (row_byt hrow rfl hcc hcur); clear ho hb hrow hcur HE)
      | ((go_at_call 9; with_reducible refine (num_any _ _).mono ?_); rintro e w2 ⟨rfl, hg⟩; first | (have HB9 := Lib.hid (HB6.out.trans (hg.below.mono HB6.out.size)); clear hg) | (have HB4 := Lib.hid (HB3.out.trans (hg.below.mono HB3.out.size)); have HE4 := Lib.hid (HE3.out.below hg.below); have HROW4 := Lib.hid ((hg.below.block g (Array.getElem?_eq_some_iff.1 HROW3.out).1).trans HROW3.out); clear hg) | (have HB2 := Lib.hid (HB1.out.trans (hg.below.mono HB1.out.size)); have HBY2 := Lib.hid (HBY.out.below hg.below); have HROW2 := Lib.hid ((hg.below.block g (Array.getElem?_eq_some_iff.1 HROW.out).1).trans HROW.out); clear hg))
      | ((go_at_call 6; with_reducible refine (HD2.out _ _ HBY5.out).mono ?_); rintro e w6 ⟨⟨A6, n6, c6, rfl⟩, hb⟩; have HB6 := Lib.hid (HBS.out.trans (hb.mono HBS.out.size)); clear hb HD2)
      | ((go_at_call 6; with_reducible refine (HD1.out _ _ HBY2.out).mono ?_); rintro e w3 ⟨⟨A3, c3, rfl, he3⟩, hb⟩; have HE3 := Lib.hid he3; have HB3 := Lib.hid (HB2.out.trans (hb.mono HB2.out.size)); have HROW3 := Lib.hid ((hb.block g (Array.getElem?_eq_some_iff.1 HROW2.out).1).trans HROW2.out); clear he3 hb HD1)
      | ((go_at_call 8; with_reducible refine (HSM.out _ _ _ HE4.out (HV.out.below HB4.out)).mono ?_); rintro e w5 ⟨rfl, hg⟩; have HB5 := Lib.hid (HB4.out.trans (hg.below.mono HB4.out.size)); have HROW5 := Lib.hid ((hg.below.block g (Array.getElem?_eq_some_iff.1 HROW4.out).1).trans HROW4.out); have HBY5 := Lib.hid (row_store HROW5.out rfl hcc HCUR.out x hi3); have HBS := Lib.hid (HB5.out.setCell (p := ⟨g, i, none⟩) hgb (.int .u8 (x.toNat : Int))); have k5 := (cell_of_row w5 g i _ _ _ HROW5.out).trans (HCUR.out i hi3); have kf5 := frozen_of_row w5 g i _ _ HROW5.out; clear hg HSM)
      | ((go_at_call 5; (with_reducible refine (HWK.out _).mono ?_)); rintro e w7 ⟨rfl, hb⟩; have HB7 := Lib.hid (HB9.out.trans (hb.mono HB9.out.size)); clear hb))
    go_ret
    exact ⟨rfl, HB7.out⟩
end Go.Proofs.YtajlddgemkkcdaaGreat
