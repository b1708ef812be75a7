/- The contracts of pagesOf, All, Pages. Conditions stand in each theorem. -/
import Derived.Test.YteiemegkdnjpgaaJ
namespace Go.Proofs.Yteiemegkdnjpgaa
open Go.RowKit Go.Shelf
set_option linter.unusedVariables false
set_option maxHeartbeats 2000000
set_option maxRecDepth 100000
/-- The pages of a block. -/
def pgl (b p : Nat) (q : Int) : List Int := if 0 ≤ q ∧ q < b then (List.range p).map fun i : Nat => q * (p : Int) + (i : Int) else []
/-- Block G holds the first k pages. -/
def PgI (w : World) (G p : Nat) (z : Int) (k : Nat) (W : World) : Prop := (∃ cur, W.heap[G]? = some (.cells cur 3 (0, 0)) ∧ cur.size = p ∧ ∀ i, i < k → cur[i]? = some (.int .i64 (z + (i : Int)))) ∧ Below w.heap.size w W
theorem pagesOf_any (s b p : Nat) (q : Int) (w : World) (hb : b ≤ 4096) (hp : 2 ≤ p ∧ p ≤ 512) : Calls Try.prog 41 #[.agg #[.int .i64 (s : Int), .int .i64 (b : Int), .int .i64 (p : Int)], .int .i64 q] w fun e w' => ∃ v, e = .returned v ∧ Itz w' v (pgl b p q) ∧ Below w.heap.size w w' := by
  by_cases hq : 0 ≤ q ∧ q < b
  · have e1 : pgl b p q = (List.range p).map fun i : Nat => q * (p : Int) + (i : Int) := if_pos hq
    rw [e1]
    have HH := Lib.hid (fun W => hasBlock_any s b p q W hb)
    rw [decide_eq_true hq] at HH
    have hmk := make_ints p (by omega)
    have hp1 : (p : Int) ≤ 512 := by omega
    have hz0 : 0 ≤ q * (p : Int) := Int.mul_nonneg hq.1 (by omega)
    have hz1 : q * (p : Int) ≤ 2097152 := by
      have h1 : q * (p : Int) ≤ 4096 * (p : Int) := Int.mul_le_mul_of_nonneg_right (by omega) (by omega)
      omega
    clear e1 hq hb hp
    go_enter Try.func41, Try.ntmps41
    go_wp2_with ((go_at_call 44; with_reducible refine (HH.out _).mono ?_); rintro e w1 ⟨rfl, hb1⟩; have HB1 := Lib.hid ((below_alloc w _).trans (hb1.mono (by simp))); have hrow := (hb1.block _ (by simp)).trans (heap_alloc_new w _); have k2 := cell_of_row w1 w.heap.size 2 _ _ _ hrow; have HR1 := Lib.hid hrow; clear hb1 hrow)
    have hs1 := HB1.out.size
    have hwl : w.heap.size < w1.heap.size := (Array.getElem?_eq_some_iff.1 HR1.out).1
    have hst : PgI w w1.heap.size p (q * (p : Int)) 0 (w1.alloc (.cells (zi p) 3)) := ⟨⟨_, heap_alloc_new w1 _, by simp [zi, size_madeCells], fun i h => by omega⟩, HB1.out.alloc hs1 _⟩
    have HST := Lib.hid hst
    have HR2 := Lib.hid ((Below.heap_alloc w1 (.cells (zi p) 3) _ hwl).trans HR1.out)
    have hG : w.heap.size < w1.heap.size := hwl
    clear hst k2 hs1 hmk HR1 HB1 HH
    generalize w1.alloc (.cells (zi p) 3) = W0 at *
    generalize w1.heap.size = G at *
    obtain ⟨z, hz⟩ : ∃ z, z = q * (p : Int) := ⟨_, rfl⟩
    have HZ := Lib.hid hz
    rw [← hz] at hz0 hz1 HST
    clear hz
    go_loopw [16] (fun i wr => ∃ k : Nat, k ≤ p ∧ i = .int .i64 k ∧ Hid (PgI w G p z k wr) ∧ Hid (wr.heap[w.heap.size]? = some (.cells #[.int .i64 (s : Int), .int .i64 (b : Int), .int .i64 (p : Int)] 52 (0, 0)))) (fun i _ => p - (RowKit.intOf i).toNat)
    case atStart => exact ⟨0, Nat.zero_le _, rfl, HST, HR2⟩
    case round =>
      obtain ⟨k, hk, rfl, HI, HR⟩ := hrel
      obtain ⟨⟨cur, h1, h2, h3⟩, hbe⟩ := HI.out
      by_cases hlt : k < p
      · have k2 := cell_of_row wr w.heap.size 2 _ _ _ HR.out
        obtain ⟨ck, hck⟩ : ∃ ck, cur[k]? = some ck := ⟨_, Array.getElem?_eq_getElem (by omega)⟩
        have kg : wr.cell? ⟨G, k, none⟩ = some ck := (cell_of_row wr G k _ _ _ h1).trans hck
        have fg := frozen_of_row wr G k _ _ h1
        have hkp : (k : Int) < p := by omega
        have HS := Lib.hid (show PgI w G p z (k + 1) (wr.setCell ⟨G, k, none⟩ (.int .i64 (z + (k : Int)))) from ⟨⟨_, heap_setCell_same wr G k cur 3 _ h1, by simpa using h2, fun i hi => by
          rw [Array.getElem?_setIfInBounds]
          by_cases e : k = i
          · subst e; rw [if_pos rfl, if_pos (by omega)]
          · rw [if_neg e]; exact h3 i (by omega)⟩, hbe.setCell (by show w.heap.size ≤ G; omega) _⟩)
        have HR3 := Lib.hid ((Below.heap_setCell wr ⟨G, k, none⟩ (.int .i64 (z + (k : Int))) w.heap.size (by show w.heap.size ≠ G; omega)).trans HR.out)
        have hzz : q * (p : Int) = z := HZ.out.symm
        clear h1 h2 h3 hbe HI HR hck
        go_wp2
        go_roundw
        case rel => exact ⟨k + 1, by omega, by go_num, HS, HR3⟩
        case measure => simp [RowKit.intOf]; omega
      · have hkl : k = p := by omega
        subst hkl
        have HF := Lib.hid (show Itz wr (.slice (some ⟨G, 0, none⟩) k k) ((List.range k).map fun i : Nat => q * (k : Int) + (i : Int)) ∧ Below w.heap.size w wr from
          ⟨⟨some ⟨G, 0, none⟩, k, by simp, by simp, fun _ => ⟨G, 0, cur, 3, (0, 0), rfl, h1, fun j hj => by
            simp at hj
            rw [Nat.zero_add, h3 j hj, HZ.out]
            simp⟩⟩, hbe⟩)
        clear h1 h2 h3 hbe HI HR
        go_wp2
        go_ret
        exact ⟨_, rfl, HF.out.1, HF.out.2⟩
  · have e1 : pgl b p q = [] := if_neg hq
    rw [e1]
    have HH := Lib.hid (fun W => hasBlock_any s b p q W hb)
    rw [decide_eq_false hq] at HH
    clear e1 hq hb hp
    go_enter Try.func41, Try.ntmps41
    go_wp2_with ((go_at_call 44; with_reducible refine (HH.out _).mono ?_); rintro e w1 ⟨rfl, hb1⟩; have HB1 := Lib.hid ((below_alloc w _).trans (hb1.mono (by simp))); clear hb1)
    go_ret
    exact ⟨_, rfl, ⟨none, 0, rfl, Nat.zero_le _, fun h => absurd h (by simp)⟩, HB1.out⟩
section
variable {w w' : World} {base bb m1 m2 g cap s b p : Nat} {L : List (Int × Int)}
theorem SeqP.later {w w1 W : World} {l : List (Int × Int)} {e : Ending} (h : SeqP w1 l e W) (hb : Below w.heap.size w w1) : SeqP w l e W := by
  obtain ⟨B, v, h1, h2, h3, h4, h5, h6⟩ := h
  have := hb.size
  exact ⟨B, v, h1, by omega, h3, h4, fun b hb => by have := h5 b hb; omega, hb.trans (h6.mono hb.size)⟩
theorem All_any (h : Mg w base bb m1 m2 g cap s b p L) : Calls Try.prog 16 #[.pointer (some ⟨bb, 0, none⟩)] w (SeqP w L) := by
  have HC := Lib.hid (content_any h)
  have HM := Lib.hid h
  have HF := Lib.hid h.fit
  clear h
  unfold mgCells at HC
  go_enter Try.func16, Try.ntmps16
  go_wp2_with ((go_at_call 38; with_reducible refine HC.out.mono ?_); rintro e w1 ⟨rfl, hb1⟩; have HB1 := Lib.hid hb1; clear hb1)
  have hbw : Below w.heap.size w (w1.alloc (.cells #[.int .i64 (s : Int), .int .i64 (b : Int), .int .i64 (p : Int), .map (some m1), .map (some m2), .slice (some ⟨g, 0, none⟩) b cap] 56)) := HB1.out.alloc HB1.out.size _
  have hrow := heap_alloc_new w1 (.cells #[.int .i64 (s : Int), .int .i64 (b : Int), .int .i64 (p : Int), .map (some m1), .map (some m2), .slice (some ⟨g, 0, none⟩) b cap] 56)
  have HW := Lib.hid hbw
  have HROW := Lib.hid hrow
  clear hbw hrow HB1
  have hws : (w1.alloc (.cells #[.int .i64 (s : Int), .int .i64 (b : Int), .int .i64 (p : Int), .map (some m1), .map (some m2), .slice (some ⟨g, 0, none⟩) b cap] 56)).heap.size = w1.heap.size + 1 := by simp
  generalize w1.alloc (.cells #[.int .i64 (s : Int), .int .i64 (b : Int), .int .i64 (p : Int), .map (some m1), .map (some m2), .slice (some ⟨g, 0, none⟩) b cap] 56) = W1 at *
  have k3 : W1.cell? ⟨w1.heap.size, 3, none⟩ = some (.map (some m1)) := by rw [cell_of_row W1 w1.heap.size 3 _ _ _ HROW.out]; rfl
  have hlen : L.length ≤ 16777216 := by have := HF.out.len; have := HF.out.hs; omega
  have HK := Lib.hid (sortedKeys_any (w := W1.drew) ((HM.out.below HW.out).map1.below (Below.refl _ _).drew) HF.out.srt hlen)
  have HIN := Lib.hid (fun (w5 : World) (v : Value) (hi : Itz w5 v (L.map (·.1))) (hb : Below W1.heap.size W1 w5) => (show Calls Try.prog 39 #[v, .map (some m1)] w5 (SeqP w5 L) from by
    have := inOrder_any (f := look L) (mv := .map (some m1)) hi (by simpa using hlen) (fun x hx => by
      obtain ⟨y, hy, rfl⟩ := List.mem_map.1 hx
      have := HF.out.rng y hy; have := HF.out.hs; unfold I64; omega) (fun W hW q hq => (((HM.out.below HW.out).map1.below hb).below hW).look_ok hq)
    rwa [prs_self HF.out.nd] at this))
  go_region_with (first
    | ((go_at_call 40; with_reducible refine HK.out.mono ?_); rintro e w5 ⟨v5, rfl, hi5, hb5⟩; have HI5 := Lib.hid hi5; have HB5 := Lib.hid (show Below W1.heap.size W1 w5 from (Below.refl _ _).drew.trans hb5); have k5 : w5.cell? ⟨w1.heap.size, 3, none⟩ = some (.map (some m1)) := (HB5.out.cell (p := ⟨w1.heap.size, 3, none⟩) (by show w1.heap.size < W1.heap.size; omega)).trans k3; clear hi5 hb5)
    | ((go_at_call 39; with_reducible refine (HIN.out _ _ HI5.out HB5.out).mono ?_); rintro e w6 hsq; have HSQ := Lib.hid (hsq.later (HW.out.trans (HB5.out.mono HW.out.size))); obtain ⟨B6, v6, rfl, _⟩ := hsq))
  all_goals
    go_wp2
    go_ret
    exact HSQ.out
theorem Pages_any (h : Mg w base bb m1 m2 g cap s b p L) (q : Int) : Calls Try.prog 17 #[.pointer (some ⟨bb, 0, none⟩), .int .i64 q] w (SeqP w (prs (look (flip L)) (pgl b p q))) := by
  have HC := Lib.hid (content_any h)
  have HM := Lib.hid h
  have HF := Lib.hid h.fit
  clear h
  unfold mgCells at HC
  go_enter Try.func17, Try.ntmps17
  go_wp2_with ((go_at_call 38; with_reducible refine HC.out.mono ?_); rintro e w1 ⟨rfl, hb1⟩; have HB1 := Lib.hid hb1; clear hb1)
  have hbw : Below w.heap.size w (w1.alloc (.cells #[.int .i64 (s : Int), .int .i64 (b : Int), .int .i64 (p : Int), .map (some m1), .map (some m2), .slice (some ⟨g, 0, none⟩) b cap] 56)) := HB1.out.alloc HB1.out.size _
  have hrow := heap_alloc_new w1 (.cells #[.int .i64 (s : Int), .int .i64 (b : Int), .int .i64 (p : Int), .map (some m1), .map (some m2), .slice (some ⟨g, 0, none⟩) b cap] 56)
  have HW := Lib.hid hbw
  have HROW := Lib.hid hrow
  clear hbw hrow HB1
  have hws : (w1.alloc (.cells #[.int .i64 (s : Int), .int .i64 (b : Int), .int .i64 (p : Int), .map (some m1), .map (some m2), .slice (some ⟨g, 0, none⟩) b cap] 56)).heap.size = w1.heap.size + 1 := by simp
  generalize w1.alloc (.cells #[.int .i64 (s : Int), .int .i64 (b : Int), .int .i64 (p : Int), .map (some m1), .map (some m2), .slice (some ⟨g, 0, none⟩) b cap] 56) = W1 at *
  have kk := fun j => cell_of_row W1 w1.heap.size j _ _ _ HROW.out
  have k0 : W1.cell? ⟨w1.heap.size, 0, none⟩ = some (.int .i64 (s : Int)) := kk 0
  have k1 : W1.cell? ⟨w1.heap.size, 1, none⟩ = some (.int .i64 (b : Int)) := kk 1
  have k2 : W1.cell? ⟨w1.heap.size, 2, none⟩ = some (.int .i64 (p : Int)) := kk 2
  have k4 : W1.cell? ⟨w1.heap.size, 4, none⟩ = some (.map (some m2)) := kk 4
  have HK := Lib.hid (pagesOf_any s b p q W1.drew HF.out.hb.2 HF.out.hp)
  have HIN := Lib.hid (fun (w5 : World) (v : Value) (hi : Itz w5 v (pgl b p q)) (hb : Below W1.heap.size W1 w5) => (show Calls Try.prog 39 #[v, .map (some m2)] w5 (SeqP w5 (prs (look (flip L)) (pgl b p q))) from
    inOrder_any (f := look (flip L)) (mv := .map (some m2)) hi (by unfold pgl; split <;> simp; have := HF.out.hp; omega) (fun x hx => by
      unfold pgl at hx
      split at hx
      · rename_i hq
        obtain ⟨i, hi, rfl⟩ := List.mem_map.1 hx
        have h1 := HF.out.hb; have h2 := HF.out.hp
        have hz0 : 0 ≤ q * (p : Int) := Int.mul_nonneg hq.1 (by omega)
        have hz1 : q * (p : Int) ≤ 4096 * (p : Int) := Int.mul_le_mul_of_nonneg_right (by omega) (by omega)
        simp at hi
        unfold I64; omega
      · cases hx) (fun W hW q hq => (((HM.out.below HW.out).map2.below hb).below hW).look_ok hq)))
  clear kk
  go_region_with (first
    | ((go_at_call 41; with_reducible refine HK.out.mono ?_); rintro e w5 ⟨v5, rfl, hi5, hb5⟩; have HI5 := Lib.hid hi5; have HB5 := Lib.hid (show Below W1.heap.size W1 w5 from (Below.refl _ _).drew.trans hb5); have k5 : w5.cell? ⟨w1.heap.size, 4, none⟩ = some (.map (some m2)) := (HB5.out.cell (p := ⟨w1.heap.size, 4, none⟩) (by show w1.heap.size < W1.heap.size; omega)).trans k4; clear hi5 hb5)
    | ((go_at_call 39; with_reducible refine (HIN.out _ _ HI5.out HB5.out).mono ?_); rintro e w6 hsq; have HSQ := Lib.hid (hsq.later (HW.out.trans (HB5.out.mono HW.out.size))); obtain ⟨B6, v6, rfl, _⟩ := hsq))
  all_goals
    go_wp2
    go_ret
    exact HSQ.out
end
end Go.Proofs.Yteiemegkdnjpgaa
