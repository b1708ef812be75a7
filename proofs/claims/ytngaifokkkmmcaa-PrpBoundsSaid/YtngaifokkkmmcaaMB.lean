/- Build and Spans with two lists, the second behind the first. Conditions stand in each theorem. -/
import Derived.Test.YtngaifokkkmmcaaMA
namespace Go.Proofs.Ytngaifokkkmmcaa
open Go.RowKit Go.Shelf
set_option linter.unusedVariables false
set_option maxHeartbeats 4000000
set_option maxRecDepth 100000
/-- The memory behind Build, and the second address. -/
def bldM (m : Mm) (l0 l1 : Nat) (ps : List Nat) : Mm :=
  if ps.length ≤ 1 then m else if ps.length ≤ rm l0 then m.ch l0 ((enc ps).length : Int) (enc ps)
  else (m.ch l0 ((enc (ps.take (rm l0 - 1) ++ [l1])).length : Int) (enc (ps.take (rm l0 - 1) ++ [l1]))).ch l1 ((enc (ps.drop (rm l0 - 1))).length : Int) (enc (ps.drop (rm l0 - 1)))
def bldS (l0 : Nat) (ps : List Nat) : Nat := match ps with | [] => 0 | [x] => x | _ => l0
theorem bldM_len {m : Mm} {l0 l1 : Nat} {ps : List Nat} : (bldM m l0 l1 ps).B.length = m.B.length := by
  unfold bldM
  split
  · rfl
  · split
    · exact ch_len
    · rw [ch_len, ch_len]
theorem bldM_gm {m : Mm} {l0 l1 : Nat} {ps : List Nat} (h : Gm m) (hL : m.L.length < 999999) : Gm (bldM m l0 l1 ps) := by
  unfold bldM
  split
  · exact h
  · split
    · exact h.ch (by omega) (fun _ => rfl)
    · exact (h.ch (by omega) (fun _ => rfl)).ch (Nat.lt_of_le_of_lt Mm.ch_L (by omega)) (fun _ => rfl)
theorem bldS_ge {l0 : Nat} {ps : List Nat} (h : 2 ≤ ps.length) : bldS l0 ps = l0 := by
  match ps, h with
  | x :: y :: zs, _ => rfl
section
variable {w : World} {base b d cap : Nat} {m : Mm}
theorem Build_lists (h : Mem w base b d cap m) (hG : Gm m) (hL : m.L.length < 999999) (vl vp : Value) (l0 l1 p0 : Nat) (ps : List Nat) (F n : Nat) (hF : F < 4096) (hF4 : F % 4 = 0) (hn0 : 0 < n) (hn : n ≤ 1048576) (hl : U64s w vl [l0, l1]) (hol : ∀ g, vl.ownBlock = some g → ¬ (g = b ∨ g = d))
    (hp : U64s w vp (p0 :: ps)) (hop : ∀ g, vp.ownBlock = some g → ¬ (g = b ∨ g = d)) (hpl : (p0 :: ps).length = cnt F (n : Int)) (hpa : aln 4096 (p0 :: ps) = true) (hll : l0 + te l0 = l1) (h8 : l0 % 8 = 0) (hB : l1 + 4096 ≤ m.B.length) :
    Calls Try.prog 15 #[.pointer (some ⟨b, 0, none⟩), vl, vp, .int .i64 (F : Int), .int .i64 (n : Int)] w (BdP w base b d cap (.ok (bldM m l0 l1 ps, p0 + F, bldS l0 ps))) := by
  have hl1m : l1 % 4096 = 0 := by rw [← hll]; unfold te; omega
  have hcl := cnt_le F (n : Int)
  have hlen : ps.length + 1 ≤ 257 := by simp at hpl; omega
  have hrm := rm_le l0
  have hrt : rm l0 * 8 = te l0 := by unfold rm te; omega
  have hte := te_le l0
  refine Build_go h hG vl vp [l0, l1] p0 ps F n hF hF4 hn0 hn hl (by simp) (by simp [alst, aln, h8, hl1m]) hp hop hpl hpa (.ok (bldM m l0 l1 ps, bldS l0 ps)) (fun W v hb hv ho => ?_)
  have hov : ∀ g, v.ownBlock = some g → ¬ (g = b ∨ g = d) := ho (fun g => g = b ∨ g = d) hop
  by_cases h2 : 2 ≤ ps.length
  · rw [bldS_ge h2]
    by_cases hc : ps.length ≤ rm l0
    · have hz : m.chk l0 ((ps.length * 8 : Nat) : Int) = 0 := Mm.chk_of (by omega)
      have e0 : lsts l0 ((ps.length : Int) + 1) = 1 := by unfold lsts; rw [if_neg (by omega), if_pos (by omega)]
      have e1 : bldM m l0 l1 ps = m.ch l0 ((enc ps).length : Int) (enc ps) := by unfold bldM; rw [if_neg (by omega), if_pos hc]
      have e2 : wl1 m l0 ps = .ok (bldM m l0 l1 ps) := by unfold wl1; rw [if_pos hz, e1]
      refine further_go (h.below hb) vl v l0 [l1] ps (hl.below hb) hv (fun _ => hol) h2 (by omega) (by simp) (by rw [e0]; simp) (by rw [e0]; exact Nat.le_refl 1) (.ok (bldM m l0 l1 ps)) (fun W2 v2 hb2 hu2 ho2 => ?_)
      rw [e0] at hu2
      rw [← e2]
      exact writeLists_1 ((h.below hb).below hb2) hG v2 v l0 ps hu2 (hv.below hb2) (fun _ => ho2) (fun _ => hov) (by omega)
    · have e0 : lsts l0 ((ps.length : Int) + 1) = 2 := by unfold lsts; rw [if_neg (by omega), if_neg (by omega)]
      have hly : (ps.take (rm l0 - 1) ++ [l1]).length = rm l0 := by rw [List.length_append, List.length_take]; simp; omega
      have hld : (ps.drop (rm l0 - 1)).length = ps.length - (rm l0 - 1) := List.length_drop
      have hz : m.chk l1 (((ps.drop (rm l0 - 1)).length * 8 : Nat) : Int) = 0 := Mm.chk_of (by rw [hld]; omega)
      have hz0 : m.chk l0 (((ps.take (rm l0 - 1) ++ [l1]).length * 8 : Nat) : Int) = 0 := Mm.chk_of (by rw [hly]; omega)
      have e2 : wl2 m l0 l1 ps = .ok (bldM m l0 l1 ps) := by unfold wl2 bldM; rw [if_pos hz, if_neg (by omega), if_neg hc]
      refine further_go (h.below hb) vl v l0 [l1] ps (hl.below hb) hv (fun _ => hol) h2 (by omega) (by simp) (by rw [e0]; simp) (by rw [e0]; decide) (.ok (bldM m l0 l1 ps)) (fun W2 v2 hb2 hu2 ho2 => ?_)
      rw [e0] at hu2
      rw [← e2]
      exact writeLists_2 ((h.below hb).below hb2) hG hL v2 v l0 l1 ps hu2 (hv.below hb2) (fun _ => ho2) (fun _ => hov) (by omega) (by omega) hz0
  · have e1 : bldM m l0 l1 ps = m := by unfold bldM; rw [if_pos (by omega)]
    rw [e1]
    match ps, h2, hv with
    | [], _, hv => exact further_0 (h.below hb) vl v hv
    | [x], _, hv => exact further_1 (h.below hb) vl v x hv
    | x :: y :: zs, h2, _ => exact absurd (by simp) h2
/-- Build of nothing. -/
theorem spE_bld (l0 l1 p0 : Nat) (ps : List Nat) (F n : Nat) (hF : F < 4096) (hF4 : F % 4 = 0) (hn : n ≤ 1048576) (hpl : (p0 :: ps).length = cnt F (n : Int)) (hpa : aln 4096 (p0 :: ps) = true) (hx : ∀ x ∈ p0 :: ps, x + 4096 ≤ m.B.length) (hm : m.B.length ≤ 4194304)
    (hll : l0 + te l0 = l1) (h8 : l0 % 8 = 0) (hB : l1 + 4096 ≤ m.B.length) : spE (bldM m l0 l1 ps) (p0 + F) (bldS l0 ps) (n : Int) = .ok (spl n ((p0 + F) :: ps)) := by
  have hl1m : l1 % 4096 = 0 := by rw [← hll]; unfold te; omega
  have hpm : ∀ x ∈ p0 :: ps, x % 4096 = 0 := fun x hx => by simpa using List.all_eq_true.1 hpa x hx
  have hp0 := hpm p0 (by simp)
  have hcl := cnt_le F (n : Int)
  have hlen : ps.length + 1 ≤ 257 := by simp at hpl; omega
  have hrt : rm l0 * 8 = te l0 := by unfold rm te; omega
  have hte := te_le l0
  have hlt : ∀ x ∈ ps, x < 18446744073709551616 := fun x hxx => by have := hx x (List.mem_cons_of_mem _ hxx); omega
  refine spE_pages ps (fun j => if ps.length ≤ rm l0 then l0 + j * 8 else if j ≤ rm l0 - 1 then l0 + j * 8 else l1 + (j - (rm l0 - 1)) * 8) (by omega) (fun x hxx => hpm x (List.mem_cons_of_mem _ hxx)) (fun h1 => ?_) (fun h2 => ⟨?_, ?_, fun j hj => ?_⟩) (fun x hxx => ?_) hn ?_
  · match ps, h1 with
    | [x], _ => rfl
  · rw [bldS_ge h2]; exact h8
  · rw [bldS_ge h2]
    split
    · omega
    · rw [if_pos (by omega)]; omega
  · unfold bldM
    rw [if_neg (by omega)]
    by_cases hc : ps.length ≤ rm l0
    · rw [if_pos hc, if_pos hc, if_pos hc]
      exact lst_one (Mm.chk_of (by omega)) h8 hc hlt j hj
    · rw [if_neg hc, if_neg hc, if_neg hc]
      exact lst_two hll h8 hB (by omega) (by omega) (by omega) hlt _ rfl j hj
  · rw [bldM_len]
    rcases List.mem_cons.1 hxx with rfl | h1
    · have := hx p0 (by simp)
      unfold te; omega
    · have := hx x (List.mem_cons_of_mem _ h1)
      have := hpm x (List.mem_cons_of_mem _ h1)
      unfold te; omega
  · have e : cnt (p0 + F) (n : Int) = cnt F (n : Int) := by unfold cnt; rw [show (p0 + F) % 4096 = F % 4096 by omega]
    rw [e, ← hpl]; rfl
end
end Go.Proofs.Ytngaifokkkmmcaa
