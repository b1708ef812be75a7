/- Memories: what stays sound, and writeLists. Conditions stand in each theorem. -/
import Derived.Test.YtngaifokkkmmcaaBD
namespace Go.Proofs.Ytngaifokkkmmcaa
open Go.RowKit
set_option linter.unusedVariables false
set_option maxHeartbeats 2000000
set_option maxRecDepth 100000
theorem Gm.ch {m : Mm} {a : Nat} {n : Int} {l : List UInt8} (h : Gm m) (hc : m.L.length < 1000000) (hn : m.chk a n = 0 → n = (l.length : Int)) : Gm (m.ch a n l) := by
  unfold Mm.ch
  by_cases hz : m.chk a n = 0
  · rw [if_pos hz]
    obtain ⟨k, rfl, hk⟩ := Mm.chk_ok hz
    have hkl : k = l.length := by have := hn hz; omega
    have hp : (pat m.B a l).length = m.B.length := pat_len (by omega)
    have h1 : Gm { m with B := pat m.B a l } := ⟨by show 0 < (pat m.B a l).length; rw [hp]; exact h.pos, by show (pat m.B a l).length ≤ _; rw [hp]; exact h.max, h.cnt, fun p hp' => by show p.1 ≤ (pat m.B a l).length ∧ p.2 ≤ (pat m.B a l).length; rw [hp]; exact h.fits p hp'⟩
    unfold Mm.log
    split
    · exact h1
    · refine ⟨h1.pos, h1.max, by show (m.L ++ [(a, l.length)]).length ≤ _; rw [List.length_append]; simp; omega, fun p hp' => ?_⟩
      rcases List.mem_append.1 hp' with h2 | h2
      · exact h1.fits p h2
      · rw [List.mem_singleton] at h2
        subst h2
        show a ≤ (pat m.B a l).length ∧ l.length ≤ (pat m.B a l).length
        rw [hp]
        omega
  · rw [if_neg hz]; exact h
theorem Gm.new {n : Nat} (h1 : 0 < n) (h2 : n ≤ 4194304) : Gm (Mm.new n) := ⟨by simpa [Mm.new] using h1, by simpa [Mm.new] using h2, by simp [Mm.new], fun p hp => by cases hp⟩
theorem Mm.chk_bad {m : Mm} {a : Nat} {n : Int} (h : 0 ≤ n) (hb : m.B.length < a ∨ ((m.B.length - a : Nat) : Int) < n) : m.chk a n = 3 := by
  unfold Mm.chk
  rw [if_neg (by omega), if_neg (by omega)]
theorem Mm.ch_bad {m : Mm} {a : Nat} {n : Int} {l : List UInt8} (h : m.chk a n ≠ 0) : m.ch a n l = m := by unfold Mm.ch; rw [if_neg h]
theorem Mm.ch_B {m : Mm} {a : Nat} {n : Int} {l : List UInt8} (h : m.chk a n = 0) : (m.ch a n l).B = pat m.B a l := by
  unfold Mm.ch Mm.log
  rw [if_pos h]
  split <;> rfl
theorem Mm.ch_L {m : Mm} {a : Nat} {n : Int} {l : List UInt8} : (m.ch a n l).L.length ≤ m.L.length + 1 := by
  unfold Mm.ch Mm.log
  split
  · split
    · exact Nat.le_succ _
    · rw [List.length_append]; exact Nat.le_refl _
  · exact Nat.le_succ _
/-- What writing one list, two lists leaves. -/
def wl1 (m : Mm) (l0 : Nat) (xs : List Nat) : Except Int Mm :=
  if m.chk l0 ((xs.length * 8 : Nat) : Int) = 0 then .ok (m.ch l0 ((enc xs).length : Int) (enc xs)) else .error (m.chk l0 ((xs.length * 8 : Nat) : Int))
def wl2 (m : Mm) (l0 l1 : Nat) (xs : List Nat) : Except Int Mm :=
  if m.chk l1 (((xs.drop (rm l0 - 1)).length * 8 : Nat) : Int) = 0 then .ok ((m.ch l0 ((enc (xs.take (rm l0 - 1) ++ [l1])).length : Int) (enc (xs.take (rm l0 - 1) ++ [l1]))).ch l1 ((enc (xs.drop (rm l0 - 1))).length : Int) (enc (xs.drop (rm l0 - 1))))
  else .error (m.chk l1 (((xs.drop (rm l0 - 1)).length * 8 : Nat) : Int))
def WlP (w : World) (base b d cap : Nat) (r : Except Int Mm) (e : Ending) (w' : World) : Prop :=
  match r with
  | .ok m' => e = .returned (.tuple #[]) ∧ Mem w' base b d cap m' ∧ Chg (fun k => k = b ∨ k = d) w w'
  | .error q => e = Pan q ∧ Below w.heap.size w w'
section
variable {w : World} {base b d cap : Nat} {m : Mm}
/-- writeLists, where the first walk through the lists returns, where it raises an error. -/
theorem writeLists_ok (h : Mem w base b d cap m) (m' : Mm) (vl va : Value)
    (H1 : ∀ W0, W0 = w.alloc (.cells #[.pointer (some ⟨b, 0, none⟩)] 24) → Calls Try.prog 67 #[vl, va, .func (.func 68) #[] #[.pointer (some ⟨w.heap.size, 0, none⟩)]] W0 fun e W' => e = .returned (.tuple #[]) ∧ Below W0.heap.size W0 W')
    (H2 : ∀ W, Below w.heap.size w W → W.cell? ⟨w.heap.size, 0, none⟩ = some (.pointer (some ⟨b, 0, none⟩)) → Calls Try.prog 67 #[vl, va, .func (.func 69) #[] #[.pointer (some ⟨w.heap.size, 0, none⟩)]] W fun e W' => e = .returned (.tuple #[]) ∧ Mem W' base b d cap m' ∧ Chg (fun k => k = b ∨ k = d) w W') :
    Calls Try.prog 61 #[.pointer (some ⟨b, 0, none⟩), vl, va] w (WlP w base b d cap (.ok m')) := by
  have bA := below_alloc w (.cells #[.pointer (some ⟨b, 0, none⟩)] 24)
  have cA := box_cell w (.pointer (some ⟨b, 0, none⟩)) 24
  have sA : (w.alloc (.cells #[.pointer (some ⟨b, 0, none⟩)] 24)).heap.size = w.heap.size + 1 := World.size_alloc _ _
  have HX := Lib.hid (H1 _ rfl)
  obtain ⟨W0, hW0⟩ : ∃ W0, W0 = w.alloc (.cells #[.pointer (some ⟨b, 0, none⟩)] 24) := ⟨_, rfl⟩
  rw [← hW0] at bA cA sA HX
  have HZ : Hid (∀ W', Below W0.heap.size W0 W' → Calls Try.prog 67 #[vl, va, .func (.func 69) #[] #[.pointer (some ⟨w.heap.size, 0, none⟩)]] W' fun e W' => e = .returned (.tuple #[]) ∧ Mem W' base b d cap m' ∧ Chg (fun k => k = b ∨ k = d) w W') := Lib.hid fun W' hb =>
    H2 W' (bA.trans (hb.mono (by omega))) ((hb.cell (p := ⟨w.heap.size, 0, none⟩) (by show w.heap.size < _; omega)).trans cA)
  clear h H1 H2 bA cA sA
  go_enter Try.func61, Try.ntmps61
  go_wp2_with fail
  rw [← hW0]
  with_reducible refine HX.out.mono ?_
  rintro e w1 ⟨rfl, hb⟩
  have HY := Lib.hid (HZ.out w1 hb)
  clear hb
  go_wp2_with fail
  with_reducible refine HY.out.mono ?_
  rintro e w2 ⟨rfl, hm⟩
  have HM := Lib.hid hm
  clear hm
  go_wp2
  go_end0
  exact ⟨rfl, HM.out⟩
theorem writeLists_no (q : Int) (vl va : Value)
    (H1 : ∀ W0, W0 = w.alloc (.cells #[.pointer (some ⟨b, 0, none⟩)] 24) → Calls Try.prog 67 #[vl, va, .func (.func 68) #[] #[.pointer (some ⟨w.heap.size, 0, none⟩)]] W0 fun e W' => e = Pan q ∧ Below W0.heap.size W0 W') :
    Calls Try.prog 61 #[.pointer (some ⟨b, 0, none⟩), vl, va] w (WlP w base b d cap (.error q)) := by
  have bA := below_alloc w (.cells #[.pointer (some ⟨b, 0, none⟩)] 24)
  have sA : (w.alloc (.cells #[.pointer (some ⟨b, 0, none⟩)] 24)).heap.size = w.heap.size + 1 := World.size_alloc _ _
  have HX := Lib.hid (H1 _ rfl)
  obtain ⟨W0, hW0⟩ : ∃ W0, W0 = w.alloc (.cells #[.pointer (some ⟨b, 0, none⟩)] 24) := ⟨_, rfl⟩
  rw [← hW0] at bA sA HX
  have HZ : Hid (∀ W', Below W0.heap.size W0 W' → Below w.heap.size w W') := Lib.hid fun W' hb => bA.trans (hb.mono (by omega))
  clear H1 bA sA
  go_enter Try.func61, Try.ntmps61
  go_wp2_with fail
  rw [← hW0]
  with_reducible refine HX.out.mono ?_
  rintro e w1 ⟨rfl, hb⟩
  exact ⟨rfl, rfl, HZ.out _ hb⟩
/-- What stays of an argument's slice. -/
def Off2 (b d : Nat) (v : Value) (n : Nat) : Prop := 0 < n → ∀ g, v.ownBlock = some g → ¬ (g = b ∨ g = d)
theorem writeLists_1 (h : Mem w base b d cap m) (hG : Gm m) (vl va : Value) (l0 : Nat) (xs : List Nat) (hvl : U64s w vl [l0]) (hva : U64s w va xs) (hol : Off2 b d vl 1) (hoa : Off2 b d va xs.length) (hm : xs.length ≤ 1000) :
    Calls Try.prog 61 #[.pointer (some ⟨b, 0, none⟩), vl, va] w (WlP w base b d cap (wl1 m l0 xs)) := by
  have hl0 := hvl.lt (j := 0) (by simp)
  simp only [List.getElem_cons_zero] at hl0
  have bA := below_alloc w (.cells #[.pointer (some ⟨b, 0, none⟩)] 24)
  have cA := box_cell w (.pointer (some ⟨b, 0, none⟩)) 24
  have hbl := h.lt
  have hdl := h.dlt
  unfold wl1
  by_cases hz : m.chk l0 ((xs.length * 8 : Nat) : Int) = 0
  · rw [if_pos hz]
    refine writeLists_ok h _ vl va (fun W0 hW0 => ?_) (fun W hb hc => ?_)
    · subst hW0
      refine (divA_68 vl va l0 xs _ (fun W => W = w.alloc (.cells #[.pointer (some ⟨b, 0, none⟩)] 24)) (fun W => Below (w.alloc (.cells #[.pointer (some ⟨b, 0, none⟩)] 24)).heap.size (w.alloc (.cells #[.pointer (some ⟨b, 0, none⟩)] 24)) W) (fun _ _ => False) _ rfl (hvl.below bA) (hva.below bA) ?_).mono ?_
      · rintro W v rfl hv
        exact (put68_yes (h.below bA) hG l0 hl0 v xs _ cA hv (by omega) hz).mono fun e w' ⟨h1, h2⟩ => .inl ⟨h1, h2⟩
      · rintro e W' (h1 | ⟨c, -, hf⟩)
        · exact h1
        · exact hf.elim
    · refine (divA_69 vl va l0 xs _ (fun W' => W' = W) (fun W' => Mem W' base b d cap (m.ch l0 ((enc xs).length : Int) (enc xs)) ∧ Chg (fun k => k = b ∨ k = d) w W') (fun _ _ => False) _ rfl (hvl.below hb) (hva.below hb) ?_).mono ?_
      · rintro W v rfl hv
        exact (put69 (h.below hb) hG l0 hl0 v xs _ hc (by omega) hv (by omega)).mono fun e w' ⟨h1, h2, h3⟩ => .inl ⟨h1, h2, (Chg.of_below hb).also h3⟩
      · rintro e W' (h1 | ⟨c, -, hf⟩)
        · exact h1
        · exact hf.elim
  · rw [if_neg hz]
    refine writeLists_no _ vl va (fun W0 hW0 => ?_)
    subst hW0
    refine (divA_68 vl va l0 xs _ (fun W => W = w.alloc (.cells #[.pointer (some ⟨b, 0, none⟩)] 24)) (fun _ => False) (fun c W => c = [{ v := .iface 38 (.int .i64 (m.chk l0 ((xs.length * 8 : Nat) : Int))), recovered := false }] ∧ Below (w.alloc (.cells #[.pointer (some ⟨b, 0, none⟩)] 24)).heap.size (w.alloc (.cells #[.pointer (some ⟨b, 0, none⟩)] 24)) W) _ rfl (hvl.below bA) (hva.below bA) ?_).mono ?_
    · rintro W v rfl hv
      exact (put68_no (h.below bA) hG l0 hl0 v xs _ cA hv (by omega) hz).mono fun e w' ⟨h1, h2⟩ => .inr ⟨_, h1, rfl, h2⟩
    · rintro e W' (⟨-, hf⟩ | ⟨c, rfl, rfl, h2⟩)
      · exact hf.elim
      · exact ⟨rfl, h2⟩
theorem writeLists_2 (h : Mem w base b d cap m) (hG : Gm m) (hL : m.L.length < 999999) (vl va : Value) (l0 l1 : Nat) (xs : List Nat) (hvl : U64s w vl [l0, l1]) (hva : U64s w va xs) (hol : Off2 b d vl 2) (hoa : Off2 b d va xs.length) (hm : xs.length ≤ 1000) (hn : rm l0 - 1 ≤ xs.length)
    (hz0 : m.chk l0 (((xs.take (rm l0 - 1) ++ [l1]).length * 8 : Nat) : Int) = 0) :
    Calls Try.prog 61 #[.pointer (some ⟨b, 0, none⟩), vl, va] w (WlP w base b d cap (wl2 m l0 l1 xs)) := by
  have hl0 := hvl.lt (j := 0) (by simp)
  have hl1 := hvl.lt (j := 1) (by simp)
  simp only [List.getElem_cons_zero, List.getElem_cons_succ] at hl0 hl1
  have bA := below_alloc w (.cells #[.pointer (some ⟨b, 0, none⟩)] 24)
  have cA := box_cell w (.pointer (some ⟨b, 0, none⟩)) 24
  have sA : (w.alloc (.cells #[.pointer (some ⟨b, 0, none⟩)] 24)).heap.size = w.heap.size + 1 := World.size_alloc _ _
  have hbl := h.lt
  have hdl := h.dlt
  obtain ⟨ys, hys⟩ : ∃ ys, ys = xs.take (rm l0 - 1) ++ [l1] := ⟨_, rfl⟩
  obtain ⟨zs, hzs⟩ : ∃ zs, zs = xs.drop (rm l0 - 1) := ⟨_, rfl⟩
  have hyl : ys.length ≤ 1001 := by rw [hys, List.length_append, List.length_take]; simp; omega
  have hzl : zs.length ≤ 1000 := by rw [hzs, List.length_drop]; omega
  obtain ⟨W0, hW0⟩ : ∃ W0, W0 = w.alloc (.cells #[.pointer (some ⟨b, 0, none⟩)] 24) := ⟨_, rfl⟩
  rw [← hW0] at bA cA sA
  unfold wl2
  rw [← hys] at hz0 ⊢
  rw [← hzs]
  have k1 : ∀ W, Below W0.heap.size W0 W → Below w.heap.size w W := fun W hb => bA.trans (hb.mono (by omega))
  have k2 : ∀ W, Below W0.heap.size W0 W → W.cell? ⟨w.heap.size, 0, none⟩ = some (.pointer (some ⟨b, 0, none⟩)) := fun W hb => (hb.cell (p := ⟨w.heap.size, 0, none⟩) (by show w.heap.size < _; omega)).trans cA
  have hp1 : PutY 68 w.heap.size l0 ys (fun W => Below W0.heap.size W0 W) (fun W => Below W0.heap.size W0 W) := by
    intro W v hW hv
    exact (put68_yes (h.below (k1 W hW)) hG l0 hl0 v ys _ (k2 W hW) hv (by omega) hz0).mono fun e w' ⟨a1, a2⟩ => ⟨a1, hW.trans (a2.mono hW.size)⟩
  by_cases hz : m.chk l1 ((zs.length * 8 : Nat) : Int) = 0
  · rw [if_pos hz]
    refine writeLists_ok h _ vl va (fun W0' hW0' => ?_) (fun W hb hc => ?_)
    · obtain rfl : W0' = W0 := by rw [hW0', hW0]
      have hp2 : PutC 68 w.heap.size l1 zs (fun W => Below W0'.heap.size W0' W) (fun W => Below W0'.heap.size W0' W) (fun _ _ => False) := by
        intro W v hW hv
        exact (put68_yes (h.below (k1 W hW)) hG l1 hl1 v zs _ (k2 W hW) hv (by omega) hz).mono fun e w' ⟨a1, a2⟩ => .inl ⟨a1, hW.trans (a2.mono hW.size)⟩
      rw [hzs] at hp2
      rw [hys] at hp1
      refine (divB_68 vl va l0 l1 xs _ _ _ _ _ _ (Below.refl _ _) (fun W hW => hvl.below (k1 W (hW.elim id id))) (fun W hW => hva.below (k1 W (hW.elim id id)))
        (fun W W' hW hb => hW.trans (hb.mono hW.size)) (fun W W' hW hb => hW.trans (hb.mono hW.size)) hn hm hp1 hp2).mono ?_
      rintro e W' (h1 | ⟨c, -, hf⟩)
      · exact h1
      · exact hf.elim
    · have hwl := World.block_lt_of_cell? W _ hc
      have hwl2 : w.heap.size < W.heap.size := hwl
      have hq1 : PutY 69 w.heap.size l0 ys (fun W' => Below W.heap.size W W') (fun W' => Mem W' base b d cap (m.ch l0 ((enc ys).length : Int) (enc ys)) ∧ Chg (fun k => k = b ∨ k = d) W W') := by
        intro W1 v hW hv
        exact (put69 ((h.below hb).below hW) hG l0 hl0 v ys _ ((hW.cell (p := ⟨w.heap.size, 0, none⟩) hwl).trans hc) (by omega) hv (by omega)).mono fun e w' ⟨a1, a2, a3⟩ => ⟨a1, a2, (Chg.of_below hW).also a3⟩
      have hq2 : PutC 69 w.heap.size l1 zs (fun W' => Mem W' base b d cap (m.ch l0 ((enc ys).length : Int) (enc ys)) ∧ Chg (fun k => k = b ∨ k = d) W W') (fun W' => Mem W' base b d cap ((m.ch l0 ((enc ys).length : Int) (enc ys)).ch l1 ((enc zs).length : Int) (enc zs)) ∧ Chg (fun k => k = b ∨ k = d) W W') (fun _ _ => False) := by
        rintro W1 v ⟨hm1, hc1⟩ hv
        exact (put69 hm1 (hG.ch (by omega) (fun _ => rfl)) l1 hl1 v zs _ ((hc1.cell (p := ⟨w.heap.size, 0, none⟩) hwl (by show ¬ (w.heap.size = b ∨ w.heap.size = d); omega)).trans hc) (by omega) hv (by omega)).mono fun e w' ⟨a1, a2, a3⟩ => .inl ⟨a1, a2, hc1.also a3⟩
      have e1 : ∀ W', (Below W.heap.size W W' ∨ (Mem W' base b d cap (m.ch l0 ((enc ys).length : Int) (enc ys)) ∧ Chg (fun k => k = b ∨ k = d) W W')) → U64s W' vl [l0, l1] := fun W' hW => by
        rcases hW with h1 | ⟨-, h1⟩
        · exact (hvl.below hb).below h1
        · exact (hvl.below hb).chg h1 hol
      have e2 : ∀ W', (Below W.heap.size W W' ∨ (Mem W' base b d cap (m.ch l0 ((enc ys).length : Int) (enc ys)) ∧ Chg (fun k => k = b ∨ k = d) W W')) → U64s W' va xs := fun W' hW => by
        rcases hW with h1 | ⟨-, h1⟩
        · exact (hva.below hb).below h1
        · exact (hva.below hb).chg h1 hoa
      rw [hzs] at hq2
      rw [hys] at hq1 hq2 e1 e2
      rw [hys, hzs]
      refine (divB_69 vl va l0 l1 xs _ _ _ _ _ _ (Below.refl _ _) e1 e2 (fun W1 W2 hW hb2 => hW.trans (hb2.mono hW.size)) (fun W1 W2 hW hb2 => ⟨hW.1.below hb2, hW.2.then_below hb2⟩) hn hm hq1 hq2).mono fun e W' hd => ?_
      · rcases hd with ⟨h1, h2, h3⟩ | ⟨c, -, hf⟩
        · exact ⟨h1, h2, (Chg.of_below hb).also h3⟩
        · exact hf.elim
  · rw [if_neg hz]
    refine writeLists_no _ vl va (fun W0' hW0' => ?_)
    obtain rfl : W0' = W0 := by rw [hW0', hW0]
    have hp2 : PutC 68 w.heap.size l1 zs (fun W => Below W0'.heap.size W0' W) (fun _ => False) (fun c W => c = [{ v := .iface 38 (.int .i64 (m.chk l1 ((zs.length * 8 : Nat) : Int))), recovered := false }] ∧ Below W0'.heap.size W0' W) := by
      intro W v hW hv
      exact (put68_no (h.below (k1 W hW)) hG l1 hl1 v zs _ (k2 W hW) hv (by omega) hz).mono fun e w' ⟨a1, a2⟩ => .inr ⟨_, a1, rfl, hW.trans (a2.mono hW.size)⟩
    rw [hzs] at hp2 ⊢
    rw [hys] at hp1
    refine (divB_68 vl va l0 l1 xs _ _ _ _ _ _ (Below.refl _ _) (fun W hW => hvl.below (k1 W (hW.elim id id))) (fun W hW => hva.below (k1 W (hW.elim id id)))
      (fun W W' hW hb => hW.trans (hb.mono hW.size)) (fun W W' hW hb => hW.trans (hb.mono hW.size)) hn hm hp1 hp2).mono ?_
    rintro e W' (⟨-, hf⟩ | ⟨c, rfl, rfl, h2⟩)
    · exact hf.elim
    · exact ⟨rfl, h2⟩
end
end Go.Proofs.Ytngaifokkkmmcaa
