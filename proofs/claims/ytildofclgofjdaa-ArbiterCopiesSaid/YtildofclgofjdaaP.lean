/- The contract of Pick. Conditions stand in each theorem. -/
import Derived.Test.YtildofclgofjdaaN
namespace Go.Proofs.Ytildofclgofjdaa
open Go.RowKit
set_option linter.unusedVariables false
set_option maxHeartbeats 400000
set_option maxRecDepth 100000
/-- What holds of the state of every arbiter. -/
structure Ok (s : St) : Prop where
  srt : Srt s.L
  bu : 0 ≤ s.bu ∧ s.bu ≤ 128
  last : ∀ k, -1 ≤ s.last k ∧ s.last k ≤ 65535
  wgt : s.wt = true → ∀ k, 1 ≤ k → k ≤ 3 → 1 ≤ wts s.hi s.me s.lo k ∧ wts s.hi s.me s.lo k ≤ 256
  cr : s.wt = true → ∀ k, 1 ≤ k → k ≤ 3 → 0 ≤ s.cr k ∧ s.cr k ≤ 256
def St.cnt (s : St) (l : List (Int × Int)) (c : Nat) : Nat := (s.wait l c).length
def St.pkC (s : St) (l : List (Int × Int)) : Nat := s.chC (s.cnt l)
def St.pkP (s : St) (l : List (Int × Int)) : Int × Int := low ((s.chS (s.cnt l)).last (s.pkC l)) (s.wait l (s.pkC l))
def St.pk1 (s : St) (l : List (Int × Int)) : St := { s.chS (s.cnt l) with last := upd (s.chS (s.cnt l)).last (s.pkC l) (s.pkP l).1 }
def St.pkM (s : St) (l : List (Int × Int)) : Int := (s.pk1 l).tk (s.pkC l) (s.pkP l).2
def St.pkS (s : St) (l : List (Int × Int)) : St := (s.pk1 l).tkS (s.pkC l) (s.pkP l).2
def St.pkE (s : St) (l : List (Int × Int)) : Int := if acc s.L [] l = false then 2 else if anyB l = false then 9 else 0
theorem credF_lt (n : Nat → Nat) (cr : Nat → Int) : credF n cr < 4 := by unfold credF; split; decide; split; decide; split <;> decide
theorem chC_lt (s : St) (n : Nat → Nat) : s.chC n < 4 := by unfold St.chC; split; decide; exact credF_lt _ _
theorem chS_L (s : St) (n : Nat → Nat) : (s.chS n).L = s.L := by unfold St.chS; split <;> rfl
theorem chS_wt (s : St) (n : Nat → Nat) : (s.chS n).wt = s.wt := by unfold St.chS; split <;> rfl
theorem chS_bu (s : St) (n : Nat → Nat) : (s.chS n).bu = s.bu := by unfold St.chS; split <;> rfl
theorem chS_last (s : St) (n : Nat → Nat) : (s.chS n).last = s.last := by unfold St.chS; split <;> rfl
theorem chS_wts (s : St) (n : Nat → Nat) : (s.chS n).hi = s.hi ∧ (s.chS n).me = s.me ∧ (s.chS n).lo = s.lo := by unfold St.chS; split <;> exact ⟨rfl, rfl, rfl⟩
theorem chS_ok {s : St} (h : Ok s) (n : Nat → Nat) : Ok (s.chS n) := by
  obtain ⟨e1, e2, e3⟩ := chS_wts s n
  refine ⟨by rw [chS_L]; exact h.srt, by rw [chS_bu]; exact h.bu, by rw [chS_last]; exact h.last, by rw [chS_wt, e1, e2, e3]; exact h.wgt, ?_⟩
  rw [chS_wt]
  intro hw k h1 h3
  unfold St.chS
  split
  · have := h.wgt hw k h1 h3
    exact ⟨by show 0 ≤ wts s.hi s.me s.lo k; omega, this.2⟩
  · exact h.cr hw k h1 h3
/-- A class other than 0 waits with Weighted alone. -/
theorem wait_wt {s : St} {l : List (Int × Int)} {c : Nat} (hc : c ≠ 0) (h : 0 < (s.wait l c).length) : s.wt = true := by
  cases e : s.wait l c with
  | nil => rw [e] at h; cases h
  | cons p r =>
    have hm : p ∈ s.wait l c := by rw [e]; exact List.mem_cons_self
    unfold St.wait at hm
    rw [List.mem_filter] at hm
    obtain ⟨_, hm⟩ := hm
    simp only [Bool.and_eq_true, beq_iff_eq] at hm
    cases hw : s.wt with
    | true => rfl
    | false =>
      have := hm.2
      unfold St.cls at this
      rw [hw] at this
      simp at this
      omega
theorem credF_pos {n : Nat → Nat} {cr : Nat → Int} (h : credF n cr ≠ 0) : 0 < n (credF n cr) ∧ 0 < cr (credF n cr) := by
  unfold credF at h ⊢
  split
  · assumption
  · split
    · assumption
    · split
      · assumption
      · rename_i h1 h2 h3
        rw [if_neg h1, if_neg h2, if_neg h3] at h
        exact absurd rfl h
/-- A waiting load has a class, from 0 to 3. -/
theorem wait_some {s : St} (hs : Srt s.L) {l : List (Int × Int)} (h : anyB l = true) : ∃ c, c < 4 ∧ 0 < s.cnt l c := by
  unfold anyB at h
  rw [List.any_eq_true] at h
  obtain ⟨p, hp, hn⟩ := h
  have hc : 0 ≤ s.cls p.1 ∧ s.cls p.1 ≤ 3 := by unfold St.cls; split; exact look_cls hs p.1; omega
  refine ⟨(s.cls p.1).toNat, by omega, ?_⟩
  unfold St.cnt
  rw [List.length_pos_iff_exists_mem]
  refine ⟨p, ?_⟩
  unfold St.wait
  rw [List.mem_filter]
  refine ⟨hp, ?_⟩
  simp only [Bool.and_eq_true, beq_iff_eq]
  exact ⟨hn, by omega⟩
theorem credF_of {n : Nat → Nat} {cr : Nat → Int} {c : Nat} (h1 : 1 ≤ c) (h3 : c ≤ 3) (hn : 0 < n c) (hc : 0 < cr c) : credF n cr ≠ 0 := by
  unfold credF
  split
  · decide
  · rename_i x1
    split
    · decide
    · rename_i x2
      split
      · decide
      · rename_i x3
        have : c = 1 ∨ c = 2 ∨ c = 3 := by omega
        rcases this with rfl | rfl | rfl
        · exact absurd (And.intro hn hc) x1
        · exact absurd (And.intro hn hc) x2
        · exact absurd (And.intro hn hc) x3
/-- The class of a pick has waiting loads, and a credit. -/
theorem pkC_pos {s : St} (h : Ok s) {l : List (Int × Int)} (ha : anyB l = true) : 0 < (s.wait l (s.pkC l)).length ∧ (s.pkC l ≠ 0 → 0 < (s.chS (s.cnt l)).cr (s.pkC l) ∧ s.wt = true) := by
  unfold St.pkC St.chC
  by_cases h0 : 0 < s.cnt l 0
  · rw [if_pos h0]
    exact ⟨h0, fun h => absurd rfl h⟩
  · rw [if_neg h0]
    have hne : credF (s.cnt l) (s.chS (s.cnt l)).cr ≠ 0 := by
      obtain ⟨c, hc4, hcn⟩ := wait_some h.srt (s := s) ha
      have hc0 : c ≠ 0 := by rintro rfl; exact h0 hcn
      have hw := wait_wt hc0 hcn
      by_cases ho : credF (s.cnt l) s.cr = 0
      · have e : s.chS (s.cnt l) = s.fresh := by unfold St.chS overB; rw [if_pos (by simp [ho]; omega)]
        rw [e]
        exact credF_of (c := c) (by omega) (by omega) hcn (by have := h.wgt hw c (by omega) (by omega); show 0 < wts s.hi s.me s.lo c; omega)
      · have e : s.chS (s.cnt l) = s := by unfold St.chS overB; rw [if_neg (by simp [ho])]
        rw [e]
        exact ho
    have hp := credF_pos hne
    exact ⟨hp.1, fun _ => ⟨hp.2, wait_wt hne hp.1⟩⟩
theorem wait_nums {s : St} (hs : Srt s.L) {l : List (Int × Int)} (h : acc s.L [] l = true) (c : Nat) : NumsIn (s.wait l c) := by
  have key : ∀ (l : List (Int × Int)) (seen : List Int), acc s.L seen l = true → ∀ p ∈ l, (look s.L p.1).isSome = true ∧ 0 ≤ p.2 := by
    intro l
    induction l with
    | nil => intro _ _ p hp; cases hp
    | cons x r ih =>
      intro seen h p hp
      rw [acc] at h
      split at h
      · cases h
      · rename_i hh
        rcases List.mem_cons.1 hp with rfl | hp
        · refine ⟨?_, ?_⟩
          · cases e : (look s.L p.1).isSome with
            | true => rfl
            | false => exact absurd (.inl e) hh
          · rcases Int.lt_or_le p.2 0 with e | e
            · exact absurd (.inr (.inl e)) hh
            · exact e
        · exact ih _ h p hp
  intro p hp
  unfold St.wait at hp
  exact look_num hs (key l [] h p (List.mem_filter.1 hp).1).1
theorem Lds.of_own {w : World} {base : Nat} {v : Value} {l : List (Int × Int)} (h : w.ownsRow base 48 2 v l.length (lv l)) : Lds w v l := by
  rcases h.2 with ⟨rfl, h0⟩ | ⟨g, cap, cur, rfl, _, hg, hnc, _, hsz, htk⟩
  · exact ⟨none, 0, by rw [h0], by omega, fun hp => absurd hp (by omega)⟩
  · refine ⟨_, cap, rfl, hnc, fun hp => ⟨g, 0, rfl, (Array.getElem?_eq_some_iff.1 hg).1, fun j hj => ?_⟩⟩
    have hcell : ∀ i x, i < l.length * 2 → (lv l)[i]? = some x → w.cell? ⟨g, i, none⟩ = some x := fun i x hi hx => by
      rw [cell_of_row w g i cur 48 (0, 0) hg]
      rw [← htk, List.getElem?_take_of_lt hi] at hx
      simpa using hx
    have h2 := lv_at l j hj
    exact ⟨by rw [Nat.zero_add]; exact hcell _ _ (by omega) h2.1, by rw [Nat.zero_add]; exact hcell _ _ (by omega) h2.2⟩
theorem Off.of_own {w : World} {base b : Nat} {v : Value} {l : List (Int × Int)} {n : Nat} {xs : List Value} (h : w.ownsRow base 48 2 v n xs) (hb : b < base) : Off (· = b) v l := fun _ i hi e => by
  have := (h.lt i hi).1
  omega
theorem wait_all (s : St) (l : List (Int × Int)) (c : Nat) : (s.wait l c).length ≤ l.length := List.length_filter_le _ _
def PickErr (w : World) (E : Int) (e : Ending) (w' : World) : Prop := e = .returned (.tuple #[.int .i64 0, .int .i64 0, .int .i64 E]) ∧ Below w.heap.size w w'
theorem Pick_bad (b m : Nat) (s : St) (w : World) (h : Arb w b m s) (v : Value) (l : List (Int × Int)) (hl : Lds w v l) (hR : Rng l) (hm : l.length ≤ 1000000000) (hE : s.pkE l ≠ 0) :
    Calls Try.prog 17 #[.pointer (some ⟨b, 0, none⟩), v] w (PickErr w (s.pkE l)) := by
  have k5 := h.cMap
  have HA := Lib.hid (accepts_any b m s w h v l hl hR (by omega))
  have HC := Lib.hid (fun (W : World) (hW : Below w.heap.size w W) => Contains_any v l W (hl.below hW) (by omega))
  cases ha : acc s.L [] l
  · have e1 : s.pkE l = 2 := by unfold St.pkE; rw [if_pos ha]
    rw [e1]
    clear h hl hR hE e1
    have HA2 := HA.out
    rw [ha] at HA2
    have HA3 := Lib.hid HA2
    clear HA HA2 ha
    go_enter Try.func17, Try.ntmps17
    go_wp2_with (first
      | ((go_at_call 30; with_reducible refine (missing_not _ m _ k5).mono ?_); rintro e w' ⟨rfl, rfl⟩)
      | ((go_at_call 32; with_reducible refine HA3.out.mono ?_); rintro e w' ⟨rfl, hb⟩))
    go_ret3
    exact ⟨rfl, hb⟩
  · cases hc : anyB l
    · have e1 : s.pkE l = 9 := by unfold St.pkE; rw [if_neg (by simp [ha]), if_pos hc]
      rw [e1]
      clear h hl hR hE e1
      have HA2 := HA.out
      rw [ha] at HA2
      have HA3 := Lib.hid HA2
      have HC2 := HC.out
      rw [hc] at HC2
      have HC3 := Lib.hid HC2
      clear HA HA2 ha HC HC2 hc
      go_enter Try.func17, Try.ntmps17
      go_wp2_with (first
        | ((go_at_call 30; with_reducible refine (missing_not _ m _ k5).mono ?_); rintro e w' ⟨rfl, rfl⟩)
        | ((go_at_call 32; with_reducible refine HA3.out.mono ?_); rintro e w1 ⟨rfl, hb⟩; have HB := Lib.hid hb; clear hb)
        | ((go_at_call 33; with_reducible refine (HC3.out _ HB.out).mono ?_); rintro e w2 ⟨rfl, hb2⟩))
      go_ret3
      exact ⟨rfl, HB.out.trans (hb2.mono HB.out.size)⟩
    · exact absurd (by unfold St.pkE; rw [if_neg (by simp [ha]), if_neg (by simp [hc])]) hE
def f4 {α : Type} (a b c d : α) (i : Nat) : α := if i = 0 then a else if i = 1 then b else if i = 2 then c else d
def PickPost (w : World) (b m : Nat) (s : St) (q n : Int) (e : Ending) (w' : World) : Prop := e = .returned (.tuple #[.int .i64 q, .int .i64 n, .int .i64 0]) ∧ Arb w' b m s ∧ Chg (· = b) w w'
set_option maxHeartbeats 4000000 in
theorem Pick_ok (b m : Nat) (s : St) (w : World) (h : Arb w b m s) (hs : Ok s) (v : Value) (l : List (Int × Int)) (hl : Lds w v l) (hR : Rng l) (hm : l.length ≤ 1000000000) (ha : acc s.L [] l = true) (hc : anyB l = true) :
    Calls Try.prog 17 #[.pointer (some ⟨b, 0, none⟩), v] w (PickPost w b m (s.pkS l) (s.pkP l).1 (s.pkM l)) := by
  have k5 := h.cMap
  have HA := accepts_any b m s w h v l hl hR (by omega)
  rw [ha] at HA
  have HA3 := Lib.hid HA
  have HC := fun (W : World) (hW : Below w.heap.size w W) => Contains_any v l W (hl.below hW) (by omega)
  rw [hc] at HC
  have HC3 := Lib.hid HC
  have HY := Lib.hid (fun (W : World) (hW : Below w.heap.size w W) => byClass_any b m s W (h.below hW) hs.srt v l (hl.below hW) hR hm)
  have H := Lib.hid h
  have HP := Lib.hid (pkC_pos hs hc)
  have HNUM := Lib.hid (wait_nums hs.srt ha)
  have HOK := Lib.hid hs
  have HLT := Lib.hid h.lt
  clear h hl hR ha hc HA HC hs
  go_enter Try.func17, Try.ntmps17
  go_wp2_with (first
    | ((go_at_call 30; with_reducible refine (missing_not _ m _ k5).mono ?_); rintro e w' ⟨rfl, rfl⟩)
    | ((go_at_call 32; with_reducible refine HA3.out.mono ?_); rintro e w1 ⟨rfl, hb⟩; have HB1 := Lib.hid hb; clear hb)
    | ((go_at_call 33; with_reducible refine (HC3.out _ HB1.out).mono ?_); rintro e w2 ⟨rfl, hb2⟩; have HB2 := Lib.hid (HB1.out.trans (hb2.mono HB1.out.size)); clear hb2)
    | ((go_at_call 35; with_reducible refine (HY.out _ HB2.out).mono ?_); rintro e w3 ⟨V, rfl, hown, hb3⟩
       obtain ⟨A0, n0, x0⟩ := own_form (hown 0 (by decide))
       obtain ⟨A1, n1, x1⟩ := own_form (hown 1 (by decide))
       obtain ⟨A2, n2, x2⟩ := own_form (hown 2 (by decide))
       obtain ⟨A3, n3, x3⟩ := own_form (hown 3 (by decide))
       rw [x0, x1, x2, x3]
       have HB3 := Lib.hid (HB2.out.trans (hb3.mono HB2.out.size))
       have HO3 := Lib.hid hown
       have X0 := Lib.hid x0
       have X1 := Lib.hid x1
       have X2 := Lib.hid x2
       have X3 := Lib.hid x3
       clear hown hb3 x0 x1 x2 x3))
  have hV : ∀ i, i < 4 → V i = .slice (f4 A0 A1 A2 A3 i) (s.cnt l i) (f4 n0 n1 n2 n3 i) := fun i hi => by
    match i, hi with
    | 0, _ => exact X0.out
    | 1, _ => exact X1.out
    | 2, _ => exact X2.out
    | 3, _ => exact X3.out
  have HV := Lib.hid hV
  clear hV
  have hLens : Lens (w3.alloc (.cells #[.slice A0 (s.wait l 0).length n0, .slice A1 (s.wait l 1).length n1, .slice A2 (s.wait l 2).length n2, .slice A3 (s.wait l 3).length n3] 84)) w3.heap.size (f4 A0 A1 A2 A3) (s.cnt l) (f4 n0 n1 n2 n3) := ⟨heap_alloc_new w3 _⟩
  have HB4 := Lib.hid (below_alloc w3 (.cells #[.slice A0 (s.wait l 0).length n0, .slice A1 (s.wait l 1).length n1, .slice A2 (s.wait l 2).length n2, .slice A3 (s.wait l 3).length n3] 84))
  have HA4 := Lib.hid ((H.out.below HB3.out).below HB4.out)
  have HLE := Lib.hid hLens
  clear hLens X0 X1 X2 X3
  have HCH := Lib.hid (choose_any b m w3.heap.size s _ _ _ _ HA4.out HLE.out)
  have HPC : Hid (s.pkC l = s.chC (s.cnt l)) := rfl
  generalize hpc : s.pkC l = pc at *
  have HPC2 := Lib.hid hpc
  clear hpc
  with_reducible refine HCH.out.mono ?_
  rintro e w4 ⟨rfl, hA5, hC5⟩
  rw [← HPC.out]
  have hp4 : pc < 4 := by rw [HPC.out]; exact chC_lt _ _
  have hpi : ((pc : Nat) : Int) < 4 := by omega
  have HL5 := Lib.hid (HLE.out.chg hC5 (HLE.out.ne HA4.out))
  have cv := HL5.out.cell pc hp4
  have HLD : Hid (Lds w4 (.slice (f4 A0 A1 A2 A3 pc) (s.cnt l pc) (f4 n0 n1 n2 n3 pc)) (s.wait l pc)) := by
    have ho := HO3.out pc hp4
    rw [HV.out pc hp4] at ho
    exact ((Lds.of_own ho).below HB4.out).chg hC5 (Off.of_own ho (Nat.lt_of_lt_of_le HLT.out HB2.out.size))
  have HA5 := Lib.hid hA5
  have HC5 := Lib.hid (((Chg.of_below (S := (· = b)) HB3.out).then_below HB4.out).also hC5)
  have HNX := Lib.hid (next_any b m pc (s.chS (s.cnt l)) _ (s.wait l pc) w4 hA5 hp4 HLD.out (HNUM.out pc) ((chS_ok HOK.out _).last pc) (by have := wait_all s l pc; omega))
  have HPP : Hid (s.pkP l = low ((s.chS (s.cnt l)).last pc) (s.wait l pc)) := by unfold St.pkP; rw [HPC2.out]; exact Lib.hid rfl
  clear hA5 hC5 HCH
  rw [← HPP.out] at HNX
  have HN0 : Hid (0 < (s.pkP l).2) := by
    have hmem := low_mem ((s.chS (s.cnt l)).last pc) (s.wait l pc) HP.out.1
    rw [← HPP.out] at hmem
    unfold St.wait at hmem
    have := (List.mem_filter.1 hmem).2
    simp only [Bool.and_eq_true, decide_eq_true_eq] at this
    exact this.1
  generalize hpp : s.pkP l = p at *
  obtain ⟨q, n⟩ := p
  have HPX := Lib.hid hpp
  clear hpp HPP
  have hn0 : 0 < n := HN0.out
  have HS2 : Hid (s.pk1 l = { s.chS (s.cnt l) with last := upd (s.chS (s.cnt l)).last pc q }) := by unfold St.pk1; rw [HPC2.out, HPX.out]; exact Lib.hid rfl
  have HMM : Hid (s.pkM l = St.tk { s.chS (s.cnt l) with last := upd (s.chS (s.cnt l)).last pc q } pc n) := by unfold St.pkM; rw [HS2.out, HPC2.out, HPX.out]; exact Lib.hid rfl
  have HSS : Hid (s.pkS l = St.tkS { s.chS (s.cnt l) with last := upd (s.chS (s.cnt l)).last pc q } pc n) := by unfold St.pkS; rw [HS2.out, HPC2.out, HPX.out]; exact Lib.hid rfl
  have HCR : Hid (pc ≠ 0 → 0 ≤ (s.chS (s.cnt l)).cr pc ∧ (s.chS (s.cnt l)).cr pc ≤ 256) := fun h0 => (chS_ok HOK.out _).cr (by rw [chS_wt]; exact (HP.out.2 h0).2) pc (by omega) (by omega)
  have HBU : Hid (0 ≤ (s.chS (s.cnt l)).bu) := (chS_ok HOK.out _).bu.1
  go_wp2_with ((go_at_call 37; with_reducible refine HNX.out.mono ?_); rintro e w5 ⟨rfl, hb5⟩; have HB5 := Lib.hid hb5; clear hb5)
  have HB6 := Lib.hid (HB5.out.alloc HB5.out.size (.cells #[.int .i64 q, .int .i64 n] 48))
  have HA6 := Lib.hid (HA5.out.below HB6.out)
  have t0 := HA6.out.cLast pc hp4
  have tf := HA6.out.free
  have HT6 := Lib.hid (Two.new w5 q n)
  have hbl : b < w5.heap.size := Nat.lt_of_lt_of_le HA5.out.lt HB5.out.size
  go_region
  go_wp2
  have hsz : (w5.setCell ⟨b, 6 + pc, none⟩ (.int .i64 q)).heap.size = w5.heap.size := by simp [World.setCell]
  have hA7 : Arb ((w5.setCell ⟨b, 6 + pc, none⟩ (.int .i64 q)).alloc (.cells #[.int .i64 q, .int .i64 n] 48)).drew b m { s.chS (s.cnt l) with last := upd (s.chS (s.cnt l)).last pc q } := ((HA5.out.below HB5.out).setLast pc hp4 q).below (below_alloc _ _).drew
  have hT7 : Two ((w5.setCell ⟨b, 6 + pc, none⟩ (.int .i64 q)).alloc (.cells #[.int .i64 q, .int .i64 n] 48)).drew w5.heap.size (q, n) := by
    have := Two.new (w5.setCell ⟨b, 6 + pc, none⟩ (.int .i64 q)) q n
    rw [hsz] at this
    exact this
  have hC7 : Chg (· = b) w ((w5.setCell ⟨b, 6 + pc, none⟩ (.int .i64 q)).alloc (.cells #[.int .i64 q, .int .i64 n] 48)).drew := (((HC5.out.then_below HB5.out).setCell rfl _).then_below (below_alloc _ _)).drew
  generalize ((w5.setCell ⟨b, 6 + pc, none⟩ (.int .i64 q)).alloc (.cells #[.int .i64 q, .int .i64 n] 48)).drew = w7 at *
  generalize w5.heap.size = B9 at *
  have HA7 := Lib.hid hA7
  have HC7 := Lib.hid hC7
  have u0 := hT7.c0
  have u1 := hT7.c1
  have hB9 := hT7.lt
  have TK := Lib.hid (take_any b m pc _ n w7.drew (HA7.out.kept (w' := w7.drew) rfl rfl) hp4 (by omega) HBU.out HCR.out)
  have hne9 : B9 ≠ b := by omega
  clear hA7 hC7 hT7 t0 tf cv
  go_region_held3 (fun W => W.cell? ⟨B9, 0, none⟩ = some (.int .i64 q) ∧ W.cell? ⟨B9, 1, none⟩ = some (.int .i64 n)) (first | exact ⟨u0, u1⟩ | exact ⟨v0, v1⟩)
    (first | ((go_at_call 38; with_reducible refine TK.out.mono ?_); rintro e w8 ⟨rfl, hA8, hC8⟩; have HA8 := Lib.hid hA8; have HC8 := Lib.hid hC8; have v0 : w8.cell? ⟨B9, 0, none⟩ = some (.int .i64 q) := (hC8.cell (p := ⟨B9, 0, none⟩) (by exact hB9) hne9).trans u0; have v1 : w8.cell? ⟨B9, 1, none⟩ = some (.int .i64 n) := (hC8.cell (p := ⟨B9, 1, none⟩) (by exact hB9) hne9).trans u1; clear hA8 hC8))
  all_goals
    go_wp2
    go_ret3
    exact ⟨by rw [HMM.out]; rfl, by rw [HSS.out]; exact HA8.out, (HC7.out.drew).also HC8.out⟩
end Go.Proofs.Ytildofclgofjdaa
