/- The contracts of the reference's Take, Close, Release, Retire, Set. Conditions stand in each theorem. -/
import Derived.Test.YtpojgjbgbbnojaaRA
namespace Go.Proofs.Ytpojgjbgbbnojaa
open Go.RowKit
set_option linter.unusedVariables false
set_option maxHeartbeats 2000000
set_option maxRecDepth 100000
/-- What a call of the reference leaves: a pool and an error. -/
def RP (w : World) (l' : List Blk) (k : Int) (e : Ending) (w' : World) : Prop := ∃ g' cap', e = .returned (.tuple #[.slice (some ⟨g', 0, none⟩) l'.length cap', .int .i64 k]) ∧ Rf w' g' l' ∧ Below w.heap.size w w'
theorem hasB_cases {l : List Blk} {q : Int} (h : hasB l q = false) : q < 0 ∨ (0 ≤ q ∧ (l.length : Int) ≤ q) := by
  unfold hasB wiB at h
  have := of_decide_eq_false h
  omega
section
variable {w : World} {g cap : Nat} {l : List Blk}
theorem rClose_any (h : Rf w g l) (hf : Fit l) (q : Int) : Calls Try.prog 30 #[.slice (some ⟨g, 0, none⟩) l.length cap, .int .i64 q] w (RP w (mvS (fun x => eqB x.st 2) 3 0 l q) (mvE (fun x => eqB x.st 2) l q)) := by
  have HR := Lib.hid h
  have hl := hf.len
  have hl2 : (l.length : Int) ≤ 4096 := by omega
  cases hq : hasB l q
  · obtain ⟨e1, e2⟩ := mv_no (may := fun x => eqB x.st 2) (to := 3) (more := 0) hq
    rw [e1, e2]
    clear e1 e2 h hf
    rcases hasB_cases hq with hq2 | ⟨hq1, hq2⟩
    all_goals
      clear hq
      go_enter Try.func30, Try.ntmps30
      go_wp2
      go_ret2
      exact ⟨g, cap, rfl, HR.out, Below.refl _ _⟩
  · obtain ⟨k, rfl, hk⟩ := hasB_nat hq
    obtain ⟨c0, c1⟩ := h.at hk
    have hok := hf.at hk
    unfold Blk.ok at hok
    cases hy : (fun x : Blk => eqB x.st 2) l[k]
    · obtain ⟨e1, e2⟩ := mv_may (may := fun x => eqB x.st 2) (to := 3) (more := 0) hk hy
      rw [e1, e2]
      dsimp only at hy
      clear e1 e2 h hf hq
      generalize l[k] = x at *
      obtain ⟨er, st⟩ := x
      dsimp only at *
      have n1 : ¬ st = 2 := of_decide_eq_false hy
      have n2 : decide (st = 2) = false := hy
      have n3 : (st == 2) = false := by simpa using n1
      clear hy
      go_enter Try.func30, Try.ntmps30
      go_wp2
      go_ret2
      exact ⟨g, cap, rfl, HR.out, Below.refl _ _⟩
    · obtain ⟨e1, e2⟩ := mv_yes (may := fun x => eqB x.st 2) (to := 3) (more := 0) hk hy
      rw [e1, e2]
      dsimp only at hy
      have HW := Lib.hid (with_any (cap := cap) h hl hk 3 (l[k].er + 0))
      clear e1 e2 h hf hq
      have hll : (l.set k ⟨l[k].er + 0, 3⟩).length = l.length := List.length_set
      generalize l.set k ⟨l[k].er + 0, 3⟩ = l' at *
      generalize l[k] = x at *
      obtain ⟨er, st⟩ := x
      dsimp only at *
      have n1 : st = 2 := of_decide_eq_true hy
      subst n1
      rw [Int.add_zero] at HW
      go_enter Try.func30, Try.ntmps30
      go_wp2_with ((go_at_call 55; with_reducible refine HW.out.mono ?_); rintro e w2 ⟨g', cap', rfl, hr, hb⟩; have HF := Lib.hid hr; have HB := Lib.hid hb; clear hr hb)
      go_ret2
      exact ⟨g', cap', by rw [hll]; rfl, HF.out, HB.out⟩
theorem rRetire_any (h : Rf w g l) (hf : Fit l) (q : Int) : Calls Try.prog 32 #[.slice (some ⟨g, 0, none⟩) l.length cap, .int .i64 q] w (RP w (mvS (fun x => neB x.st 4) 4 0 l q) (mvE (fun x => neB x.st 4) l q)) := by
  have HR := Lib.hid h
  have hl := hf.len
  have hl2 : (l.length : Int) ≤ 4096 := by omega
  cases hq : hasB l q
  · obtain ⟨e1, e2⟩ := mv_no (may := fun x => neB x.st 4) (to := 4) (more := 0) hq
    rw [e1, e2]
    clear e1 e2 h hf
    rcases hasB_cases hq with hq2 | ⟨hq1, hq2⟩
    all_goals
      clear hq
      go_enter Try.func32, Try.ntmps32
      go_wp2
      go_ret2
      exact ⟨g, cap, rfl, HR.out, Below.refl _ _⟩
  · obtain ⟨k, rfl, hk⟩ := hasB_nat hq
    obtain ⟨c0, c1⟩ := h.at hk
    have hok := hf.at hk
    unfold Blk.ok at hok
    cases hy : (fun x : Blk => neB x.st 4) l[k]
    · obtain ⟨e1, e2⟩ := mv_may (may := fun x => neB x.st 4) (to := 4) (more := 0) hk hy
      rw [e1, e2]
      dsimp only at hy
      clear e1 e2 h hf hq
      generalize l[k] = x at *
      obtain ⟨er, st⟩ := x
      dsimp only at *
      have n1 : st = 4 := by unfold neB at hy; simpa using hy
      subst n1
      go_enter Try.func32, Try.ntmps32
      go_wp2
      go_ret2
      exact ⟨g, cap, rfl, HR.out, Below.refl _ _⟩
    · obtain ⟨e1, e2⟩ := mv_yes (may := fun x => neB x.st 4) (to := 4) (more := 0) hk hy
      rw [e1, e2]
      dsimp only at hy
      have HW := Lib.hid (with_any (cap := cap) h hl hk 4 (l[k].er + 0))
      clear e1 e2 h hf hq
      have hll : (l.set k ⟨l[k].er + 0, 4⟩).length = l.length := List.length_set
      generalize l.set k ⟨l[k].er + 0, 4⟩ = l' at *
      generalize l[k] = x at *
      obtain ⟨er, st⟩ := x
      dsimp only at *
      have n1 : ¬ st = 4 := by unfold neB at hy; simpa using hy
      have n2 : decide (st = 4) = false := decide_eq_false n1
      have n3 : (st == 4) = false := by simpa using n1
      clear hy
      rw [Int.add_zero] at HW
      go_enter Try.func32, Try.ntmps32
      go_wp2_with ((go_at_call 55; with_reducible refine HW.out.mono ?_); rintro e w2 ⟨g', cap', rfl, hr, hb⟩; have HF := Lib.hid hr; have HB := Lib.hid hb; clear hr hb)
      go_ret2
      exact ⟨g', cap', by rw [hll]; rfl, HF.out, HB.out⟩
theorem rRelease_any (h : Rf w g l) (hf : Fit l) (q : Int) : Calls Try.prog 31 #[.slice (some ⟨g, 0, none⟩) l.length cap, .int .i64 q] w (RP w (mvS (fun x => relB x.er x.st) 1 1 l q) (mvE (fun x => relB x.er x.st) l q)) := by
  have HR := Lib.hid h
  have hl := hf.len
  have hl2 : (l.length : Int) ≤ 4096 := by omega
  cases hq : hasB l q
  · obtain ⟨e1, e2⟩ := mv_no (may := fun x => relB x.er x.st) (to := 1) (more := 1) hq
    rw [e1, e2]
    clear e1 e2 h hf
    rcases hasB_cases hq with hq2 | ⟨hq1, hq2⟩
    all_goals
      clear hq
      go_enter Try.func31, Try.ntmps31
      go_wp2
      go_ret2
      exact ⟨g, cap, rfl, HR.out, Below.refl _ _⟩
  · obtain ⟨k, rfl, hk⟩ := hasB_nat hq
    obtain ⟨c0, c1⟩ := h.at hk
    have hok := hf.at hk
    unfold Blk.ok at hok
    cases hy : (fun x : Blk => relB x.er x.st) l[k]
    · obtain ⟨e1, e2⟩ := mv_may (may := fun x => relB x.er x.st) (to := 1) (more := 1) hk hy
      rw [e1, e2]
      dsimp only at hy
      clear e1 e2 h hf hq
      generalize l[k] = x at *
      obtain ⟨er, st⟩ := x
      dsimp only at *
      have n0 : (¬ st = 2 ∧ ¬ st = 3) ∨ ((st = 2 ∨ st = 3) ∧ er = 1099511627776) := by unfold relB eqB at hy; simp at hy; omega
      clear hy
      rcases n0 with ⟨n1, n2⟩ | ⟨rfl | rfl, rfl⟩
      · have n3 : (st == 2) = false := by simpa using n1
        have n4 : (st == 3) = false := by simpa using n2
        have n5 : decide (st = 2) = false := decide_eq_false n1
        have n6 : decide (st = 3) = false := decide_eq_false n2
        go_enter Try.func31, Try.ntmps31
        go_wp2
        go_ret2
        exact ⟨g, cap, rfl, HR.out, Below.refl _ _⟩
      · go_enter Try.func31, Try.ntmps31
        go_wp2
        go_ret2
        exact ⟨g, cap, rfl, HR.out, Below.refl _ _⟩
      · go_enter Try.func31, Try.ntmps31
        go_wp2
        go_ret2
        exact ⟨g, cap, rfl, HR.out, Below.refl _ _⟩
    · obtain ⟨e1, e2⟩ := mv_yes (may := fun x => relB x.er x.st) (to := 1) (more := 1) hk hy
      rw [e1, e2]
      dsimp only at hy
      have HW := Lib.hid (with_any (cap := cap) h hl hk 1 (l[k].er + 1))
      clear e1 e2 h hf hq
      have hll : (l.set k ⟨l[k].er + 1, 1⟩).length = l.length := List.length_set
      generalize l.set k ⟨l[k].er + 1, 1⟩ = l' at *
      generalize l[k] = x at *
      obtain ⟨er, st⟩ := x
      dsimp only at *
      have n0 : (st = 2 ∨ st = 3) ∧ er < 1099511627776 := by unfold relB eqB at hy; simp at hy; omega
      clear hy
      obtain ⟨n1, n2⟩ := n0
      have n3 : ¬ er = 1099511627776 := by omega
      have n4 : (er == 1099511627776) = false := by simpa using n3
      have n5 : decide (er = 1099511627776) = false := decide_eq_false n3
      rcases n1 with rfl | rfl
      · go_enter Try.func31, Try.ntmps31
        go_wp2_with ((go_at_call 55; with_reducible refine HW.out.mono ?_); rintro e w2 ⟨g', cap', rfl, hr, hb⟩; have HF := Lib.hid hr; have HB := Lib.hid hb; clear hr hb)
        go_ret2
        exact ⟨g', cap', by rw [hll]; rfl, HF.out, HB.out⟩
      · go_enter Try.func31, Try.ntmps31
        go_wp2_with ((go_at_call 55; with_reducible refine HW.out.mono ?_); rintro e w2 ⟨g', cap', rfl, hr, hb⟩; have HF := Lib.hid hr; have HB := Lib.hid hb; clear hr hb)
        go_ret2
        exact ⟨g', cap', by rw [hll]; rfl, HF.out, HB.out⟩
theorem rSet_any (h : Rf w g l) (hf : Fit l) (q s er : Int) : Calls Try.prog 33 #[.slice (some ⟨g, 0, none⟩) l.length cap, .int .i64 q, .int .i64 s, .int .i64 er] w (RP w (seS l q s er) (seE l q s er)) := by
  have HR := Lib.hid h
  have hl := hf.len
  have hl2 : (l.length : Int) ≤ 4096 := by omega
  unfold seS
  cases hv : stB s && erB er
  · have e : seE l q s er = 2 := if_pos hv
    rw [e, if_neg (by decide)]
    have hc : s < 1 ∨ (1 ≤ s ∧ 4 < s) ∨ ((1 ≤ s ∧ s ≤ 4) ∧ er < 0) ∨ ((1 ≤ s ∧ s ≤ 4) ∧ 0 ≤ er ∧ 1099511627776 < er) := by
      unfold stB erB wiB at hv
      simp at hv
      omega
    clear hv e h hf
    rcases hc with h1 | ⟨h1, h2⟩ | ⟨⟨h1, h2⟩, h3⟩ | ⟨⟨h1, h2⟩, h3, h4⟩
    all_goals
      go_enter Try.func33, Try.ntmps33
      go_wp2
      go_ret2
      exact ⟨g, cap, rfl, HR.out, Below.refl _ _⟩
  · have hc : (1 ≤ s ∧ s ≤ 4) ∧ 0 ≤ er ∧ er ≤ 1099511627776 := by
      unfold stB erB wiB at hv
      simp at hv
      omega
    obtain ⟨⟨h1, h2⟩, h3, h4⟩ := hc
    cases hq : hasB l q
    · have e : seE l q s er = 3 := by unfold seE; rw [hv, if_neg (by decide), if_pos hq]
      rw [e, if_neg (by decide)]
      clear hv e h hf
      rcases hasB_cases hq with hq2 | ⟨hq1, hq2⟩
      all_goals
        clear hq
        go_enter Try.func33, Try.ntmps33
        go_wp2
        go_ret2
        exact ⟨g, cap, rfl, HR.out, Below.refl _ _⟩
    · have e : seE l q s er = 0 := by unfold seE; rw [hv, if_neg (by decide), if_neg (by rw [hq]; decide)]
      rw [e, if_pos rfl]
      obtain ⟨k, rfl, hk⟩ := hasB_nat hq
      rw [show ((k : Int)).toNat = k from rfl]
      have HW := Lib.hid (with_any (cap := cap) h hl hk s er)
      generalize l.set k ⟨er, s⟩ = l' at *
      clear hv e h hf hq
      go_enter Try.func33, Try.ntmps33
      go_wp2_with ((go_at_call 55; with_reducible refine HW.out.mono ?_); rintro e w2 ⟨g', cap', rfl, hr, hb⟩; have HF := Lib.hid hr; have HB := Lib.hid hb; clear hr hb)
      go_ret2
      exact ⟨g', cap', rfl, HF.out, HB.out⟩
/-- What the reference's Take leaves. -/
def RT (w : World) (l : List Blk) (e : Ending) (w' : World) : Prop := ∃ g' cap', e = .returned (.tuple #[.slice (some ⟨g', 0, none⟩) (tkS l).length cap', .int .i64 ((lwc l 1).1 : Int), .int .i64 (tkE l)]) ∧ Rf w' g' (tkS l) ∧ Below w.heap.size w w'
theorem rTake_any (h : Rf w g l) (hf : Fit l) : Calls Try.prog 29 #[.slice (some ⟨g, 0, none⟩) l.length cap] w (RT w l) := by
  have HR := Lib.hid h
  have hl := hf.len
  have hl2 : (l.length : Int) ≤ 4096 := by omega
  have HI := Lib.hid (first_any (cap := cap) h hl 1)
  unfold RT tkS tkE
  cases hfd : (lwc l 1).2.2
  · have e1 : frI l 1 l.length = -1 := by
      unfold frI
      rw [show (lw Blk.er (fun x => eqB x.st 1) l l.length) = lwc l 1 from rfl, hfd]
      rfl
    rw [e1] at HI
    rw [if_neg (by decide), if_neg (by decide), lwc_no hfd]
    clear h hf hfd e1
    go_enter Try.func29, Try.ntmps29
    go_wp2_with ((go_at_call 54; with_reducible refine HI.out.mono ?_); rintro e w2 ⟨rfl, hb⟩; have HB := Lib.hid hb; clear hb)
    go_ret3
    exact ⟨g, cap, rfl, HR.out.below HB.out, HB.out⟩
  · have hj := lwc_lt hfd
    have e1 : frI l 1 l.length = ((lwc l 1).1 : Int) := by
      unfold frI
      rw [show (lw Blk.er (fun x => eqB x.st 1) l l.length) = lwc l 1 from rfl, hfd]
      rfl
    rw [e1] at HI
    rw [if_pos rfl, if_pos rfl, ers_nat hj]
    have HW := Lib.hid (fun W (hW : Below w.heap.size w W) => with_any (cap := cap) (h.below hW) hl hj 2 l[(lwc l 1).1].er)
    have HC := Lib.hid (fun W (hW : Below w.heap.size w W) => (h.below hW).at hj)
    have hll : (l.set (lwc l 1).1 ⟨l[(lwc l 1).1].er, 2⟩).length = l.length := List.length_set
    have hjb : (lwc l 1).1 < l.length := hj
    generalize l.set (lwc l 1).1 ⟨l[(lwc l 1).1].er, 2⟩ = l' at *
    generalize l[(lwc l 1).1].er = er at *
    generalize l[(lwc l 1).1].st = st at *
    clear hfd e1 h hf hj
    generalize (lwc l 1).1 = j at *
    go_enter Try.func29, Try.ntmps29
    go_wp2_with (first
      | ((go_at_call 54; with_reducible refine HI.out.mono ?_); rintro e w2 ⟨rfl, hb⟩; obtain ⟨c0, c1⟩ := HC.out _ hb; have HB := Lib.hid hb; clear hb)
      | ((go_at_call 55; with_reducible refine (HW.out _ HB.out).mono ?_); rintro e w3 ⟨g', cap', rfl, hr, hb3⟩; have HF := Lib.hid hr; have HB3 := Lib.hid (HB.out.trans (hb3.mono HB.out.size)); clear hr hb3))
    go_ret3
    exact ⟨g', cap', by rw [hll]; rfl, HF.out, HB3.out⟩
end
end Go.Proofs.Ytpojgjbgbbnojaa
