/- The walk of JournalFollows. Conditions stand in each theorem. -/
import Derived.Test.YtajlddgemkkcdaaQV
import Derived.Test.YtajlddgemkkcdaaQF
import Derived.Test.YtajlddgemkkcdaaOQ
namespace Go.Proofs.Ytajlddgemkkcdaa
open Go.RowKit
set_option linter.unusedVariables false
set_option maxHeartbeats 8000000
set_option maxRecDepth 100000
/-- A chain and its places, known by what the reference finds. -/
def FoQ (l : List Pg) (f : Chn) (us : List Nat) : Prop := ∀ ch, Rch l ch → bsF l 2 ch.la l.length = none → f = ch ∧ us = (List.range l.length).filter fun p => decide (p ∈ ch.us)
theorem es_sum : ∀ (l : List Pg), ∀ x ∈ l, x.es.length ≤ (l.map fun x => x.es.length).sum
  | [], x, hx => by cases hx
  | a :: t, x, hx => by
    rw [List.map_cons, List.sum_cons]
    rcases List.mem_cons.1 hx with rfl | hx
    · omega
    · have := es_sum t x hx
      omega
theorem FoPost.q {w w' : World} {l : List Pg} {e : Ending} (hl : Okl l) (h : FoPost w l e w') : ∃ (f : Chn) (us : List Nat) (ve vu : Value), FoQ l f us ∧ e = .returned (.agg #[ve, .int .u64 f.la, vu]) ∧ Ent w' ve f.en ∧ Pls w' vu us ∧ Below w.heap.size w w' := by
  obtain ⟨C, m, D, us, ve, vu, ⟨hC, hM, hD, hs, hpu, hsu⟩, h1, h2, h3, h4⟩ := h
  refine ⟨_, us, ve, vu, fun ch hR hb => ?_, h1, h2, h3, h4⟩
  have e := chain_eq hl hC hM hD hs hR hb
  have hE := es_sum l
  rw [e] at hpu
  exact ⟨e, used_eq hpu hsu (RI.of hl hE hR).nd (RI.of hl hE hR).lt⟩
theorem alike_fr {l : List Pg} {f ch : Chn} {us : List Nat} (hq : FoQ l f us) (hR : Rch l ch) (hb : bsF l 2 ch.la l.length = none) (w : World) (ve vu xe xu : Value) (h1 : Ent w ve f.en) (h2 : Pls w vu us) (h3 : Ent w xe ch.en) (h4 : Pls w xu ((List.range l.length).filter fun p => decide (p ∈ ch.us))) (hn : ch.en.length ≤ 1000000) (hu : l.length ≤ 1000000) :
    Calls Try.prog 18 #[.agg #[ve, .int .u64 f.la, vu], .agg #[xe, .int .u64 ch.la, xu]] w (fun e w' => e = .returned (.bool true) ∧ Below w.heap.size w w') := by
  obtain ⟨e1, e2⟩ := hq ch hR hb
  subst e1 e2
  exact alike_yes w ve vu xe xu f.la f.en _ h1 h2 h3 h4 hn (Nat.le_trans (List.length_filter_le _ _) (by simpa using hu))
theorem follows_any (A : Option Addr) (c : Nat) (l : List Pg) (w : World) (h : Pgs w (.slice A l.length c) l) (hent : ∀ x ∈ l, Ent w x.ev x.es) (hn : Okn l) : Calls Try.prog 5 #[.slice A l.length c] w (LawPost w) := by
  have hl : Okl l := fun x hx => (hn x hx).1
  have HW := Lib.hid works_any
  have HPG := Lib.hid h
  by_cases hlong : 30 < l.length
  · have hli : (30 : Int) < (l.length : Int) := by omega
    clear h hent hn hl
    go_enter Try.func5, Try.ntmps5
    go_wp2_with ((go_at_call 7; with_reducible refine (HW.out _).mono ?_); rintro e w4 ⟨rfl, hg⟩; have HG := Lib.hid hg; clear hg)
    go_ret
    exact ⟨rfl, HG.out⟩
  have hli : (l.length : Int) ≤ 30 := by omega
  have hlc : ∃ v, Hid (v = l.length) := ⟨_, Lib.hid rfl⟩
  have HALL := Lib.hid (fun (hE : ∀ x ∈ l, x.es.length ≤ 5) => And.intro (follow_any (.slice A l.length c) l w 5 A c rfl h hent hl (by omega) hE (by omega) (fun r hr W base u hW ho => by
      have hkm := (mem_keysF l r l.length (Nat.le_refl _)).1 (by rw [List.take_length]; exact hr)
      refine byIndex_any base r.n.toNat u _ l (plK l l.length r) W (h.below hW) ho (fun p hp => (plK_mem hp).1) (by unfold plK; exact (List.pairwise_lt_range).filter _) (fun p hp => ?_) ?_ ?_
      · obtain ⟨hp1, hp2⟩ := plK_mem hp
        rw [isP_at hp1] at hp2
        simp only [Bool.and_eq_true, decide_eq_true_eq] at hp2
        obtain ⟨-, -, m1, m2, m3, m4, -⟩ := jn_facts hp2.1
        have e1 : ixF l p = l[p].s.i := by unfold ixF; rw [List.getElem?_eq_getElem hp1]
        have e2 : r.n = l[p].s.n := by rw [← hp2.2]; rfl
        omega
      · have : (plK l l.length r).length ≤ l.length := by unfold plK; exact Nat.le_trans (List.length_filter_le _ _) (by simp)
        omega
      · obtain ⟨i, hi, hip⟩ := hkm
        have : i ∈ plK l l.length r := by unfold plK; exact List.mem_filter.2 ⟨List.mem_range.2 hi, hip⟩
        exact List.length_pos_of_mem this))
    (fun (W : World) (hb : Below w.heap.size w W) => rfollow_any A c l W 5 (h.below hb) (fun x hx => (hent x hx).below hb) hn hl (by omega) hE (by omega)))
  have HOK := Lib.hid hl
  clear h hent hn hl hlong
  go_enter Try.func5, Try.ntmps5
  go_wp2
  go_loopw [3] (fun i wr => ∃ (k : Nat), k ≤ l.length ∧ i = .int .i64 k ∧ Hid (∀ j (hj : j < l.length), j < k → l[j].es.length ≤ 5) ∧ wr = w) (fun i _ => l.length - (RowKit.intOf i).toNat)
  case atStart => exact ⟨0, Nat.zero_le _, rfl, Lib.hid (fun j hj h => absurd h (by omega)), rfl⟩
  case round =>
    obtain ⟨k, hk, rfl, HE, rfl⟩ := hrel
    by_cases hlt : k < l.length
    · obtain ⟨A', c', heA, _, hrA⟩ := HPG.out
      injection heA with e1 heB heC
      clear heB heC
      obtain ⟨ga, o, hA2, hgw, hpg⟩ := hrA (by omega)
      have hA : A = some ⟨ga, o, none⟩ := e1.trans hA2
      clear e1 hA2 hrA
      subst hA
      have q6 := (hpg k hlt).c6
      simp only [Pg.ev] at q6
      have HE1 : Hid (l[k].es.length ≤ 5 → ∀ j (hj : j < l.length), j < k + 1 → l[j].es.length ≤ 5) := Lib.hid (fun h5 j hj hjk => by
        by_cases e : j = k
        · subst e; exact h5
        · exact HE.out j hj (by omega))
      obtain ⟨M, hM⟩ : ∃ M, M = l[k].es.length := ⟨_, rfl⟩
      rw [← hM] at q6 HE1
      clear hM hpg
      have hk0 : (0 : Int) ≤ (k : Int) := by omega
      have hk1 : (k : Int) < (l.length : Int) := by omega
      by_cases h5 : 5 < M
      · have h5i : (5 : Int) < (M : Int) := by omega
        go_wp2_with ((go_at_call 7; with_reducible refine (HW.out _).mono ?_); rintro e w4 ⟨rfl, hg⟩; have HG := Lib.hid hg; clear hg)
        go_ret
        exact ⟨rfl, HG.out⟩
      · have h5i : (M : Int) ≤ 5 := by omega
        have HE2 := Lib.hid (HE1.out (by omega))
        go_wp2
        go_roundw
        case rel => exact ⟨k + 1, by omega, by go_num, HE2, trivial⟩
        case measure => simp [RowKit.intOf]; omega
    · obtain rfl : k = l.length := by omega
      have hE : ∀ x ∈ l, x.es.length ≤ 5 := fun x hx => by
        obtain ⟨j, hj, rfl⟩ := List.mem_iff_getElem.1 hx
        exact HE.out j hj hj
      have HFO := Lib.hid (HALL.out hE).1
      have HRF := Lib.hid (HALL.out hE).2
      have HEN : Hid (∀ ch, Rch l ch → ch.en.length ≤ 1000000) := Lib.hid (fun ch hc => by
        have := (RI.of HOK.out hE hc).enl
        omega)
      clear HALL HE
      go_wp2_with (first
        | ((go_at_call 19; with_reducible refine HFO.out.mono ?_); rintro e w1 hfo; obtain ⟨f, us, ve, vu, hq, rfl, hen, hpl, hb⟩ := hfo.q HOK.out; have HQ := Lib.hid hq; have HX := Lib.hid hen; have HY := Lib.hid hpl; have HB1 := Lib.hid hb; clear hfo hq hen hpl hb)
        | ((go_at_call 20; with_reducible refine (HRF.out _ HB1.out).mono ?_); rintro e w2 ⟨ch, xe, xu, ⟨hR, hbn⟩, rfl, hen, hpl, hb⟩; have HR := Lib.hid hR; have HA2 := Lib.hid (alike_fr HQ.out hR hbn _ ve vu xe xu (HX.out.below hb) (HY.out.below hb) hen hpl (HEN.out ch hR) (by omega)); have HB2 := Lib.hid (HB1.out.trans (hb.mono HB1.out.size)); clear hR hbn hen hpl hb)
        | ((go_at_call 18; with_reducible refine HA2.out.mono ?_); rintro e w3 ⟨rfl, hb⟩; have HB3 := Lib.hid (HB2.out.trans (hb.mono HB2.out.size)); clear hb)
        | ((go_at_call 7; with_reducible refine (HW.out _).mono ?_); rintro e w4 ⟨rfl, hb⟩; have HB4 := Lib.hid (HB3.out.trans (hb.mono HB3.out.size)); clear hb))
      go_ret
      exact ⟨rfl, HB4.out⟩
end Go.Proofs.Ytajlddgemkkcdaa
