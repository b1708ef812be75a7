/- The mathematics of the reference's chain. Conditions stand in each theorem. -/
import Derived.Test.YtajlddgemkkcdaaQK
namespace Go.Proofs.Ytajlddgemkkcdaa
open Go.RowKit
set_option linter.unusedVariables false
set_option maxHeartbeats 2000000
theorem bs_mem {l : List Pg} {K prev : Int} : ∀ (i : Nat) (x : Cr), i ≤ l.length → bsF l K prev i = some x → ∃ t, ∃ ht : t < l.length, t < i ∧ bsC K prev l[t] ∧ crF l l[t].s.key = some x
  | 0, x, _, h => by cases h
  | i + 1, x, hi, h => by
    rw [bsF_succ (by omega)] at h
    by_cases hc : bsC K prev l[i]
    · cases hb : bsF l K prev i with
      | none =>
        rw [hb] at h
        cases hr : crF l (l[i]'(by omega)).s.key with
        | none => rw [bsS_inc hc hr] at h; cases h
        | some c =>
          rw [bsS_first hc hr] at h
          cases h
          exact ⟨i, by omega, by omega, hc, hr⟩
      | some d =>
        rw [hb] at h
        obtain ⟨t, ht, h1, h2, h3⟩ := bs_mem i d (by omega) hb
        cases hr : crF l (l[i]'(by omega)).s.key with
        | none => rw [bsS_inc hc hr] at h; cases h; exact ⟨t, ht, by omega, h2, h3⟩
        | some c =>
          by_cases hlt : d.r.f < c.r.f
          · rw [bsS_new hc hr hlt] at h
            cases h
            exact ⟨i, by omega, by omega, hc, hr⟩
          · rw [bsS_old hc (fun c' hc' => by rw [hr] at hc'; cases hc'; omega)] at h
            cases h
            exact ⟨t, ht, by omega, h2, h3⟩
    · rw [bsS_no hc] at h
      obtain ⟨t, ht, h1, h2⟩ := bs_mem i x (by omega) h
      exact ⟨t, ht, by omega, h2⟩
theorem plK_head {l : List Pg} {r : Rec} {t : Nat} (ht : t < l.length) (h : isP l r t = true) : (plK l l.length r).headD 0 ≤ t ∧ (plK l l.length r).headD 0 < l.length ∧ isP l r ((plK l l.length r).headD 0) = true := by
  have hm : t ∈ plK l l.length r := by unfold plK; exact List.mem_filter.2 ⟨List.mem_range.2 ht, h⟩
  have hs : (plK l l.length r).Pairwise (· < ·) := by unfold plK; exact (List.pairwise_lt_range).filter _
  cases hp : plK l l.length r with
  | nil => rw [hp] at hm; cases hm
  | cons a s =>
    rw [hp] at hm hs
    have ha := plK_mem (show a ∈ plK l l.length r by rw [hp]; simp)
    refine ⟨?_, ha.1, ha.2⟩
    rcases List.mem_cons.1 hm with e | e
    · show a ≤ t; omega
    · have := (List.pairwise_cons.1 hs).1 t e
      show a ≤ t
      omega
theorem cr_e {l : List Pg} {r : Rec} {c : Cr} (h : crF l r = some c) : c.e = (plK l l.length r).headD 0 := by
  unfold crF at h
  split at h
  · cases h; rfl
  · cases h
theorem isP_self {l : List Pg} {t : Nat} (ht : t < l.length) (h : jnB l[t].s = true) : isP l l[t].s.key t = true := by rw [isP_at ht, h]; simp
/-- best holds the newest: none of the records that it has met is newer. -/
theorem bs_spec {l : List Pg} {K prev : Int} : ∀ (i : Nat), i ≤ l.length → (∀ t (ht : t < l.length) (c : Cr), t < i → bsC K prev l[t] → crF l l[t].s.key = some c → ∃ d, bsF l K prev i = some d ∧ (c.r.f < d.r.f ∨ (c.r.f = d.r.f ∧ d.e ≤ c.e))) ∧ (∀ d, bsF l K prev i = some d → d.e < i)
  | 0, _ => ⟨fun t ht c h => absurd h (by omega), fun d h => by cases h⟩
  | i + 1, hi => by
    obtain ⟨ih, ih2⟩ := bs_spec (l := l) (K := K) (prev := prev) i (by omega)
    have hil : i < l.length := by omega
    rw [bsF_succ hil]
    by_cases hc : bsC K prev l[i]
    · have hip := isP_self hil hc.1
      have hhd := plK_head hil hip
      cases hr : crF l l[i].s.key with
      | none =>
        rw [bsS_inc hc hr]
        refine ⟨fun t ht c h1 h2 h3 => ?_, fun d hd => by have := ih2 d hd; omega⟩
        by_cases e : t = i
        · subst e; rw [hr] at h3; cases h3
        · exact ih t ht c (by omega) h2 h3
      | some ci =>
        have hce := cr_e hr
        have hcr := cr_rec hr
        cases hb : bsF l K prev i with
        | none =>
          rw [bsS_first hc hr]
          refine ⟨fun t ht c h1 h2 h3 => ?_, fun d hd => by cases hd; omega⟩
          by_cases e : t = i
          · subst e; rw [hr] at h3; cases h3
            exact ⟨ci, rfl, .inr ⟨rfl, Nat.le_refl _⟩⟩
          · obtain ⟨d, hd, _⟩ := ih t ht c (by omega) h2 h3
            rw [hb] at hd; cases hd
        | some d0 =>
          have hd0 := ih2 d0 hb
          by_cases hlt : d0.r.f < ci.r.f
          · rw [bsS_new hc hr hlt]
            refine ⟨fun t ht c h1 h2 h3 => ?_, fun d hd => by cases hd; omega⟩
            by_cases e : t = i
            · subst e; rw [hr] at h3; cases h3
              exact ⟨ci, rfl, .inr ⟨rfl, Nat.le_refl _⟩⟩
            · obtain ⟨d, hd, hx⟩ := ih t ht c (by omega) h2 h3
              rw [hb] at hd; cases hd
              exact ⟨ci, rfl, .inl (by rcases hx with hx | hx <;> omega)⟩
          · rw [bsS_old hc (fun c' hc' => by rw [hr] at hc'; cases hc'; omega)]
            refine ⟨fun t ht c h1 h2 h3 => ?_, fun d hd => by cases hd; omega⟩
            by_cases e : t = i
            · subst e; rw [hr] at h3; cases h3
              by_cases hf : ci.r.f < d0.r.f
              · exact ⟨d0, rfl, .inl hf⟩
              · refine ⟨d0, rfl, .inr ⟨by omega, ?_⟩⟩
                by_cases he : ci.e < t
                · -- the record was met before
                  have hk : l[ci.e]'(by omega) = l[ci.e]'(by omega) := rfl
                  have hel : ci.e < l.length := by omega
                  have hpe : isP l l[t].s.key ci.e = true := by rw [hce]; exact hhd.2.2
                  rw [isP_at hel] at hpe
                  simp only [Bool.and_eq_true, decide_eq_true_eq] at hpe
                  have hc2 : bsC K prev l[ci.e] := by
                    refine ⟨hpe.1, ?_, fun hk2 => ?_⟩
                    · have := congrArg Rec.k hpe.2; exact this.trans hc.2.1
                    · have := congrArg Rec.p hpe.2; exact this.trans (hc.2.2 hk2)
                  obtain ⟨d, hd, hx⟩ := ih ci.e hel ci he hc2 (by rw [hpe.2]; exact hr)
                  rw [hb] at hd; cases hd
                  rcases hx with hx | hx <;> omega
                · omega
            · exact ih t ht c (by omega) h2 h3 |>.imp fun d ⟨hd, hx⟩ => ⟨by rw [hb] at hd; exact hd, hx⟩
    · rw [bsS_no hc]
      refine ⟨fun t ht c h1 h2 h3 => ?_, fun d hd => by have := ih2 d hd; omega⟩
      by_cases e : t = i
      · subst e; exact absurd h2 hc
      · exact ih t ht c (by omega) h2 h3
/-- The complete records. -/
def recs (l : List Pg) : List Cr := (keysF l).filterMap (crF l)
theorem mem_recs {l : List Pg} {x : Cr} : x ∈ recs l ↔ ∃ t, ∃ ht : t < l.length, jnB l[t].s = true ∧ crF l l[t].s.key = some x := by
  unfold recs
  rw [List.mem_filterMap]
  constructor
  · rintro ⟨r, hr, hx⟩
    obtain ⟨i, hi, hip⟩ := (mem_keysF l r l.length (Nat.le_refl _)).1 (by rw [List.take_length]; exact hr)
    rw [isP_at hi] at hip
    simp only [Bool.and_eq_true, decide_eq_true_eq] at hip
    exact ⟨i, hi, hip.1, by rw [hip.2]; exact hx⟩
  · rintro ⟨t, ht, hj, hx⟩
    refine ⟨_, ?_, hx⟩
    have := (mem_keysF l l[t].s.key l.length (Nat.le_refl _)).2 ⟨t, ht, isP_self ht hj⟩
    rwa [List.take_length] at this
theorem bs_none {l : List Pg} {K prev : Int} (h : bsF l K prev l.length = none) : ∀ x ∈ recs l, x.r.k = K → (K = 2 → x.r.p = prev) → False := by
  intro x hx hk hp
  obtain ⟨t, ht, hj, hc⟩ := mem_recs.1 hx
  have hr := cr_rec hc
  obtain ⟨d, hd, _⟩ := (bs_spec (l := l) (K := K) (prev := prev) l.length (Nat.le_refl _)).1 t ht x ht ⟨hj, by rw [← hk, hr]; rfl, fun e => by rw [← hp e, hr]; rfl⟩ hc
  rw [h] at hd; cases hd
theorem bs_some {l : List Pg} {K prev : Int} {d : Cr} (h : bsF l K prev l.length = some d) : d ∈ recs l ∧ d.r.k = K ∧ (K = 2 → d.r.p = prev) ∧ ∀ x ∈ recs l, x.r.k = K → (K = 2 → x.r.p = prev) → ¬ NewC x d := by
  obtain ⟨t, ht, _, hb, hc⟩ := bs_mem l.length d (Nat.le_refl _) h
  have hr := cr_rec hc
  refine ⟨mem_recs.2 ⟨t, ht, hb.1, hc⟩, by rw [hr]; exact hb.2.1, fun e => by rw [hr]; exact hb.2.2 e, fun x hx hk hp hn => ?_⟩
  obtain ⟨t', ht', hj', hc'⟩ := mem_recs.1 hx
  have hr' := cr_rec hc'
  obtain ⟨d', hd', hx'⟩ := (bs_spec (l := l) (K := K) (prev := prev) l.length (Nat.le_refl _)).1 t' ht' x ht' ⟨hj', by rw [← hk, hr']; rfl, fun e => by rw [← hp e, hr']; rfl⟩ hc'
  rw [h] at hd'; cases hd'
  unfold NewC at hn
  omega
/-- Integers that grow strictly within the length of their list are the places. -/
theorem sorted_index {f : Nat → Int} (ps : List Nat) (hs : ps.Pairwise (fun x y => f x < f y)) (hr : ∀ p ∈ ps, 0 ≤ f p ∧ f p < (ps.length : Int)) : ∀ t (ht : t < ps.length), f ps[t] = (t : Int) := by
  have lo : ∀ t (ht : t < ps.length), (t : Int) ≤ f ps[t] := by
    intro t
    induction t with
    | zero => intro ht; exact (hr _ (List.getElem_mem ht)).1
    | succ t ih =>
      intro ht
      have h1 := ih (by omega)
      have h2 := List.pairwise_iff_getElem.1 hs t (t + 1) (by omega) ht (by omega)
      omega
  have hi : ∀ k t (ht : t < ps.length), t + k + 1 = ps.length → f ps[t] ≤ (t : Int) := by
    intro k
    induction k with
    | zero => intro t ht he; have := (hr _ (List.getElem_mem ht)).2; omega
    | succ k ih =>
      intro t ht he
      have h1 := ih (t + 1) (by omega) (by omega)
      have h2 := List.pairwise_iff_getElem.1 hs t (t + 1) ht (by omega) (by omega)
      omega
  intro t ht
  have h1 := lo t ht
  have h2 := hi (ps.length - t - 1) t ht (by omega)
  omega
/-- What is known of a complete record. -/
theorem rec_facts {l : List Pg} (hl : Okl l) {x : Cr} (h : x ∈ recs l) : (∀ p ∈ x.ps, p < l.length) ∧ x.ps.Nodup ∧ x.ps.length = x.r.n.toNat ∧ 0 ≤ x.r.p ∧ x.r.p < x.r.f ∧ 1 ≤ x.r.n ∧ x.r.n ≤ 65535 ∧ x.r.f + (x.r.n - 1) ≤ 18446744073709551615 ∧ (∀ t (ht : t < x.ps.length), ixF l x.ps[t] = (t : Int)) ∧ (∀ p ∈ x.ps, isP l x.r p = true) := by
  obtain ⟨t, ht, hj, hc⟩ := mem_recs.1 h
  have hr := cr_rec hc
  have hk : l[t].s.key ∈ keysF l := by
    have := (mem_keysF l l[t].s.key l.length (Nat.le_refl _)).2 ⟨t, ht, isP_self ht hj⟩
    rwa [List.take_length] at this
  obtain ⟨_, f2, f3, f4, f5, f6, _⟩ := crF_facts hl hk hc
  have hps : x.ps = ordF l l[t].s.key.n.toNat (plK l l.length l[t].s.key) ∧ x.ps.length = l[t].s.key.n.toNat := by
    unfold crF at hc
    split at hc
    · rename_i hn; cases hc; exact ⟨rfl, hn⟩
    · cases hc
  obtain ⟨_, _, _, _, j1, j2, j3, j4⟩ := jn_facts hj
  have hok := hl _ (List.getElem_mem ht)
  refine ⟨f2, by rw [hps.1]; exact ord_nodup _ _ _, by rw [hr]; exact hps.2, ?_, ?_, by rw [hr]; exact f4, by rw [hr]; exact f5, by rw [hr]; exact f6, fun u hu => ?_, fun p hp => ?_⟩
  · rw [hr]; exact hok.p0
  · rw [hr]; show l[t].s.p < l[t].s.q - l[t].s.i; omega
  · -- the pages stand in the order of their indices
    have hs := ord_sorted (l := l) (n := l[t].s.key.n.toNat) (P := plK l l.length l[t].s.key)
    rw [← hps.1] at hs
    have hrng : ∀ p ∈ x.ps, 0 ≤ ixF l p ∧ ixF l p < (x.ps.length : Int) := fun p hp => by
      rw [hps.1] at hp
      unfold ordF at hp
      obtain ⟨j, hj', hf⟩ := List.mem_filterMap.1 hp
      have h1 := List.find?_some hf
      have h1 := of_decide_eq_true h1
      have h2 := List.mem_range.1 hj'
      rw [hps.2]
      omega
    exact sorted_index (f := ixF l) x.ps hs hrng u hu
  · rw [hps.1] at hp
    rw [hr]
    exact (plK_mem (ord_sub hp)).2
end Go.Proofs.Ytajlddgemkkcdaa
