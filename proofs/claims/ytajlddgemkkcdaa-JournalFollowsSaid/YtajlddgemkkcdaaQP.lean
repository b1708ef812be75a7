/- The chain that the reference follows, and that it is the program's. Conditions stand in each theorem. -/
import Derived.Test.YtajlddgemkkcdaaQO
namespace Go.Proofs.Ytajlddgemkkcdaa
open Go.RowKit
set_option linter.unusedVariables false
set_option maxHeartbeats 2000000
def ch0 : Chn := ⟨[], 0, []⟩
/-- The chain behind its first records. -/
def stN (l : List Pg) : Nat → Chn
  | 0 => match bsF l 3 0 l.length with | some x => stepC l ch0 x | none => ch0
  | n + 1 => match bsF l 2 (stN l n).la l.length with | some x => stepC l (stN l n) x | none => stN l n
theorem stN_succ (l : List Pg) (n : Nat) : stN l (n + 1) = match bsF l 2 (stN l n).la l.length with | some x => stepC l (stN l n) x | none => stN l n := rfl
def Rch (l : List Pg) (c : Chn) : Prop := ∃ n, c = stN l n
theorem Rch.nil0 {l : List Pg} (h : bsF l 3 0 l.length = none) : Rch l ch0 := ⟨0, by unfold stN; rw [h]⟩
theorem Rch.first {l : List Pg} {x : Cr} (h : bsF l 3 0 l.length = some x) : Rch l (stepC l ch0 x) := ⟨0, by unfold stN; rw [h]⟩
theorem Rch.step {l : List Pg} {c : Chn} {x : Cr} (hc : Rch l c) (h : bsF l 2 c.la l.length = some x) : Rch l (stepC l c x) := by
  obtain ⟨n, rfl⟩ := hc
  exact ⟨n + 1, by rw [stN_succ, h]⟩
theorem Rch.ind {l : List Pg} {Q : Chn → Prop} (h0 : bsF l 3 0 l.length = none → Q ch0) (h1 : ∀ x, bsF l 3 0 l.length = some x → Q (stepC l ch0 x)) (h2 : ∀ c x, Q c → bsF l 2 c.la l.length = some x → Q (stepC l c x)) {c : Chn} (h : Rch l c) : Q c := by
  obtain ⟨n, rfl⟩ := h
  induction n with
  | zero =>
    unfold stN
    cases hb : bsF l 3 0 l.length with
    | none => exact h0 hb
    | some x => exact h1 x hb
  | succ n ih =>
    rw [stN_succ]
    cases hb : bsF l 2 (stN l n).la l.length with
    | none => exact ih
    | some x => exact h2 _ x ih hb
/-- What holds of every chain on the way. -/
structure RI (l : List Pg) (E : Nat) (c : Chn) : Prop where
  nd : c.us.Nodup
  lt : ∀ p ∈ c.us, p < l.length
  la0 : 0 ≤ c.la
  la1 : c.la ≤ 18446744073709551615
  kl : ∀ p ∈ c.us, ∃ r : Rec, isP l r p = true ∧ r.f + (r.n - 1) ≤ c.la
  en : c.en.length ≤ c.us.length * E
theorem isP_one {l : List Pg} {r q : Rec} {p : Nat} (hp : p < l.length) (h1 : isP l r p = true) (h2 : isP l q p = true) : r = q := by
  rw [isP_at hp] at h1 h2
  simp only [Bool.and_eq_true, decide_eq_true_eq] at h1 h2
  exact h1.2.symm.trans h2.2
theorem RI.step {l : List Pg} {E : Nat} (hl : Okl l) (hE : ∀ x ∈ l, x.es.length ≤ E) {c : Chn} {x : Cr} (h : RI l E c) (hx : x ∈ recs l) (hp : c.la ≤ x.r.p) : RI l E (stepC l c x) := by
  obtain ⟨f1, f2, f3, f4, f5, f6, f7, f8, f9, f10⟩ := rec_facts hl hx
  have hla := h.la0
  refine ⟨?_, ?_, ?_, f8, ?_, ?_⟩
  · show (c.us ++ x.ps).Nodup
    rw [List.nodup_append]
    refine ⟨h.nd, f2, fun p hp1 q hq1 e => ?_⟩
    subst e
    obtain ⟨r, hr1, hr2⟩ := h.kl p hp1
    have := isP_one (h.lt p hp1) hr1 (f10 p hq1)
    subst this
    omega
  · intro p hp1
    rcases List.mem_append.1 hp1 with hp1 | hp1
    · exact h.lt p hp1
    · exact f1 p hp1
  · show 0 ≤ x.r.f + (x.r.n - 1); omega
  · intro p hp1
    rcases List.mem_append.1 hp1 with hp1 | hp1
    · obtain ⟨r, hr1, hr2⟩ := h.kl p hp1
      exact ⟨r, hr1, by show _ ≤ x.r.f + (x.r.n - 1); omega⟩
    · exact ⟨x.r, f10 p hp1, Int.le_refl _⟩
  · show (c.en ++ entF l x.ps).length ≤ (c.us ++ x.ps).length * E
    have := h.en
    have := entF_le hE x.ps
    rw [List.length_append, List.length_append, Nat.add_mul]
    omega
theorem RI.of {l : List Pg} {E : Nat} (hl : Okl l) (hE : ∀ x ∈ l, x.es.length ≤ E) {c : Chn} (h : Rch l c) : RI l E c := by
  have h0 : RI l E ch0 := ⟨List.nodup_nil, fun p hp => (by cases hp), Int.le_refl _, (by decide), fun p hp => (by cases hp), Nat.zero_le _⟩
  refine Rch.ind (Q := RI l E) (fun _ => h0) (fun x hx => ?_) (fun c x hc hx => ?_) h
  · have := bs_some hx
    have hf := (rec_facts hl this.1).2.2.2.1
    exact h0.step hl hE this.1 hf
  · have := bs_some hx
    exact hc.step hl hE this.1 (by rw [this.2.2.1 rfl]; exact Int.le_refl _)
theorem RI.enl {l : List Pg} {E : Nat} {c : Chn} (h : RI l E c) : c.en.length ≤ l.length * E := Nat.le_trans h.en (Nat.mul_le_mul_right _ (nodup_lt_len _ _ h.nd h.lt))
/-- How many records may still follow. -/
def mu (l : List Pg) (c : Chn) : Nat := ((recs l).filter fun y => decide (c.la ≤ y.r.p)).length
theorem filter_less {α : Type} {p q : α → Bool} (hpq : ∀ x, p x = true → q x = true) : ∀ (L : List α), (L.filter p).length ≤ (L.filter q).length ∧ ∀ x ∈ L, q x = true → p x = false → (L.filter p).length < (L.filter q).length
  | [] => ⟨Nat.le_refl _, fun x hx => by cases hx⟩
  | a :: t => by
    obtain ⟨h1, h2⟩ := filter_less hpq t
    have hle : ((a :: t).filter p).length ≤ ((a :: t).filter q).length := by
      cases hp : p a <;> cases hq : q a <;> simp [hp, hq]
      · exact h1
      · omega
      · rw [hpq a hp] at hq; cases hq
      · exact h1
    refine ⟨hle, fun x hx hqx hpx => ?_⟩
    rcases List.mem_cons.1 hx with rfl | hx
    · simp [hqx, hpx]; omega
    · have h3 := h2 x hx hqx hpx
      cases hp : p a <;> cases hq : q a <;> simp [hp, hq]
      · exact h3
      · omega
      · rw [hpq a hp] at hq; cases hq
      · exact h3
theorem mu_less {l : List Pg} (hl : Okl l) {c : Chn} {x : Cr} (hx : x ∈ recs l) (hp : c.la ≤ x.r.p) : mu l (stepC l c x) < mu l c := by
  obtain ⟨f1, f2, f3, f4, f5, f6, f7, f8, f9, f10⟩ := rec_facts hl hx
  have hla : (stepC l c x).la = x.r.f + (x.r.n - 1) := rfl
  refine (filter_less (fun y hy => ?_) (recs l)).2 x hx (decide_eq_true hp) (decide_eq_false ?_)
  · have := of_decide_eq_true hy
    exact decide_eq_true (by omega)
  · rw [hla]; omega
/-- The next record of a chain, if there is one. -/
structure Nx (l : List Pg) (c : Chn) (m : Option Cr) : Prop where
  hn : m = none → Rch l c ∧ bsF l 2 c.la l.length = none
  hs : ∀ x, m = some x → Rch l (stepC l c x) ∧ x ∈ recs l ∧ c.la ≤ x.r.p
theorem Nx.start1 {l : List Pg} (hl : Okl l) {x : Cr} (h : bsF l 3 0 l.length = some x) : Nx l ch0 (some x) :=
  ⟨fun e => (by cases e), fun y hy => by
    cases hy
    have := bs_some h
    exact ⟨Rch.first h, this.1, (rec_facts hl this.1).2.2.2.1⟩⟩
theorem Nx.next {l : List Pg} {c : Chn} (h : Rch l c) : Nx l c (bsF l 2 c.la l.length) :=
  ⟨fun e => ⟨h, e⟩, fun x hx => by
    have := bs_some hx
    exact ⟨h.step hx, this.1, by rw [this.2.2.1 rfl]; exact Int.le_refl _⟩⟩
-- the program's chain
theorem fold_none {l : List Pg} {c : Chn} : ∀ (D : List Cr), (∀ x ∈ D, x.r.p ≠ c.la) → foldD l c D = c
  | [], _ => rfl
  | x :: t, h => by
    show (if c.la < x.r.p then c else if x.r.p = c.la then foldD l (stepC l c x) t else foldD l c t) = c
    by_cases h1 : c.la < x.r.p
    · rw [if_pos h1]
    · rw [if_neg h1, if_neg (h x (by simp))]
      exact fold_none t (fun y hy => h y (List.mem_cons_of_mem _ hy))
theorem fold_skip {l : List Pg} {c : Chn} {x : Cr} {t : List Cr} (h : x.r.p < c.la) : foldD l c (x :: t) = foldD l c t := by
  show (if c.la < x.r.p then c else if x.r.p = c.la then foldD l (stepC l c x) t else foldD l c t) = _
  rw [if_neg (by omega), if_neg (by omega)]
theorem fold_some {l : List Pg} {c : Chn} {x : Cr} (hp : x.r.p = c.la) (hlt : c.la < (stepC l c x).la) : ∀ (D : List Cr), D.Pairwise (fun a b => ¬ TurnC b a) → x ∈ D → (∀ y ∈ D, y.r.p = c.la → y = x ∨ NewC x y) → foldD l c D = foldD l (stepC l c x) D
  | [], _, hx, _ => by cases hx
  | d :: t, hs, hx, hm => by
    obtain ⟨hs1, hs2⟩ := List.pairwise_cons.1 hs
    by_cases h1 : d.r.p < c.la
    · have hxt : x ∈ t := by
        rcases List.mem_cons.1 hx with rfl | hx
        · omega
        · exact hx
      rw [fold_skip h1, fold_skip (by omega)]
      exact fold_some hp hlt t hs2 hxt (fun y hy => hm y (List.mem_cons_of_mem _ hy))
    · have hdx : d = x := by
        rcases List.mem_cons.1 hx with e | hxt
        · exact e.symm
        · have h2 := hs1 x hxt
          unfold TurnC at h2
          by_cases h3 : d.r.p = c.la
          · rcases hm d (by simp) h3 with e | e
            · exact e
            · exact absurd (.inr ⟨by omega, e⟩) h2
          · exact absurd (.inl (by omega)) h2
      subst hdx
      rw [fold_skip (show d.r.p < (stepC l c d).la by omega)]
      show (if c.la < d.r.p then c else if d.r.p = c.la then foldD l (stepC l c d) t else foldD l c t) = _
      rw [if_neg (by omega), if_pos hp]
theorem rec_eq {l : List Pg} {x y : Cr} (hx : x ∈ recs l) (hy : y ∈ recs l) (hf : x.r.f = y.r.f) (he : x.e = y.e) : x = y := by
  obtain ⟨t, ht, hj, hc⟩ := mem_recs.1 hx
  obtain ⟨u, hu, hk, hd⟩ := mem_recs.1 hy
  have a1 := plK_head ht (isP_self ht hj)
  have a2 := plK_head hu (isP_self hu hk)
  rw [cr_e hc, cr_e hd] at he
  rw [he] at a1
  have := isP_one a1.2.1 a1.2.2 a2.2.2
  rw [this, hd] at hc
  exact (Option.some.inj hc).symm
theorem new_total {l : List Pg} {x y : Cr} (hx : x ∈ recs l) (hy : y ∈ recs l) (h : ¬ NewC y x) : y = x ∨ NewC x y := by
  unfold NewC at *
  by_cases h1 : y.r.f = x.r.f
  · by_cases h2 : y.e = x.e
    · exact .inl (rec_eq hy hx h1 h2)
    · exact .inr (.inr ⟨h1, by omega⟩)
  · exact .inr (.inl (by omega))
theorem recsOf_all (l : List Pg) : recsOf l (keysF l) (List.range (keysF l).length) = recs l := by
  unfold recsOf recs
  generalize keysF l = ks
  have h : ∀ n, n ≤ ks.length → (List.range n).filterMap (fun d => (ks[d]?).bind (crF l)) = (ks.take n).filterMap (crF l) := by
    intro n
    induction n with
    | zero => intro _; simp
    | succ n ih =>
      intro hn
      rw [List.range_succ, List.filterMap_append, ih (by omega), List.take_succ_eq_append_getElem (by omega), List.filterMap_append]
      congr 1
      simp [List.getElem?_eq_getElem (show n < ks.length by omega), List.filterMap_cons]
  rw [h _ (Nat.le_refl _), List.take_length]
theorem chain_eq {l : List Pg} (hl : Okl l) {C D : List Cr} {m : Option Cr} (hC : C.Perm (recsOf l (keysF l) (List.range (keysF l).length))) (hm : MaxC C m) (hD : D.Perm (C.filter fun x => decide (x.r.k = 2))) (hs : D.Pairwise (fun a b => ¬ TurnC b a)) {c : Chn} (h : Rch l c) (he : bsF l 2 c.la l.length = none) : foldD l (startC l m) D = c := by
  rw [recsOf_all] at hC
  have hmC : ∀ x, x ∈ C ↔ x ∈ recs l := fun x => hC.mem_iff
  have hmD : ∀ x, x ∈ D ↔ x ∈ recs l ∧ x.r.k = 2 := fun x => by
    rw [hD.mem_iff, List.mem_filter, hmC]
    simp
  have key : foldD l (startC l m) D = foldD l c D := by
    refine Rch.ind (Q := fun c => foldD l (startC l m) D = foldD l c D) (fun hn => ?_) (fun x hx => ?_) (fun c x hc hx => ?_) h
    · have : m = none := by
        cases m with
        | none => rfl
        | some y => exact absurd (bs_none hn y ((hmC y).1 hm.1) hm.2.1 (fun e => by omega)) id
      subst this
      rfl
    · have hb := bs_some hx
      have : m = some x := by
        cases m with
        | none => exact absurd hb.2.1 (hm x ((hmC x).2 hb.1))
        | some y =>
          have h1 := hb.2.2.2 y ((hmC y).1 hm.1) hm.2.1 (fun e => by omega)
          have h2 := hm.2.2 x ((hmC x).2 hb.1) hb.2.1
          rcases new_total hb.1 ((hmC y).1 hm.1) h1 with e | e
          · rw [e]
          · exact absurd e h2
      subst this
      rfl
    · have hb := bs_some hx
      have hp := hb.2.2.1 rfl
      obtain ⟨f1, f2, f3, f4, f5, f6, f7, f8, f9, f10⟩ := rec_facts hl hb.1
      rw [hc]
      refine fold_some hp (by show c.la < x.r.f + (x.r.n - 1); omega) D hs ((hmD x).2 ⟨hb.1, hb.2.1⟩) (fun y hy hyp => ?_)
      have hy2 := (hmD y).1 hy
      exact new_total hb.1 hy2.1 (hb.2.2.2 y hy2.1 hy2.2 (fun _ => hyp))
  rw [key]
  refine fold_none D (fun x hx hp => ?_)
  have hx2 := (hmD x).1 hx
  exact bs_none he x hx2.1 hx2.2 (fun _ => hp)
theorem used_eq {l : List Pg} {us cs : List Nat} (hp : us.Perm cs) (hs : us.Pairwise (· ≤ ·)) (hn : cs.Nodup) (hlt : ∀ p ∈ cs, p < l.length) : us = (List.range l.length).filter (fun p => decide (p ∈ cs)) := by
  have hun : us.Nodup := hp.symm.nodup hn
  refine sorted_ext (f := fun n => (n : Int)) _ _ ?_ ?_ (fun x => ?_)
  · have : us.Pairwise (fun a b => a ≤ b ∧ a ≠ b) := List.Pairwise.and hs hun
    exact this.imp (fun {a b} h => by have := h.1; have := h.2; omega)
  · exact ((List.pairwise_lt_range (n := l.length)).filter _).imp (fun {a b} h => by omega)
  · rw [List.mem_filter, hp.mem_iff]
    simp only [decide_eq_true_eq, List.mem_range]
    exact ⟨fun h => ⟨hlt x h, h⟩, fun h => h.2⟩
end Go.Proofs.Ytajlddgemkkcdaa
