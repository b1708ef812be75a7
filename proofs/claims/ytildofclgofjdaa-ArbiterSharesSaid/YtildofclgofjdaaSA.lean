/- Words for ArbiterShares: the queues of three classes, the credits of a round. Conditions stand in each theorem. -/
import Derived.Test.YtildofclgofjdaaBA
namespace Go.Proofs.Ytildofclgofjdaa
open Go.RowKit
set_option linter.unusedVariables false
set_option maxHeartbeats 400000
set_option maxRecDepth 100000
/-- How many queues the class has. -/
def n3 (a b c k : Nat) : Nat := if k = 0 then a else if k = 1 then b else c
/-- The queues of the first k classes, and i of class k: numbers and classes, in the order in which they are added. -/
def sQ (a b c k i : Nat) : List (Int × Int) := (List.range k).flatMap (fun j => (List.range (n3 a b c j)).map fun x => (((10 * x + j : Nat) : Int), ((j + 1 : Nat) : Int))) ++ (List.range i).map fun x => (((10 * x + k : Nat) : Int), ((k + 1 : Nat) : Int))
def sL (a b c k i : Nat) : List (Int × Int) := (sQ a b c k i).foldl (fun L p => addL L p.1 p.2) []
def sl (a b c k i : Nat) : List (Int × Int) := (sQ a b c k i).map fun p => (p.1, 1000)
theorem sQ_succ (a b c k i : Nat) : sQ a b c k (i + 1) = sQ a b c k i ++ [(((10 * i + k : Nat) : Int), ((k + 1 : Nat) : Int))] := by
  unfold sQ
  rw [List.range_succ, List.map_append, List.append_assoc]
  rfl
theorem sQ_next (a b c k : Nat) : sQ a b c (k + 1) 0 = sQ a b c k (n3 a b c k) := by
  unfold sQ
  rw [List.range_succ, List.flatMap_append]
  simp
theorem sL_succ (a b c k i : Nat) : sL a b c k (i + 1) = addL (sL a b c k i) ((10 * i + k : Nat) : Int) ((k + 1 : Nat) : Int) := by
  unfold sL
  rw [sQ_succ, List.foldl_append]
  rfl
theorem sL_next (a b c k : Nat) : sL a b c (k + 1) 0 = sL a b c k (n3 a b c k) := by unfold sL; rw [sQ_next]
theorem sl_succ (a b c k i : Nat) : sl a b c k (i + 1) = sl a b c k i ++ [(((10 * i + k : Nat) : Int), 1000)] := by
  unfold sl
  rw [sQ_succ, List.map_append]
  rfl
theorem sl_next (a b c k : Nat) : sl a b c (k + 1) 0 = sl a b c k (n3 a b c k) := by unfold sl; rw [sQ_next]
theorem s_add : ∀ a b c : Fin 4, ∀ k i : Fin 3, i.val < n3 a b c k → addE (sL a b c k i) ((10 * i.val + k.val : Nat) : Int) ((k.val + 1 : Nat) : Int) = 0 := by decide +kernel
theorem s_acc : ∀ a b c : Fin 4, acc (sL a b c 3 0) [] (sl a b c 3 0) = true := by decide +kernel
theorem s_each : ∀ a b c : Fin 4, ((sl a b c 3 0).all fun p => decide (p.2 = 1000) && decide (0 ≤ p.1) && decide (p.1 % 10 ≤ 2) && decide (p.1 ≤ 65535) && decide (look (sL a b c 3 0) p.1 = some (p.1 % 10 + 1)) && decide (0 < n3 a b c (p.1 % 10).toNat)) = true := by decide +kernel
theorem s_has : ∀ a b c : Fin 4, ∀ k : Fin 3, 0 < n3 a b c k → ((sl a b c 3 0).any fun p => decide (p.1 % 10 = ((k.val : Nat) : Int))) = true := by decide +kernel
theorem s_len : ∀ a b c : Fin 4, ∀ k i : Fin 4, k.val ≤ 3 → (sl a b c k i).length ≤ 15 := by decide +kernel
theorem sL_srt (a b c k i : Nat) : Srt (sL a b c k i) := by
  unfold sL
  generalize sQ a b c k i = l
  have : ∀ (l L : List (Int × Int)), Srt L → Srt (l.foldl (fun L p => addL L p.1 p.2) L) := by
    intro l
    induction l with
    | nil => intro L h; exact h
    | cons p r ih => intro L h; exact ih _ (h.add _ _)
  exact this l [] Srt.nil
/-- The weight of a class that has queues. -/
def wk (hi me lo : Int) (k : Nat) : Int := if k = 0 then hi else if k = 1 then me else lo
def tot (a b c : Nat) (hi me lo : Int) : Int := (if 0 < a then hi else 0) + (if 0 < b then me else 0) + (if 0 < c then lo else 0)
/-- A state in a round in which class k has been given g k. -/
structure Sh (a b c : Nat) (bu hi me lo : Int) (g : Nat → Int) (s : St) : Prop where
  wt : s.wt = true
  ehi : s.hi = hi
  eme : s.me = me
  elo : s.lo = lo
  bu : s.bu = bu
  L : s.L = sL a b c 3 0
  ok : Ok s
  g0 : ∀ k, k < 3 → 0 ≤ g k ∧ g k ≤ wk hi me lo k ∧ (n3 a b c k = 0 → g k = 0)
  cr : (∀ k, k < 3 → 0 < n3 a b c k → s.cr (k + 1) = wk hi me lo k - g k) ∨ ((∀ k, k < 3 → 0 < n3 a b c k → s.cr (k + 1) = 0) ∧ ∀ k, k < 3 → g k = 0)
theorem s_mem {a b c : Nat} (ha : a < 4) (hb : b < 4) (hc : c < 4) {p : Int × Int} (hp : p ∈ sl a b c 3 0) : p.2 = 1000 ∧ 0 ≤ p.1 ∧ p.1 % 10 ≤ 2 ∧ p.1 ≤ 65535 ∧ look (sL a b c 3 0) p.1 = some (p.1 % 10 + 1) ∧ 0 < n3 a b c (p.1 % 10).toNat := by
  have h := List.all_eq_true.1 (s_each ⟨a, ha⟩ ⟨b, hb⟩ ⟨c, hc⟩) p hp
  simp only [Bool.and_eq_true, decide_eq_true_eq] at h
  obtain ⟨⟨⟨⟨⟨h1, h2⟩, h3⟩, h4⟩, h5⟩, h6⟩ := h
  exact ⟨h1, h2, h3, h4, h5, h6⟩
theorem Sh.cls {a b c : Nat} (ha : a < 4) (hb : b < 4) (hc : c < 4) {bu hi me lo : Int} {g : Nat → Int} {s : St} (h : Sh a b c bu hi me lo g s) {p : Int × Int} (hp : p ∈ sl a b c 3 0) : s.cls p.1 = p.1 % 10 + 1 := by
  unfold St.cls
  rw [h.wt, if_pos rfl, h.L, (s_mem ha hb hc hp).2.2.2.2.1]
  rfl
theorem Sh.cnt0 {a b c : Nat} (ha : a < 4) (hb : b < 4) (hc : c < 4) {bu hi me lo : Int} {g : Nat → Int} {s : St} (h : Sh a b c bu hi me lo g s) : s.cnt (sl a b c 3 0) 0 = 0 := by
  unfold St.cnt
  rw [List.length_eq_zero_iff]
  unfold St.wait
  rw [List.filter_eq_nil_iff]
  intro p hp
  have h1 := h.cls ha hb hc hp
  have h2 := s_mem ha hb hc hp
  simp only [Bool.and_eq_true, decide_eq_true_eq, beq_iff_eq, not_and]
  intro _ h3
  rw [h1] at h3
  omega
theorem Sh.cntk {a b c : Nat} (ha : a < 4) (hb : b < 4) (hc : c < 4) {bu hi me lo : Int} {g : Nat → Int} {s : St} (h : Sh a b c bu hi me lo g s) (k : Nat) (hk : k < 3) : 0 < s.cnt (sl a b c 3 0) (k + 1) ↔ 0 < n3 a b c k := by
  unfold St.cnt
  rw [List.length_pos_iff_exists_mem]
  unfold St.wait
  constructor
  · rintro ⟨p, hp⟩
    rw [List.mem_filter] at hp
    obtain ⟨hp, h1⟩ := hp
    simp only [Bool.and_eq_true, beq_iff_eq] at h1
    have h2 := s_mem ha hb hc hp
    have h3 := h1.2
    rw [h.cls ha hb hc hp] at h3
    have : (p.1 % 10).toNat = k := by omega
    rw [this] at h2
    exact h2.2.2.2.2.2
  · intro h0
    have := s_has ⟨a, ha⟩ ⟨b, hb⟩ ⟨c, hc⟩ ⟨k, hk⟩ h0
    rw [List.any_eq_true] at this
    obtain ⟨p, hp, h1⟩ := this
    refine ⟨p, ?_⟩
    rw [List.mem_filter]
    refine ⟨hp, ?_⟩
    have h2 := s_mem ha hb hc hp
    simp only [Bool.and_eq_true, decide_eq_true_eq, beq_iff_eq] at h1 ⊢
    rw [h.cls ha hb hc hp, h1]
    exact ⟨by omega, by omega⟩
theorem pkS_wgt (s : St) (l : List (Int × Int)) : (s.pkS l).hi = s.hi ∧ (s.pkS l).me = s.me ∧ (s.pkS l).lo = s.lo := by
  unfold St.pkS St.tkS
  split
  · exact chS_wts s _
  · exact chS_wts s _
theorem pkS_cr (s : St) (l : List (Int × Int)) (h : s.pkC l ≠ 0) : (s.pkS l).cr = upd (s.chS (s.cnt l)).cr (s.pkC l) ((s.chS (s.cnt l)).cr (s.pkC l) - s.pkM l) := by
  unfold St.pkS St.tkS
  rw [if_neg h]
  rfl
theorem wts_wk (hi me lo : Int) (k : Nat) (hk : k < 3) : wts hi me lo (k + 1) = wk hi me lo k := by
  have : k = 0 ∨ k = 1 ∨ k = 2 := by omega
  rcases this with rfl | rfl | rfl <;> rfl
theorem Sh.sum {a b c : Nat} {bu hi me lo : Int} {g : Nat → Int} {s : St} (h : Sh a b c bu hi me lo g s) (hn : g 0 + g 1 + g 2 < tot a b c hi me lo) : ∃ k, k < 3 ∧ 0 < n3 a b c k ∧ g k < wk hi me lo k := by
  have h0 := h.g0 0 (by decide)
  have h1 := h.g0 1 (by decide)
  have h2 := h.g0 2 (by decide)
  simp only [n3, wk] at h0 h1 h2
  simp at h0 h1 h2
  unfold tot at hn
  by_cases p0 : 0 < a ∧ g 0 < hi
  · exact ⟨0, by decide, by simpa [n3] using p0.1, by simpa [wk] using p0.2⟩
  by_cases p1 : 0 < b ∧ g 1 < me
  · exact ⟨1, by decide, by simpa [n3] using p1.1, by simpa [wk] using p1.2⟩
  by_cases p2 : 0 < c ∧ g 2 < lo
  · exact ⟨2, by decide, by simpa [n3] using p2.1, by simpa [wk] using p2.2⟩
  exfalso
  split at hn <;> split at hn <;> split at hn <;> omega
theorem Sh.any {a b c : Nat} (ha : a < 4) (hb : b < 4) (hc : c < 4) {k : Nat} (hk : k < 3) (h0 : 0 < n3 a b c k) : anyB (sl a b c 3 0) = true := by
  have := s_has ⟨a, ha⟩ ⟨b, hb⟩ ⟨c, hc⟩ ⟨k, hk⟩ h0
  rw [List.any_eq_true] at this
  obtain ⟨p, hp, _⟩ := this
  unfold anyB
  rw [List.any_eq_true]
  refine ⟨p, hp, ?_⟩
  have := s_mem ha hb hc hp
  simp only [decide_eq_true_eq]
  omega
theorem Sh.pick {a b c : Nat} (ha : a < 4) (hb : b < 4) (hc : c < 4) {bu hi me lo : Int} {g : Nat → Int} {s : St} (h : Sh a b c bu hi me lo g s) (hn : g 0 + g 1 + g 2 < tot a b c hi me lo) :
    anyB (sl a b c 3 0) = true ∧ ∃ k, k < 3 ∧ 0 < n3 a b c k ∧ 0 ≤ (s.pkP (sl a b c 3 0)).1 ∧ (s.pkP (sl a b c 3 0)).1 ≤ 65535 ∧ (s.pkP (sl a b c 3 0)).1 % 10 = (k : Int) ∧ 0 < s.pkM (sl a b c 3 0) ∧ s.pkM (sl a b c 3 0) ≤ 40 + wk hi me lo k ∧ Sh a b c bu hi me lo (upd g k (g k + s.pkM (sl a b c 3 0))) (s.pkS (sl a b c 3 0)) := by
  obtain ⟨k1, hk1, hn1, hg1⟩ := h.sum hn
  have hany := Sh.any ha hb hc hk1 hn1
  refine ⟨hany, ?_⟩
  have hpos := pkC_pos h.ok hany
  have hc0 := h.cnt0 ha hb hc
  have hC0 : s.pkC (sl a b c 3 0) ≠ 0 := by
    intro e
    have := hpos.1
    rw [e] at this
    unfold St.cnt at hc0
    omega
  have hC4 : s.pkC (sl a b c 3 0) < 4 := chC_lt _ _
  obtain ⟨k, hk⟩ : ∃ k, s.pkC (sl a b c 3 0) = k + 1 := ⟨s.pkC (sl a b c 3 0) - 1, by omega⟩
  have hk3 : k < 3 := by omega
  have hnk : 0 < n3 a b c k := (h.cntk ha hb hc k hk3).1 (by unfold St.cnt; rw [← hk]; exact hpos.1)
  have hcr : ∀ j, j < 3 → 0 < n3 a b c j → (s.chS (s.cnt (sl a b c 3 0))).cr (j + 1) = wk hi me lo j - g j := by
    intro j hj hnj
    rcases h.cr with hA | ⟨hB, hg⟩
    · have e : s.chS (s.cnt (sl a b c 3 0)) = s := by
        unfold St.chS overB
        rw [if_neg]
        have := credF_of (n := s.cnt (sl a b c 3 0)) (cr := s.cr) (c := k1 + 1) (by omega) (by omega) ((h.cntk ha hb hc k1 hk1).2 hn1) (by rw [hA k1 hk1 hn1]; omega)
        simp [this]
      rw [e]
      exact hA j hj hnj
    · have hz : credF (s.cnt (sl a b c 3 0)) s.cr = 0 := by
        by_cases e : credF (s.cnt (sl a b c 3 0)) s.cr = 0
        · exact e
        · have hp := credF_pos e
          have h4 := credF_lt (s.cnt (sl a b c 3 0)) s.cr
          obtain ⟨m, hm⟩ : ∃ m, credF (s.cnt (sl a b c 3 0)) s.cr = m + 1 := ⟨credF (s.cnt (sl a b c 3 0)) s.cr - 1, by omega⟩
          rw [hm] at hp h4
          have := hB m (by omega) ((h.cntk ha hb hc m (by omega)).1 hp.1)
          omega
      have e : s.chS (s.cnt (sl a b c 3 0)) = s.fresh := by unfold St.chS overB; rw [if_pos (by simp [hc0, hz])]
      rw [e, hg j hj]
      show wts s.hi s.me s.lo (j + 1) = _
      rw [h.ehi, h.eme, h.elo, wts_wk hi me lo j hj]
      omega
  have hr := pkM_range h.ok hany
  have hM := hr.2.2.2 hC0
  rw [hk, hcr k hk3 hnk] at hM
  have hm := pkP_mem h.ok hany
  rw [hk] at hm
  unfold St.wait at hm
  rw [List.mem_filter] at hm
  obtain ⟨hml, hmc⟩ := hm
  simp only [Bool.and_eq_true, beq_iff_eq] at hmc
  have hq := s_mem ha hb hc hml
  have hq2 := hmc.2
  rw [h.cls ha hb hc hml] at hq2
  have hgk := h.g0 k hk3
  refine ⟨k, hk3, hnk, hq.2.1, hq.2.2.2.1, by omega, hr.1, by omega, ?_⟩
  obtain ⟨w1, w2, w3⟩ := pkS_wgt s (sl a b c 3 0)
  refine ⟨by rw [pkS_wt]; exact h.wt, w1.trans h.ehi, w2.trans h.eme, w3.trans h.elo, by rw [pkS_bu]; exact h.bu, by rw [pkS_L]; exact h.L, pkS_ok h.ok (by rw [h.L]; exact s_acc ⟨a, ha⟩ ⟨b, hb⟩ ⟨c, hc⟩) hany, fun j hj => ?_, .inl fun j hj hnj => ?_⟩
  · unfold upd
    by_cases e : j = k
    · subst e
      rw [if_pos rfl]
      exact ⟨by omega, by omega, fun h0 => by omega⟩
    · rw [if_neg e]
      exact h.g0 j hj
  · rw [pkS_cr s _ hC0, hk]
    unfold upd
    by_cases e : j = k
    · subst e
      rw [if_pos rfl, if_pos rfl, hcr j hj hnj]
      omega
    · rw [if_neg (by omega), if_neg e]
      exact hcr j hj hnj
/-- A round that is over: each class has been given its weight; the next one begins. -/
theorem Sh.over {a b c : Nat} {bu hi me lo : Int} {g : Nat → Int} {s : St} (h : Sh a b c bu hi me lo g s) (h0 : 0 < tot a b c hi me lo) (hn : tot a b c hi me lo ≤ g 0 + g 1 + g 2) : (∀ k, k < 3 → 0 < n3 a b c k → g k = wk hi me lo k) ∧ (∀ k, k < 3 → n3 a b c k = 0 → g k = 0) ∧ Sh a b c bu hi me lo (fun _ => 0) s := by
  have e0 := h.g0 0 (by decide)
  have e1 := h.g0 1 (by decide)
  have e2 := h.g0 2 (by decide)
  have key : ∀ k, k < 3 → 0 < n3 a b c k → g k = wk hi me lo k := by
    simp only [n3, wk] at e0 e1 e2
    simp at e0 e1 e2
    unfold tot at hn
    intro k hk hnk
    have : k = 0 ∨ k = 1 ∨ k = 2 := by omega
    split at hn <;> split at hn <;> split at hn <;> rcases this with rfl | rfl | rfl <;> simp [n3, wk] at hnk ⊢ <;> omega
  refine ⟨key, fun k hk hz => (h.g0 k hk).2.2 hz, h.wt, h.ehi, h.eme, h.elo, h.bu, h.L, h.ok, fun k hk => ⟨Int.le_refl _, ?_, fun _ => rfl⟩, .inr ⟨fun k hk hnk => ?_, fun _ _ => rfl⟩⟩
  · have := h.g0 k hk
    show 0 ≤ wk hi me lo k
    omega
  · rcases h.cr with hA | ⟨hB, _⟩
    · rw [hA k hk hnk, key k hk hnk]; omega
    · exact hB k hk hnk
end Go.Proofs.Ytildofclgofjdaa
