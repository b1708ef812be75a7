/- Words for ArbiterTurns: queues that are picked in turn. Conditions stand in each theorem. -/
import Derived.Test.YtildofclgofjdaaV
namespace Go.Proofs.Ytildofclgofjdaa
open Go.RowKit
set_option linter.unusedVariables false
set_option maxHeartbeats 400000
set_option maxRecDepth 100000
theorem low_le (last : Int) (l : List (Int × Int)) : ∀ y ∈ l, rk last (low last l).1 ≤ rk last y.1 := by
  cases l with
  | nil => intro y hy; cases hy
  | cons p r =>
    show ∀ y ∈ p :: r, rk last (r.foldl (lowStep last) p).1 ≤ rk last y.1
    induction r generalizing p with
    | nil => intro y hy; simp at hy; subst hy; exact Int.le_refl _
    | cons x r ih =>
      intro y hy
      rw [List.foldl_cons]
      have hs : rk last (lowStep last p x).1 ≤ rk last p.1 ∧ rk last (lowStep last p x).1 ≤ rk last x.1 := by unfold lowStep; split <;> omega
      have h0 := ih (lowStep last p x) (lowStep last p x) List.mem_cons_self
      rcases List.mem_cons.1 hy with rfl | hy
      · omega
      · rcases List.mem_cons.1 hy with rfl | hy
        · omega
        · exact ih (lowStep last p x) y (List.mem_cons_of_mem _ hy)
theorem low_is {last : Int} {l : List (Int × Int)} {x : Int × Int} (hx : x ∈ l) (h : ∀ y ∈ l, y = x ∨ rk last x.1 < rk last y.1) : low last l = x := by
  have hm := low_mem last l (List.length_pos_of_mem hx)
  rcases h _ hm with e | e
  · exact e
  · have := low_le last l x hx
    omega
/-- The queues of the law, and their loads. -/
def tQ (n : Nat) : List (Int × Int) := (List.range n).map fun i => ((3 * i : Nat), ((i % 4 : Nat) : Int))
def tL (ws : List Int) (n : Nat) : List (Int × Int) := (List.range n).map fun i => (((3 * i : Nat) : Int), ws.getD i 0)
theorem tQ_succ (n : Nat) : tQ (n + 1) = tQ n ++ [(((3 * n : Nat) : Int), ((n % 4 : Nat) : Int))] := by unfold tQ; rw [List.range_succ, List.map_append]; rfl
theorem tL_succ (ws : List Int) (n : Nat) : tL ws (n + 1) = tL ws n ++ [(((3 * n : Nat) : Int), ws.getD n 0)] := by unfold tL; rw [List.range_succ, List.map_append]; rfl
theorem tL_length (ws : List Int) (n : Nat) : (tL ws n).length = n := by simp [tL]
theorem ins_end {L : List (Int × Int)} {q c : Int} (h : ∀ p ∈ L, p.1 < q) : ins q c L = L ++ [(q, c)] := by
  induction L with
  | nil => rfl
  | cons x r ih =>
    have hx := h x List.mem_cons_self
    unfold ins
    rw [if_neg (by omega), ih (fun p hp => h p (List.mem_cons_of_mem _ hp))]
    rfl
theorem tQ_lt (n : Nat) : ∀ p ∈ tQ n, p.1 < ((3 * n : Nat) : Int) := by
  intro p hp
  unfold tQ at hp
  obtain ⟨i, hi, rfl⟩ := List.mem_map.1 hp
  have := List.mem_range.1 hi
  simp only
  omega
theorem tQ_none (n : Nat) : look (tQ n) ((3 * n : Nat) : Int) = none := look_none.2 fun p hp => by have := tQ_lt n p hp; omega
theorem tQ_addE (n : Nat) (h : n < 20) : addE (tQ n) ((3 * n : Nat) : Int) ((n % 4 : Nat) : Int) = 0 := by
  refine addE_ok ?_ (by rw [tQ_none]; rfl)
  rintro (h1 | h1 | h1)
  · unfold numB at h1
    have := of_decide_eq_false h1
    omega
  · omega
  · omega
theorem tQ_addL (n : Nat) (h : n < 20) : addL (tQ n) ((3 * n : Nat) : Int) ((n % 4 : Nat) : Int) = tQ (n + 1) := by
  rw [addL_yes (tQ_addE n h), ins_end (tQ_lt n), tQ_succ]
theorem tQ_srt (n : Nat) (h : n ≤ 20) : Srt (tQ n) := by
  induction n with
  | zero => exact Srt.nil
  | succ n ih => rw [← tQ_addL n (by omega)]; exact (ih (by omega)).add _ _
theorem tQ_look (n i : Nat) (h : i < n) (hn : n ≤ 20) : look (tQ n) ((3 * i : Nat) : Int) = some ((i % 4 : Nat) : Int) :=
  look_of_mem (tQ_srt n hn) (List.mem_map.2 ⟨i, List.mem_range.2 h, rfl⟩)
/-- A state between two picks: the queue picked last is la. -/
structure Tst (s : St) (n : Nat) (bu la : Int) : Prop where
  wt : s.wt = false
  bu : s.bu = bu
  L : s.L = tQ n
  la : s.last 0 = la
  ok : Ok s
theorem tL_mem {ws : List Int} {n : Nat} {p : Int × Int} : p ∈ tL ws n ↔ ∃ i, i < n ∧ p = (((3 * i : Nat) : Int), ws.getD i 0) := by
  unfold tL
  rw [List.mem_map]
  constructor
  · rintro ⟨i, hi, rfl⟩; exact ⟨i, List.mem_range.1 hi, rfl⟩
  · rintro ⟨i, hi, rfl⟩; exact ⟨i, List.mem_range.2 hi, rfl⟩
theorem Tst.wait {s : St} {n : Nat} {bu la : Int} (h : Tst s n bu la) {ws : List Int} (hp : ∀ i, i < n → 0 < ws.getD i 0) : s.wait (tL ws n) 0 = tL ws n := by
  unfold St.wait
  rw [List.filter_eq_self]
  intro p hm
  obtain ⟨i, hi, rfl⟩ := tL_mem.1 hm
  have := hp i hi
  have e1 : s.cls ((3 * i : Nat) : Int) = 0 := by unfold St.cls; rw [h.wt]; rfl
  simp only [e1, Bool.and_eq_true, decide_eq_true_eq]
  exact ⟨this, rfl⟩
theorem acc_tL {ws : List Int} {n : Nat} (hn : n ≤ 20) (hp : ∀ i, i < n → 0 < ws.getD i 0) : acc (tQ n) [] (tL ws n) = true := by
  have key : ∀ (l : List (Int × Int)) (seen : List Int), (∀ p ∈ l, (look (tQ n) p.1).isSome = true ∧ 0 ≤ p.2) → (l.map (·.1)).Nodup → (∀ p ∈ l, p.1 ∉ seen) → acc (tQ n) seen l = true := by
    intro l
    induction l with
    | nil => intro _ _ _ _; rfl
    | cons p r ih =>
      intro seen h1 h2 h3
      rw [List.map_cons, List.nodup_cons] at h2
      rw [acc_yes (h1 p List.mem_cons_self).1 (h1 p List.mem_cons_self).2 (by simpa using h3 p List.mem_cons_self)]
      refine ih _ (fun x hx => h1 x (List.mem_cons_of_mem _ hx)) h2.2 (fun x hx => ?_)
      rw [List.mem_cons]
      rintro (e | e)
      · exact h2.1 (List.mem_map.2 ⟨x, hx, e⟩)
      · exact h3 x (List.mem_cons_of_mem _ hx) e
  refine key _ _ (fun p hm => ?_) ?_ (fun _ _ h => by cases h)
  · obtain ⟨i, hi, rfl⟩ := tL_mem.1 hm
    rw [tQ_look n i hi hn]
    exact ⟨rfl, Int.le_of_lt (hp i hi)⟩
  · unfold tL
    rw [List.map_map]
    refine List.pairwise_map.2 (List.pairwise_lt_range.imp fun {a b} h => ?_)
    simp
    omega
theorem any_tL {ws : List Int} {n : Nat} (h0 : 0 < n) (hp : ∀ i, i < n → 0 < ws.getD i 0) : anyB (tL ws n) = true := by
  unfold anyB
  rw [List.any_eq_true]
  exact ⟨_, tL_mem.2 ⟨0, h0, rfl⟩, by simpa using hp 0 h0⟩
/-- The number that was picked before that of i. -/
def prev (n i : Nat) (first : Bool) : Int := if i = 0 then (if first then -1 else ((3 * (n - 1) : Nat) : Int)) else ((3 * (i - 1) : Nat) : Int)
theorem rk_hi {la q : Int} (h : la < q) (h0 : -1 ≤ la) (h1 : q ≤ 65535) : rk la q = q - la - 1 := by
  unfold rk
  have e : q - la + 65535 = (q - la - 1) + 65536 := by omega
  rw [e, Int.add_emod_right, Int.emod_eq_of_lt (by omega) (by omega)]
theorem rk_lo {la q : Int} (h : q ≤ la) (h0 : 0 ≤ q) (h1 : la ≤ 65535) : rk la q = q - la + 65535 := by
  unfold rk
  rw [Int.emod_eq_of_lt (by omega) (by omega)]
theorem rk_first (n i j : Nat) (f : Bool) (hi : i < n) (hj : j < n) (hn : n ≤ 20) (hne : j ≠ i) : rk (prev n i f) ((3 * i : Nat) : Int) < rk (prev n i f) ((3 * j : Nat) : Int) := by
  unfold prev
  by_cases h0 : i = 0
  · rw [if_pos h0]
    cases f
    · rw [if_neg (by decide), rk_lo (by omega) (by omega) (by omega), rk_lo (by omega) (by omega) (by omega)]
      omega
    · rw [if_pos rfl, rk_hi (by omega) (by omega) (by omega), rk_hi (by omega) (by omega) (by omega)]
      omega
  · rw [if_neg h0, rk_hi (by omega) (by omega) (by omega)]
    by_cases h1 : j < i
    · rw [rk_lo (by omega) (by omega) (by omega)]
      omega
    · rw [rk_hi (by omega) (by omega) (by omega)]
      omega
theorem Tst.pick {s : St} {n i : Nat} {bu : Int} {f : Bool} (h : Tst s n bu (prev n i f)) {ws : List Int} (hp : ∀ i, i < n → 0 < ws.getD i 0) (hi : i < n) (hn : n ≤ 20) :
    s.pkC (tL ws n) = 0 ∧ s.pkP (tL ws n) = (((3 * i : Nat) : Int), ws.getD i 0) ∧ s.pkM (tL ws n) = bst bu (ws.getD i 0) ∧ Tst (s.pkS (tL ws n)) n bu ((3 * i : Nat) : Int) := by
  have hw := h.wait hp
  have hc0 : 0 < s.cnt (tL ws n) 0 := by unfold St.cnt; rw [hw, tL_length]; omega
  have hC : s.pkC (tL ws n) = 0 := by unfold St.pkC St.chC; rw [if_pos hc0]
  have hS : s.chS (s.cnt (tL ws n)) = s := by unfold St.chS overB; rw [if_neg (by simp; omega)]
  have hP : s.pkP (tL ws n) = (((3 * i : Nat) : Int), ws.getD i 0) := by
    unfold St.pkP
    rw [hC, hS, hw, h.la]
    refine low_is (tL_mem.2 ⟨i, hi, rfl⟩) (fun y hy => ?_)
    obtain ⟨j, hj, rfl⟩ := tL_mem.1 hy
    by_cases e : j = i
    · subst e; exact .inl rfl
    · exact .inr (rk_first n i j f hi hj hn e)
  have hM : s.pkM (tL ws n) = bst bu (ws.getD i 0) := by
    unfold St.pkM St.tk
    rw [hC, if_pos rfl, pk1_bu, h.bu, hP]
  have ha : acc s.L [] (tL ws n) = true := by rw [h.L]; exact acc_tL hn hp
  refine ⟨hC, hP, hM, ?_, ?_, ?_, ?_, pkS_ok h.ok ha (any_tL (by omega) hp)⟩
  · rw [pkS_wt]; exact h.wt
  · rw [pkS_bu]; exact h.bu
  · rw [pkS_L]; exact h.L
  · unfold St.pkS St.tkS
    rw [hC, if_pos rfl]
    unfold St.pk1 upd
    show (if (0 : Nat) = s.pkC (tL ws n) then (s.pkP (tL ws n)).1 else _) = _
    rw [hC, if_pos rfl, hP]
end Go.Proofs.Ytildofclgofjdaa
