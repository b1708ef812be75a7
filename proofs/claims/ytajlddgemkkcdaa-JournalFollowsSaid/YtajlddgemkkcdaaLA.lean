/- Lists of pages in memory; the records of pages and their places. Conditions stand in each theorem. -/
import Derived.Test.YtajlddgemkkcdaaK
namespace Go.Proofs.Ytajlddgemkkcdaa
open Go.RowKit
set_option linter.unusedVariables false
set_option maxHeartbeats 4000000
set_option maxRecDepth 100000
/-- A page: its description, the slice of its entries, its entries. -/
structure Pg where
  s : Spr
  ea : Option Addr
  ec : Nat
  es : List (Int × Int)
abbrev Pg.ev (x : Pg) : Value := .slice x.ea x.es.length x.ec
abbrev Pg.row (x : Pg) : Array Value := #[.int .u8 x.s.k, .int .i64 x.s.s, .int .u64 x.s.q, .int .u64 x.s.p, .int .i64 x.s.i, .int .i64 x.s.n, x.ev]
structure PgAt (W : World) (g o : Nat) (x : Pg) : Prop where
  c0 : W.cell? ⟨g, o, none⟩ = some (.int .u8 x.s.k)
  c1 : W.cell? ⟨g, o + 1, none⟩ = some (.int .i64 x.s.s)
  c2 : W.cell? ⟨g, o + 2, none⟩ = some (.int .u64 x.s.q)
  c3 : W.cell? ⟨g, o + 3, none⟩ = some (.int .u64 x.s.p)
  c4 : W.cell? ⟨g, o + 4, none⟩ = some (.int .i64 x.s.i)
  c5 : W.cell? ⟨g, o + 5, none⟩ = some (.int .i64 x.s.n)
  c6 : W.cell? ⟨g, o + 6, none⟩ = some x.ev
theorem PgAt.new (w : World) (r : Pg) (t : TypeId) : PgAt (w.alloc (.cells r.row t)) w.heap.size 0 r := by
  have h := heap_alloc_new w (.cells r.row t)
  refine ⟨?_, ?_, ?_, ?_, ?_, ?_, ?_⟩ <;> (rw [cell_of_row _ _ _ _ _ _ h]; rfl)
theorem PgAt.keep {W W' : World} {g o : Nat} {x : Pg} (h : PgAt W g o x) (hk : ∀ j, W'.cell? ⟨g, j, none⟩ = W.cell? ⟨g, j, none⟩) : PgAt W' g o x :=
  ⟨(hk _).trans h.c0, (hk _).trans h.c1, (hk _).trans h.c2, (hk _).trans h.c3, (hk _).trans h.c4, (hk _).trans h.c5, (hk _).trans h.c6⟩
/-- A slice that reads as pages. -/
def Pgs (w : World) (v : Value) (l : List Pg) : Prop :=
  ∃ A c, v = .slice A l.length c ∧ l.length ≤ c ∧ (l.length ≠ 0 → ∃ g o, A = some ⟨g, o, none⟩ ∧ g < w.heap.size ∧ ∀ j (h : j < l.length), PgAt w g (o + j * 7) l[j])
theorem Pgs.below {w w' : World} {v : Value} {l : List Pg} (h : Pgs w v l) (hb : Below w.heap.size w w') : Pgs w' v l := by
  obtain ⟨A, c, rfl, hc, hr⟩ := h
  refine ⟨A, c, rfl, hc, fun hn => ?_⟩
  obtain ⟨g, o, rfl, hg, hcell⟩ := hr hn
  exact ⟨g, o, rfl, by have := hb.size; omega, fun j hj => (hcell j hj).keep fun i => hb.cell (p := ⟨g, i, none⟩) hg⟩
/-- The keys of the journal's pages in the order in which they come. -/
def stepK (ks : List Rec) (x : Pg) : List Rec := if jnB x.s then addK ks x.s.key else ks
def keysF (l : List Pg) : List Rec := l.foldl stepK []
/-- The places of the pages of a record among the first k. -/
def isP (l : List Pg) (r : Rec) (i : Nat) : Bool := match l[i]? with | some x => jnB x.s && decide (x.s.key = r) | none => false
def plK (l : List Pg) (k : Nat) (r : Rec) : List Nat := (List.range k).filter (isP l r)
theorem keysF_snoc (l : List Pg) (k : Nat) (h : k < l.length) : keysF (l.take (k + 1)) = stepK (keysF (l.take k)) l[k] := by
  unfold keysF
  rw [List.take_succ_eq_append_getElem h, List.foldl_append]
  rfl
theorem isP_at {l : List Pg} {r : Rec} {i : Nat} (h : i < l.length) : isP l r i = (jnB l[i].s && decide (l[i].s.key = r)) := by
  unfold isP
  rw [List.getElem?_eq_getElem h]
theorem plK_yes {l : List Pg} {k : Nat} (h : k < l.length) (hj : jnB l[k].s = true) : plK l (k + 1) = addP (plK l k) l[k].s.key k := by
  funext r
  unfold plK addP
  rw [List.range_succ, List.filter_append]
  simp only [List.filter_cons, List.filter_nil, isP_at h, hj, Bool.true_and, decide_eq_true_eq]
  by_cases e : l[k].s.key = r
  · rw [if_pos e, if_pos e.symm]
  · rw [if_neg e, if_neg (fun e' => e e'.symm), List.append_nil]
theorem plK_no {l : List Pg} {k : Nat} (h : k < l.length) (hj : jnB l[k].s = false) : plK l (k + 1) = plK l k := by
  funext r
  unfold plK
  rw [List.range_succ, List.filter_append]
  simp [isP_at h, hj]
theorem plK_len (l : List Pg) (k : Nat) (r : Rec) : (plK l k r).length ≤ k := by
  unfold plK
  have := List.length_filter_le (isP l r) (List.range k)
  simpa using this
theorem mem_addK {ks : List Rec} {r x : Rec} : x ∈ addK ks r ↔ x ∈ ks ∨ x = r := by
  unfold addK
  split
  · rename_i h
    exact ⟨.inl, fun h' => h'.elim id (fun e => e ▸ h)⟩
  · simp
theorem addK_nodup {ks : List Rec} {r : Rec} (h : ks.Nodup) : (addK ks r).Nodup := by
  unfold addK
  split
  · exact h
  · rename_i hn
    rw [List.nodup_append]
    exact ⟨h, by simp, fun a ha b hb e => hn (by simp at hb; subst hb; exact e ▸ ha)⟩
theorem keysF_nodup (l : List Pg) : ∀ k, k ≤ l.length → (keysF (l.take k)).Nodup
  | 0, _ => by simp [keysF]
  | k + 1, h => by
    rw [keysF_snoc l k (by omega)]
    unfold stepK
    split
    · exact addK_nodup (keysF_nodup l k (by omega))
    · exact keysF_nodup l k (by omega)
theorem keysF_len (l : List Pg) : ∀ k, k ≤ l.length → (keysF (l.take k)).length ≤ k
  | 0, _ => by simp [keysF]
  | k + 1, h => by
    rw [keysF_snoc l k (by omega)]
    have ih := keysF_len l k (by omega)
    unfold stepK addK
    split
    · split
      · omega
      · simp; omega
    · omega
theorem nodup_len : ∀ (n : Nat) (D : List Nat), D.Nodup → (∀ x ∈ D, x < n) → D.length ≤ n
  | 0, D, _, h => by
    cases D with
    | nil => simp
    | cons a t => exact absurd (h a (by simp)) (by omega)
  | n + 1, D, hn, h => by
    have h1 := nodup_len n (D.erase n) (hn.erase n) (fun x hx => by
      have h2 := (hn.mem_erase_iff).1 hx
      have := h x h2.2
      have := h2.1
      omega)
    by_cases hm : n ∈ D
    · rw [List.length_erase_of_mem hm] at h1
      omega
    · rw [List.erase_of_not_mem hm] at h1
      omega
theorem nodup_perm : ∀ (n : Nat) (D : List Nat), D.Nodup → (∀ x ∈ D, x < n) → (∀ x, x < n → x ∈ D) → D.Perm (List.range n)
  | 0, D, _, h, _ => by
    cases D with
    | nil => exact .refl _
    | cons a t => exact absurd (h a (by simp)) (by omega)
  | n + 1, D, hn, h, h' => by
    have hm := h' n (by omega)
    have h1 := nodup_perm n (D.erase n) (hn.erase n) (fun x hx => by
      have h2 := (hn.mem_erase_iff).1 hx
      have := h x h2.2
      have := h2.1
      omega) (fun x hx => (hn.mem_erase_iff).2 ⟨by omega, h' x (by omega)⟩)
    rw [List.range_succ]
    exact (List.perm_cons_erase hm).trans ((h1.cons n).trans (List.perm_append_singleton n _).symm)
theorem mem_keysF (l : List Pg) (r : Rec) : ∀ k, k ≤ l.length → (r ∈ keysF (l.take k) ↔ ∃ i, i < k ∧ isP l r i = true)
  | 0, _ => by simp [keysF]
  | k + 1, h => by
    rw [keysF_snoc l k (by omega)]
    have ih := mem_keysF l r k (by omega)
    have hk : isP l r k = (jnB l[k].s && decide (l[k].s.key = r)) := isP_at (by omega)
    unfold stepK
    split
    · rename_i hj
      rw [mem_addK, ih]
      constructor
      · rintro (⟨i, h1, h2⟩ | rfl)
        · exact ⟨i, by omega, h2⟩
        · exact ⟨k, by omega, by rw [hk, hj]; simp⟩
      · rintro ⟨i, h1, h2⟩
        by_cases e : i = k
        · subst e
          rw [hk, hj] at h2
          exact .inr (by simp at h2; exact h2.symm)
        · exact .inl ⟨i, by omega, h2⟩
    · rename_i hj
      rw [ih]
      constructor
      · rintro ⟨i, h1, h2⟩
        exact ⟨i, by omega, h2⟩
      · rintro ⟨i, h1, h2⟩
        refine ⟨i, ?_, h2⟩
        by_cases e : i = k
        · subst e
          rw [hk] at h2
          simp at h2
          exact absurd h2.1 hj
        · omega
theorem plK_nil {l : List Pg} {k : Nat} (hk : k ≤ l.length) {r : Rec} (h : r ∉ keysF (l.take k)) : plK l k r = [] := by
  unfold plK
  rw [List.filter_eq_nil_iff]
  intro i hi h2
  exact h ((mem_keysF l r k hk).2 ⟨i, List.mem_range.1 hi, h2⟩)
theorem plK_ne {l : List Pg} {k : Nat} (hk : k ≤ l.length) {r : Rec} (h : r ∈ keysF (l.take k)) : plK l k r ≠ [] := by
  obtain ⟨i, h1, h2⟩ := (mem_keysF l r k hk).1 h
  intro e
  have : i ∈ plK l k r := List.mem_filter.2 ⟨List.mem_range.2 h1, h2⟩
  rw [e] at this
  cases this
theorem jn_facts {x : Spr} (h : jnB x = true) : kdB x.k = true ∧ x.s = 0 ∧ 1 ≤ x.n ∧ x.n ≤ 65535 ∧ 0 ≤ x.i ∧ x.i ≤ x.n - 1 ∧ x.p < x.q ∧ x.i < x.q - x.p := by
  unfold jnB at h
  have h1 := of_decide_eq_true h
  obtain ⟨⟨⟨⟨⟨a, b⟩, c⟩, d⟩, e⟩, f⟩ := h1
  have c1 := of_decide_eq_true c
  have d1 := of_decide_eq_true d
  exact ⟨a, b, c1.1, c1.2, d1.1, d1.2, e, f⟩
theorem key_ok {x : Spr} (hx : x.ok) (h : jnB x = true) : x.key.ok := by
  obtain ⟨a, b, c, d, e, f, g, i⟩ := jn_facts h
  obtain ⟨q0, q1, p0, p1⟩ := hx
  have hk := of_decide_eq_true a
  refine ⟨?_, ?_, ?_, ?_, ?_, ?_, ?_, ?_⟩ <;> unfold Spr.key <;> simp only <;> omega
/-- All descriptions are in range. -/
def Okl (l : List Pg) : Prop := ∀ x ∈ l, x.s.ok
theorem keysF_ok {l : List Pg} (hl : Okl l) (k : Nat) (hk : k ≤ l.length) : ∀ r ∈ keysF (l.take k), r.ok := by
  intro r hr
  obtain ⟨i, h1, h2⟩ := (mem_keysF l r k hk).1 hr
  rw [isP_at (by omega)] at h2
  simp only [Bool.and_eq_true, decide_eq_true_eq] at h2
  rw [← h2.2]
  exact key_ok (hl _ (List.getElem_mem _)) h2.1
end Go.Proofs.Ytajlddgemkkcdaa
