/- Spans: what it returns, and the state between two rounds of its loop. Conditions stand in each theorem. -/
import Derived.Test.YtngaifokkkmmcaaSQ
namespace Go.Proofs.Ytngaifokkkmmcaa
open Go.RowKit Go.Shelf
set_option linter.unusedVariables false
set_option maxHeartbeats 2000000
set_option maxRecDepth 100000
/-- The first k spans of a transfer of n bytes: where the next address is, the spans, the rest; or the error. -/
def spK (m : Mm) (fs sc ct n : Nat) : Nat → Except Int (Nat × List (Nat × Nat) × Nat)
  | 0 => .ok (0, [], n)
  | k + 1 => match spK m fs sc ct n k with
    | .error q => .error q
    | .ok (a, l, r) => match pgE m fs sc ct k a with
      | .error q => .error q
      | .ok (x, a') => if m.chk x ((min r (te x) : Nat) : Int) = 0 then .ok (a', l ++ [(x, min r (te x))], r - min r (te x)) else .error (m.chk x ((min r (te x) : Nat) : Int))
theorem spK_err {m : Mm} {fs sc ct n : Nat} {q : Int} {j : Nat} (h : spK m fs sc ct n j = .error q) : ∀ k, j ≤ k → spK m fs sc ct n k = .error q := by
  intro k hk
  obtain ⟨i, rfl⟩ : ∃ i, k = j + i := ⟨k - j, by omega⟩
  clear hk
  induction i with
  | zero => exact h
  | succ i ih =>
    show spK m fs sc ct n (j + i + 1) = _
    unfold spK
    rw [ih]
/-- The spans of a transfer, or the error. -/
def spE (m : Mm) (fs sc : Nat) (n : Int) : Except Int (List (Nat × Nat)) :=
  if ¬ (0 ≤ n ∧ n ≤ 1048576) then .error 2 else match spK m fs sc (cnt fs n) n.toNat (cnt fs n) with | .error q => .error q | .ok (_, l, _) => .ok l
def lstO (r : Except Int (List (Nat × Nat))) : List (Nat × Nat) := match r with | .ok l => l | .error _ => []
def numO (r : Except Int (List (Nat × Nat))) : Int := match r with | .ok _ => 0 | .error q => q
/-- What Spans leaves. -/
def SpPost (w : World) (r : Except Int (List (Nat × Nat))) (e : Ending) (w' : World) : Prop :=
  (∃ A c, e = .returned (.tuple #[.slice A (lstO r).length c, .int .i64 (numO r)]) ∧ w'.ownsRow w.heap.size 42 3 (.slice A (lstO r).length c) (lstO r).length (sv (lstO r))) ∧ Below w.heap.size w w'
/-- The state of Spans between two rounds. -/
structure Sst (w W : World) (base b d cap : Nat) (m : Mm) (n0 gw qr q2 fs sc ct a : Nat) (l : List (Nat × Nat)) (r : Nat) : Prop where
  wm : Wm W base b d cap m gw fs sc ct a
  row : ∃ A c, W.heap[n0]? = some (.cells #[.slice A l.length c] 26 (0, 0)) ∧ W.ownsRow n0 42 3 (.slice A l.length c) l.length (sv l)
  err : W.heap[n0 + 1]? = some (.cells #[.int .i64 0] 38 (0, 0))
  rest : W.heap[qr]? = some (.cells #[.int .i64 (r : Int)] 3 (0, 0))
  fn : W.heap[q2]? = some (.cells #[.func (.func 48) #[.pointer (some ⟨gw, 0, none⟩)] #[]] 96 (0, 0))
  bel : Below n0 w W
  ne : b < n0 ∧ d < n0 ∧ n0 + 1 < gw ∧ n0 + 1 < qr ∧ n0 + 1 < q2 ∧ gw ≠ qr ∧ gw ≠ q2 ∧ qr ≠ q2
section
variable {w W W' : World} {base b d cap : Nat} {m : Mm} {n0 gw qr q2 fs sc ct a : Nat} {l : List (Nat × Nat)} {r : Nat}
theorem Sst.keep (h : Sst w W base b d cap m n0 gw qr q2 fs sc ct a l r) (hk : ∀ (k : Nat) (o : Obj), W.heap[k]? = some o → o.isCells = true → W'.heap[k]? = some o) (hb : Below n0 w W') : Sst w W' base b d cap m n0 gw qr q2 fs sc ct a l r := by
  obtain ⟨c0, e0, -⟩ := h.wm.mem.blk
  obtain ⟨-, -, cur, e1, -⟩ := h.wm.mem.row
  refine ⟨⟨h.wm.mem.keep fun k hkk => ?_, hk _ _ h.wm.wk rfl, h.wm.ne⟩, ?_, hk _ _ h.err rfl, hk _ _ h.rest rfl, hk _ _ h.fn rfl, hb, h.ne⟩
  · rcases hkk with rfl | rfl
    · rw [hk _ _ e0 rfl, e0]
    · rw [hk _ _ e1 rfl, e1]
  · obtain ⟨A, c, h1, h2⟩ := h.row
    refine ⟨A, c, hk _ _ h1 rfl, h2.1, ?_⟩
    rcases h2.2 with h3 | ⟨g, cp, cu, e, a1, a2, a3⟩
    · exact .inl h3
    · exact .inr ⟨g, cp, cu, e, a1, hk _ _ a2 rfl, a3⟩
theorem Sst.below (h : Sst w W base b d cap m n0 gw qr q2 fs sc ct a l r) (hb : Below W.heap.size W W') : Sst w W' base b d cap m n0 gw qr q2 fs sc ct a l r :=
  h.keep (fun k o hk _ => (hb.block k (Array.getElem?_eq_some_iff.1 hk).1).trans hk) (h.bel.trans (hb.mono (by
    obtain ⟨_, _, h1, _⟩ := h.row
    exact Nat.le_of_lt (Array.getElem?_eq_some_iff.1 h1).1)))
theorem own_sst {β : Type} {B : Nat} (hB : n0 ≤ B) (f : β → Nat) (g : β → List (Nat × Nat)) (i : β → Nat) : OwnFrom B (fun (x : β) W => Sst w W base b d cap m n0 gw qr q2 fs sc ct (f x) (g x) (i x)) := fun x X Y row hs hg hr =>
  hs.keep (fun k o hk hc => (hg.block k (Array.getElem?_eq_some_iff.1 hk).1 (fun e => by
    obtain ⟨_, o', ho, hc'⟩ := hr k e.symm
    rw [hk] at ho; cases ho; rw [hc] at hc'; cases hc')).trans hk)
    (hs.bel.grown hg (by
      obtain ⟨_, _, h1, _⟩ := hs.row
      exact Nat.le_of_lt (Array.getElem?_eq_some_iff.1 h1).1) (fun k e => by have := (hr k e).1; omega))
/-- Behind a step of the walk. -/
theorem Sst.page {a' : Nat} (h : Sst w W base b d cap m n0 gw qr q2 fs sc ct a l r) (hw : Wm W' base b d cap m gw fs sc ct a') (hc : Chg (fun k => k = gw) W W') : Sst w W' base b d cap m n0 gw qr q2 fs sc ct a' l r := by
  have hn := h.ne
  have e : ∀ k o, W.heap[k]? = some o → k ≠ gw → W'.heap[k]? = some o := fun k o hk hne => (hc.block k (Array.getElem?_eq_some_iff.1 hk).1 hne).trans hk
  refine ⟨hw, ?_, e _ _ h.err (by omega), e _ _ h.rest (by omega), e _ _ h.fn (by omega), h.bel.trans (hc.below ?_ fun i hi => by omega), h.ne⟩
  · obtain ⟨A, c, h1, h2⟩ := h.row
    refine ⟨A, c, e _ _ h1 (by omega), h2.1, ?_⟩
    rcases h2.2 with h3 | ⟨g, cp, cu, e5, a1, a2, a3⟩
    · exact .inl h3
    · refine .inr ⟨g, cp, cu, e5, a1, e _ _ a2 (fun hg => ?_), a3⟩
      subst hg
      have := h.wm.wk
      rw [a2] at this
      cases this
  · obtain ⟨_, _, h1, _⟩ := h.row
    exact Nat.le_of_lt (Array.getElem?_eq_some_iff.1 h1).1
/-- What lies in Spans' blocks when an error is raised. -/
structure Sxt (w W : World) (n0 : Nat) : Prop where
  row : ∃ v, W.heap[n0]? = some (.cells #[v] 26 (0, 0))
  err : ∃ v, W.heap[n0 + 1]? = some (.cells #[v] 38 (0, 0))
  bel : Below n0 w W
theorem Sst.sxt (h : Sst w W base b d cap m n0 gw qr q2 fs sc ct a l r) : Sxt w W n0 := by
  obtain ⟨A, c, h1, h2⟩ := h.row
  exact ⟨⟨_, h1⟩, ⟨_, h.err⟩, h.bel⟩
theorem Sxt.chg {S : Nat → Prop} (h : Sxt w W n0) (hc : Chg S W W') (hS : ∀ k, S k → n0 + 1 < k) : Sxt w W' n0 := by
  obtain ⟨v, h1⟩ := h.row
  obtain ⟨u, h2⟩ := h.err
  exact ⟨⟨v, (hc.block _ (Array.getElem?_eq_some_iff.1 h1).1 (fun hs => by have := hS _ hs; omega)).trans h1⟩, ⟨u, (hc.block _ (Array.getElem?_eq_some_iff.1 h2).1 (fun hs => by have := hS _ hs; omega)).trans h2⟩,
    h.bel.trans (hc.below (Nat.le_of_lt (Array.getElem?_eq_some_iff.1 h1).1) fun i hi => by have := hS _ hi; omega)⟩
end
end Go.Proofs.Ytngaifokkkmmcaa
