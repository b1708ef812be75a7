/- Own rows of spans: append, slices of them; the state of MemoryLogs. Conditions stand in each theorem. -/
import Derived.Test.YtmnlkejhhdbhlaaN
namespace Go.Proofs.Ytmnlkejhhdbhlaa
open Go.RowKit
set_option linter.unusedVariables false
set_option maxHeartbeats 2000000
set_option maxRecDepth 100000
/-- The cells of spans. -/
def sv : List (Nat × Nat) → List Value
  | [] => []
  | p :: l => .int .u64 (p.1 : Int) :: .int .i64 (p.2 : Int) :: .bool false :: sv l
theorem sv_length : ∀ l : List (Nat × Nat), (sv l).length = l.length * 3
  | [] => rfl
  | p :: l => by simp only [sv, List.length_cons, sv_length l]; omega
theorem sv_append : ∀ a b : List (Nat × Nat), sv (a ++ b) = sv a ++ sv b
  | [], b => rfl
  | p :: a, b => by simp only [List.cons_append, sv, sv_append a b]
theorem sv_at : ∀ (l : List (Nat × Nat)) (j : Nat) (h : j < l.length), (sv l)[j * 3]? = some (.int .u64 (l[j].1 : Int)) ∧ (sv l)[j * 3 + 1]? = some (.int .i64 (l[j].2 : Int)) ∧ (sv l)[j * 3 + 2]? = some (.bool false)
  | [], j, h => absurd h (by simp)
  | p :: l, 0, h => ⟨rfl, rfl, rfl⟩
  | p :: l, j + 1, h => by
    have := sv_at l j (by simpa using h)
    rw [show (j + 1) * 3 = j * 3 + 1 + 1 + 1 by omega, show j * 3 + 1 + 1 + 1 + 1 = (j * 3 + 1) + 1 + 1 + 1 by omega, show j * 3 + 1 + 1 + 1 + 2 = (j * 3 + 2) + 1 + 1 + 1 by omega]
    simpa [sv] using this
theorem sv_one : ∀ (l : List (Nat × Nat)), ∀ u ∈ sv l, u.oneCell' = true
  | [], u, h => by cases h
  | p :: l, u, h => by
    simp only [sv, List.mem_cons] at h
    rcases h with rfl | rfl | rfl | h
    · rfl
    · rfl
    · rfl
    · exact sv_one l u h
theorem spn_of_own {w : World} {base : Nat} {v : Value} {l : List (Nat × Nat)} (h : w.ownsRow base 47 3 v l.length (sv l)) : Spn w v l := by
  rcases h.2 with ⟨rfl, h0⟩ | ⟨g, cap, cur, rfl, _, hg, hnc, _, _, _⟩
  · exact ⟨none, 0, by rw [h0], by omega, fun hp => absurd hp (by omega)⟩
  · refine ⟨_, cap, rfl, hnc, fun hp => ⟨g, 0, rfl, (Array.getElem?_eq_some_iff.1 hg).1, fun j hj => ?_⟩⟩
    obtain ⟨a1, a2, a3⟩ := sv_at l j hj
    rw [Nat.zero_add, h.cellAt (j * 3) (by omega), h.cellAt (j * 3 + 1) (by omega), h.cellAt (j * 3 + 2) (by omega)]
    exact ⟨a1, a2, a3⟩
theorem info47 : (Try.prog.info? 47).map (fun i => (i.zero, i.size)) = some (some (.agg #[.int .u64 0, .int .i64 0, .bool false]), 3) := by kernel_rfl
theorem info47b : (Try.prog.info? 47).map (·.bytes) = some 24 := by kernel_rfl
theorem app_span (w : World) (base n : Nat) (v : Value) (L : List (Nat × Nat)) (p : Nat × Nat) (x : Addr) (hown : w.ownsRow base 47 3 v n (sv L)) (hx : ∀ j u, (sv [p])[j]? = some u → w.cell? (x.add j) = some u) (hsz : n ≤ 1000000) (hbase : base ≤ w.heap.size) :
    ∃ A c w', (Builtin.append_ #[30, 30] 30 #[v, .slice (some x) 1 1]).run Try.prog w = .ok (.slice A (n + 1) c) w' ∧ w'.ownsRow base 47 3 (.slice A (n + 1) c) (n + 1) (sv (L ++ [p])) ∧ w.grownBy w' v.ownBlock := by
  have h1 := info47
  have h2 := info47b
  cases hq : Try.prog.info? 47 with
  | none => rw [hq] at h1; cases h1
  | some i0 =>
    rw [hq] at h1 h2
    simp only [Option.map_some, Option.some.injEq, Prod.mk.injEq] at h1 h2
    obtain ⟨v', w', hrun, h3, h4, _, _⟩ := run_append_own_at (P := Try.prog) w base 30 30 47 i0 _ 3 24 Try.underlying30 hq h1.1 h1.2 h2 rfl (by decide) v n (sv L) hown x 1 1 (sv [p]) rfl hx (sv_one _) (by unfold maxLen; omega) (by omega) hbase
    obtain ⟨A, c, rfl⟩ := own_form h3
    exact ⟨A, c, w', hrun, by rw [sv_append]; exact h3, h4⟩
/-- What is left of a slice of spans from F on. -/
theorem drop_run (A : Option Addr) (n c F : Nat) (hF : F ≤ n) (hc : n ≤ c) : ∃ A' c', (∀ W : World, (Instr.slice 30 (.slice A n c) (some (.int .i64 (F : Int))) none none).run Try.prog W = .ok (.slice A' (n - F) c') W) ∧ n - F ≤ c' ∧ (F < n → A' = A.map (·.add (F * 3))) := by
  have h1 := info47
  cases hq : Try.prog.info? 47 with
  | none => rw [hq] at h1; cases h1
  | some i0 =>
    rw [hq] at h1
    simp only [Option.map_some, Option.some.injEq, Prod.mk.injEq] at h1
    have he : Try.prog.elem 30 = 47 := by kernel_rfl
    have hu : Try.prog.underlying 30 = some (.slice (Try.prog.elem 30)) := by rw [he]; exact Try.underlying30
    refine ⟨if c = F then A else A.map (·.add (F * 3)), c - F, fun W => ?_, by omega, fun hlt => by rw [if_neg (by omega)]⟩
    rw [run_slice_l (P := Try.prog) (w := W) (t := 30) (a := A) (len := n) (cap := c) (ht := hu) .i64 (F : Int) (by omega) (by omega)]
    simp [sizeOf, typeInfo, he, hq, h1.2, sliced]
theorem Spn.drop {w : World} {A : Option Addr} {n c F c' : Nat} {A' : Option Addr} {L : List (Nat × Nat)} (h : Spn w (.slice A n c) L) (hn : n = L.length) (hF : F ≤ n) (hc : n - F ≤ c') (hA : F < n → A' = A.map (·.add (F * 3))) : Spn w (.slice A' (n - F) c') (L.drop F) := by
  obtain ⟨A1, c1, e, _, hr⟩ := h
  simp only [Value.slice.injEq] at e
  obtain ⟨rfl, _, rfl⟩ := e
  refine ⟨A', c', by rw [List.length_drop, hn], by rw [List.length_drop]; omega, fun h0 => ?_⟩
  rw [List.length_drop] at h0
  obtain ⟨g, o, rfl, hg, hcell⟩ := hr (by omega)
  refine ⟨g, o + F * 3, by rw [hA (by omega)]; simp [add_plain], hg, fun j hj => ?_⟩
  rw [List.length_drop] at hj
  have := hcell (F + j) (by omega)
  rw [List.getElem_drop, show o + F * 3 + j * 3 = o + (F + j) * 3 by omega]
  exact this
/-- Blocks of other types stay where a memory is changed. -/
theorem Mem.keepTy {w w' : World} {base b d cap : Nat} {m : Mm} (h : Mem w base b d cap m) (hc : Chg (fun k => k = b ∨ k = d) w w') {k : Nat} {cs : Array Value} {t : TypeId} {f : Nat × Nat} (hk : w.heap[k]? = some (.cells cs t f)) (h1 : t ≠ 62) (h2 : t ≠ 5) : w'.heap[k]? = some (.cells cs t f) := by
  refine (hc.block k (Array.getElem?_eq_some_iff.1 hk).1 (fun hs => ?_)).trans hk
  obtain ⟨c, e1, _⟩ := h.blk
  obtain ⟨_, _, cur, e2, _⟩ := h.row
  rcases hs with rfl | rfl
  · rw [e1] at hk; injection hk with hk; injection hk with _ hk; exact h1 hk.symm
  · rw [e2] at hk; injection hk with hk; injection hk with _ hk; exact h2 hk.symm
theorem own_ty {w : World} {base e sz n g : Nat} {v : Value} {xs : List Value} (h : w.ownsRow base e sz v n xs) (hg : v.ownBlock = some g) : ∃ cur, w.heap[g]? = some (.cells cur e (0, 0)) := by
  rcases h.2 with ⟨rfl, _⟩ | ⟨g', cap, cur, rfl, _, hh, _⟩
  · cases hg
  · simp only [Value.ownBlock, Option.some.injEq] at hg
    subst hg
    exact ⟨cur, hh⟩
theorem own_same {w w' : World} {base e sz n : Nat} {v : Value} {xs : List Value} (h : w.ownsRow base e sz v n xs) (hk : ∀ g, v.ownBlock = some g → w'.heap[g]? = w.heap[g]?) : w'.ownsRow base e sz v n xs := by
  refine ⟨h.1, ?_⟩
  rcases h.2 with h0 | ⟨g, c2, cur, e0, h1, h2, h3⟩
  · exact .inl h0
  · exact .inr ⟨g, c2, cur, e0, h1, (hk g (by rw [e0]; rfl)).trans h2, h3⟩
/-- The state of MemoryLogs: a memory, the law's variables, its list of spans. -/
structure Ls (w : World) (b d q : Nat) (v : Value) (L : List (Nat × Nat)) (m : Mm) (W : World) : Prop where
  k : Kp w b d 4096 m W
  x4 : Bx1 W w.heap.size 4 (.bool false)
  x7 : Bx1 W q 30 v
  ro : W.ownsRow w.heap.size 47 3 v L.length (sv L)
  hq : w.heap.size ≤ q
section
variable {w W W' : World} {b d q : Nat} {v : Value} {L : List (Nat × Nat)} {m m' : Mm}
theorem Ls.later (h : Ls w b d q v L m W) (hb : Below W.heap.size W W') : Ls w b d q v L m W' :=
  ⟨h.k.later hb, h.x4.below hb, h.x7.below hb, own_same h.ro fun g hg => hb.block g (h.ro.lt g hg).2, h.hq⟩
theorem Ls.mv (h : Ls w b d q v L m W) (hm : Mem W' w.heap.size b d 4096 m') (hc : Chg (fun k => k = b ∨ k = d) W W') : Ls w b d q v L m' W' :=
  ⟨h.k.mv hm hc, h.k.1.keepTy hc h.x4 (by decide) (by decide), h.k.1.keepTy hc h.x7 (by decide) (by decide), own_same h.ro fun g hg => by
    obtain ⟨cur, hh⟩ := own_ty h.ro hg
    rw [h.k.1.keepTy hc hh (by decide) (by decide), hh], h.hq⟩
theorem ls_write (h : Ls w b d q v L m W) (hG : Gm m) (hB : m.B.length = 4096) (a : Nat) (ha : a < 4096) :
    Calls Try.prog 16 #[.pointer (some ⟨b, 0, none⟩), .int .u64 (a : Int), .slice (some ⟨W.heap.size, 0, none⟩) 1 1] (W.alloc (.cells #[.int .u8 1] 5)) fun e w' => e = .returned (.int .i64 0) ∧ Ls w b d q v L (m.ch a 1 [1]) w' := by
  have h2 := h.later (below_alloc W (.cells #[.int .u8 1] 5))
  have hw := Write_any h2.k.1 hG a (.slice (some ⟨W.heap.size, 0, none⟩) 1 1) [1] (by omega) (byt_lit W [1]) (fun _ b' hb' => by
    simp only [Value.ownBlock, Option.some.injEq] at hb'
    have := h.k.1.dlt
    show ¬ b' = d
    omega) (by decide)
  exact hw.mono fun e w' ⟨a1, a2, a3⟩ => ⟨by rw [a1]; congr 2; exact Mm.chk_of (n := 1) (by omega), h2.mv a2 a3⟩
theorem Ls.appended (h : Ls w b d q v L m W) {u : Value} {p : Nat × Nat} (hg : W.grownBy W' v.ownBlock) (ho : W'.ownsRow w.heap.size 47 3 u (L.length + 1) (sv (L ++ [p]))) : Ls w b d q u (L ++ [p]) m (W'.setCell ⟨q, 0, none⟩ u) := by
  have key : ∀ {k : Nat} {cs : Array Value} {t : TypeId} {f : Nat × Nat}, W.heap[k]? = some (.cells cs t f) → t ≠ 47 → W'.heap[k]? = some (.cells cs t f) := fun {k cs t f} hk ht =>
    (hg.block k (Array.getElem?_eq_some_iff.1 hk).1 (fun e => by
      obtain ⟨cur, hh⟩ := own_ty h.ro e.symm
      rw [hk] at hh; injection hh with hh; injection hh with _ hh; exact ht hh)).trans hk
  have hx7 : W'.heap[q]? = some (.cells #[v] 30 (0, 0)) := key h.x7 (by decide)
  have kq : ∀ {k : Nat} {cs : Array Value} {t : TypeId} {f : Nat × Nat}, W'.heap[k]? = some (.cells cs t f) → t ≠ 30 → (W'.setCell ⟨q, 0, none⟩ u).heap[k]? = some (.cells cs t f) := fun {k cs t f} hk ht =>
    (Below.heap_setCell W' _ _ _ (fun e => by
      have e : k = q := e
      subst e
      rw [hk] at hx7; injection hx7 with hh; injection hh with _ hh; exact ht hh)).trans hk
  obtain ⟨c, e1, _⟩ := h.k.1.blk
  obtain ⟨_, _, cur, e2, _⟩ := h.k.1.row
  have hbl : Below w.heap.size w W' := ⟨hg.os.trans h.k.2.os, hg.tape.trans h.k.2.tape, hg.output.trans h.k.2.output, Nat.le_trans h.k.2.size hg.size, fun k hk => (hg.block k (Nat.lt_of_lt_of_le hk h.k.2.size) (fun e => by
    have := (h.ro.lt k e.symm).1; omega)).trans (h.k.2.block k hk)⟩
  refine ⟨⟨h.k.1.keep fun k hk => ?_, hbl.setCell h.hq _⟩, kq (key h.x4 (by decide)) (by decide), heap_setCell_same W' q 0 _ 30 _ hx7, ?_, h.hq⟩
  · rcases hk with rfl | rfl
    · rw [kq (key e1 (by decide)) (by decide), e1]
    · rw [kq (key e2 (by decide)) (by decide), e2]
  · rw [List.length_append]
    exact own_same ho fun g hg2 => by
      obtain ⟨cur2, hh⟩ := own_ty ho hg2
      rw [kq hh (by decide), hh]
end
end Go.Proofs.Ytmnlkejhhdbhlaa
