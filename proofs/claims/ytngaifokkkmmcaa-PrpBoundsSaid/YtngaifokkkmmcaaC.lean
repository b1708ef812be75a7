/- The contracts of add, change, Write, Fill. Conditions stand in each theorem. -/
import Derived.Test.YtngaifokkkmmcaaB
import Derived.Deep.RegionWith
namespace Go.Proofs.Ytngaifokkkmmcaa
open Go.RowKit
set_option linter.unusedVariables false
set_option maxHeartbeats 1000000
set_option maxRecDepth 100000
/-- A write that is logged. -/
def Mm.log (m : Mm) (a n : Nat) : Mm := if n = 0 then m else { m with L := m.L ++ [(a, n)] }
def putRing (c : Array Value) (k a n : Nat) : Array Value := (((c.setIfInBounds (k % 256 * 3) (.int .u64 (a : Int))).setIfInBounds (k % 256 * 3 + 1) (.int .i64 (n : Int))).setIfInBounds (k % 256 * 3 + 2) (.bool false)).setIfInBounds 768 (.int .i64 ((k : Int) + 1))
theorem putRing_get {c : Array Value} {k a n : Nat} (hc : c.size = 770) (i : Nat) : (putRing c k a n)[i]? = if i = 768 then some (.int .i64 ((k : Int) + 1)) else if i = k % 256 * 3 + 2 then some (.bool false) else if i = k % 256 * 3 + 1 then some (.int .i64 (n : Int)) else if i = k % 256 * 3 then some (.int .u64 (a : Int)) else c[i]? := by
  have hk : k % 256 < 256 := Nat.mod_lt _ (by decide)
  unfold putRing
  simp only [Array.getElem?_setIfInBounds, Array.size_setIfInBounds, hc]
  by_cases h1 : i = 768
  · subst h1; simp
  · rw [if_neg (fun e => h1 e.symm), if_neg h1]
    by_cases h2 : i = k % 256 * 3 + 2
    · subst h2; rw [if_pos rfl, if_pos rfl, if_pos (by omega)]
    · rw [if_neg (fun e => h2 e.symm), if_neg h2]
      by_cases h3 : i = k % 256 * 3 + 1
      · subst h3; rw [if_pos rfl, if_pos rfl, if_pos (by omega)]
      · rw [if_neg (fun e => h3 e.symm), if_neg h3]
        by_cases h4 : i = k % 256 * 3
        · subst h4; rw [if_pos rfl, if_pos rfl, if_pos (by omega)]
        · rw [if_neg (fun e => h4 e.symm), if_neg h4]
theorem mem_set {c : Array Value} {i : Nat} {v u : Value} (h : u ∈ (c.setIfInBounds i v).toList) : u ∈ c.toList ∨ u = v := by
  rw [Array.toList_setIfInBounds] at h
  exact List.mem_or_eq_of_mem_set h
theorem Lg.put {c : Array Value} {L : List (Nat × Nat)} (h : Lg c L) (hc : c.size = 770) (a n : Nat) : Lg (putRing c L.length a n) (L ++ [(a, n)]) := by
  have hk : L.length % 256 < 256 := Nat.mod_lt _ (by decide)
  refine ⟨?_, ?_, ?_⟩
  · rw [putRing_get hc, if_pos rfl]; simp
  · intro u hu
    unfold putRing at hu
    rcases mem_set hu with hu | rfl
    · rcases mem_set hu with hu | rfl
      · rcases mem_set hu with hu | rfl
        · rcases mem_set hu with hu | rfl
          · exact h.one u hu
          · rfl
        · rfl
      · rfl
    · rfl
  · intro i hi hw
    rw [List.length_append] at hi hw
    simp only [List.length_cons, List.length_nil] at hi hw
    have hi2 : i % 256 < 256 := Nat.mod_lt _ (by decide)
    rcases Nat.lt_or_ge i L.length with h1 | h1
    · have hne : i % 256 ≠ L.length % 256 := by omega
      rw [List.getElem_append_left h1, putRing_get hc, putRing_get hc, putRing_get hc]
      repeat rw [if_neg (by omega)]
      exact h.ring i h1 (by omega)
    · obtain rfl : i = L.length := by omega
      have e : (L ++ [(a, n)])[L.length]'(by simp) = (a, n) := by simp
      rw [e, putRing_get hc, putRing_get hc, putRing_get hc]
      refine ⟨?_, ?_, ?_⟩
      · rw [if_neg (by omega), if_neg (by omega), if_neg (by omega), if_pos rfl]
      · rw [if_neg (by omega), if_neg (by omega), if_pos rfl]
      · rw [if_neg (by omega), if_pos rfl]
section
variable {w : World} {base b d cap : Nat} {m : Mm}
theorem Mem.cellSome (h : Mem w base b d cap m) {k : Nat} (hk : k < 770) : ∃ v, w.cell? ⟨b, k, none⟩ = some v := by
  obtain ⟨c, h1, h2, _⟩ := h.blk
  exact ⟨c[k]'(by omega), by rw [cell_of_row w b k c 56 (0, 0) h1, Array.getElem?_eq_getElem (by omega)]⟩
theorem add0 (h : Mem w base b d cap m) (a : Nat) : Calls Try.prog 58 #[.pointer (some ⟨b, 0, none⟩), .agg #[.int .u64 (a : Int), .int .i64 0, .bool false]] w fun e w' => (∃ v, e = .returned v) ∧ Below w.heap.size w w' := by
  clear h
  go_enter Try.func58, Try.ntmps58
  go_wp2
  refine bodyPost_ret (results_none rfl _ _ _) rfl ?_
  exact ⟨⟨_, rfl⟩, below_alloc _ _⟩
theorem add1 (h : Mem w base b d cap m) (a n : Nat) (h0 : 0 < n) (hn : n ≤ 4194304) (hm : m.L.length ≤ 1000000) : Calls Try.prog 58 #[.pointer (some ⟨b, 0, none⟩), .agg #[.int .u64 (a : Int), .int .i64 (n : Int), .bool false]] w fun e w' => (∃ v, e = .returned v) ∧ Mem w' base b d cap { m with L := m.L ++ [(a, n)] } ∧ Chg (· = b) w w' := by
  have hr : m.L.length % 256 < 256 := Nat.mod_lt _ (by decide)
  obtain ⟨r, hre⟩ : ∃ r, r = m.L.length % 256 := ⟨_, rfl⟩
  rw [← hre] at hr
  obtain ⟨v0, c0⟩ := h.cellSome (k := r * 3) (by omega)
  obtain ⟨v1, c1⟩ := h.cellSome (k := r * 3 + 1) (by omega)
  obtain ⟨v2, c2⟩ := h.cellSome (k := r * 3 + 2) (by omega)
  have cn := h.ncell
  have hlt := h.lt
  have f0 := h.free
  have hne : ((n : Int) == 0) = false := by simp; omega
  have H := Lib.hid h
  have HRE := Lib.hid hre
  have hmod : ((m.L.length : Nat) : Int).tmod 256 = (r : Int) := by rw [hre, Int.tmod_eq_emod_of_nonneg (by omega)]; omega
  have hri : (r : Int) < 256 := by omega
  have hmi : ((m.L.length : Nat) : Int) ≤ 1000000 := by omega
  clear h hre
  go_enter Try.func58, Try.ntmps58
  go_wp2
  go_region
  obtain ⟨W, hW⟩ : ∃ W, W = ((((w.setCell ⟨b, r * 3, none⟩ (.int .u64 (a : Int))).setCell ⟨b, r * 3 + 1, none⟩ (.int .i64 (n : Int))).setCell ⟨b, r * 3 + 2, none⟩ (.bool false)).alloc (.cells #[.int .u64 (a : Int), .int .i64 (n : Int), .bool false] 42)).drew := ⟨_, rfl⟩
  rw [← hW]
  obtain ⟨c, hc, hs, hl, hd⟩ := H.out.blk
  have hWb : W.heap[b]? = some (.cells (((c.setIfInBounds (r * 3) (.int .u64 (a : Int))).setIfInBounds (r * 3 + 1) (.int .i64 (n : Int))).setIfInBounds (r * 3 + 2) (.bool false)) 56 (0, 0)) := by
    rw [hW]
    refine (Below.heap_alloc _ _ _ (by simpa using hlt)).trans ?_
    exact heap_setCell_same _ b _ _ 56 _ (heap_setCell_same _ b _ _ 56 _ (heap_setCell_same _ b _ _ 56 _ hc))
  have hWc : Chg (· = b) w W := by
    rw [hW]
    exact ((((((Chg.refl (· = b) w).setCell (p := ⟨b, r * 3, none⟩) rfl _).setCell (p := ⟨b, r * 3 + 1, none⟩) rfl _).setCell (p := ⟨b, r * 3 + 2, none⟩) rfl _).alloc _).drew)
  have cW : W.cell? ⟨b, 768, none⟩ = some (.int .i64 ((m.L.length : Nat) : Int)) := by
    rw [cell_of_row W b 768 _ 56 (0, 0) hWb]
    rw [Array.getElem?_setIfInBounds, if_neg (by omega), Array.getElem?_setIfInBounds, if_neg (by omega), Array.getElem?_setIfInBounds, if_neg (by omega), hl.next]
  have fW : W.frozen? ⟨b, 768, none⟩ = false := frozen_of_row W b 768 _ 56 hWb
  have HWB := Lib.hid hWb
  have HWC := Lib.hid hWc
  have HL := Lib.hid hl
  have HD := Lib.hid hd
  have HS := Lib.hid hs
  clear hW hWb hWc hl hd hc hs c0 c1 c2 cn f0 hlt
  go_wp2
  go_end0
  have hf : (W.setCell ⟨b, 768, none⟩ (.int .i64 ((m.L.length : Int) + 1))).heap[b]? = some (.cells (putRing c m.L.length a n) 56 (0, 0)) := by
    have := heap_setCell_same W b 768 _ 56 (.int .i64 ((m.L.length : Int) + 1)) HWB.out
    rw [this]
    unfold putRing
    rw [← HRE.out]
  refine ⟨⟨_, rfl⟩, ⟨⟨_, hf, by unfold putRing; simp [HS.out], HL.out.put HS.out a n, ?_⟩, ?_, H.out.hb⟩, HWC.out.setCell rfl _⟩
  · rw [putRing_get HS.out, if_neg (by decide), if_neg (by omega), if_neg (by omega), if_neg (by omega)]
    exact HD.out
  · have := HWC.out.setCell (p := ⟨b, 768, none⟩) rfl (.int .i64 ((m.L.length : Int) + 1))
    obtain ⟨_, _, cur, hd1, _⟩ := H.out.row
    refine ⟨H.out.dat.1, ?_⟩
    rcases H.out.dat.2 with ⟨e, _⟩ | ⟨g, c2, cur, e, h1, h2, h3⟩
    · cases e
    · have eg : g = d := by simp only [Value.slice.injEq, Option.some.injEq, Addr.mk.injEq] at e; exact e.1.1.symm
      exact .inr ⟨g, c2, cur, e, h1, (this.block g (Array.getElem?_eq_some_iff.1 h2).1 (by rw [eg]; exact H.out.ne.symm)).trans h2, h3⟩
/-- The contract of add. -/
theorem add_any (h : Mem w base b d cap m) (a n : Nat) (hn : n ≤ 4194304) (hm : m.L.length ≤ 1000000) : Calls Try.prog 58 #[.pointer (some ⟨b, 0, none⟩), .agg #[.int .u64 (a : Int), .int .i64 (n : Int), .bool false]] w fun e w' => (∃ v, e = .returned v) ∧ Mem w' base b d cap (m.log a n) ∧ Chg (· = b) w w' := by
  unfold Mm.log
  rcases Nat.eq_zero_or_pos n with rfl | h0
  · rw [if_pos rfl]
    exact (add0 h a).mono fun e w' ⟨h1, h2⟩ => ⟨h1, h.below h2, Chg.of_below h2⟩
  · rw [if_neg (by omega)]
    exact add1 h a n h0 hn hm
end
end Go.Proofs.Ytngaifokkkmmcaa
