/- The contract of put. Conditions stand in each theorem. -/
import Derived.Test.YtpojgjbgbbnojaaB
namespace Go.Proofs.Ytpojgjbgbbnojaa
open Go.RowKit
set_option linter.unusedVariables false
set_option maxHeartbeats 1000000
set_option maxRecDepth 100000
section
variable {w : World} {base b g cap : Nat} {l : List Blk}
/-- The pool has other blocks, and nothing else has changed. -/
def Mv (w : World) (base b g cap : Nat) (l' : List Blk) (w' : World) : Prop := Pl w' base b g cap l' ∧ Chg (Ft b g) w w'
theorem plCells_set (g cap : Nat) {k : Nat} (hk : k < l.length) (a s : Nat) (er : Int) (ha : l[k].st = a) (ha1 : 1 ≤ a) (ha4 : a ≤ 4) (hs1 : 1 ≤ s) (hs4 : s ≤ 4) (v : Int) (hv : v = cnt (l.set k ⟨er, s⟩) s) :
    ((plCells g cap l).setIfInBounds (1 + a) (.int .i64 (cnt l a - 1))).setIfInBounds (1 + s) (.int .i64 v) = plCells g cap (l.set k ⟨er, s⟩) := by
  have hX : ∀ j : Int, cnt (l.set k ⟨er, (s : Int)⟩) j = cnt l j - (if (a : Int) = j then 1 else 0) + (if (s : Int) = j then 1 else 0) := fun j => by rw [cnt_set l k hk, ha]
  subst hv
  unfold plCells
  simp only [hX, List.length_set]
  have h1 : a = 1 ∨ a = 2 ∨ a = 3 ∨ a = 4 := by omega
  have h2 : s = 1 ∨ s = 2 ∨ s = 3 ∨ s = 4 := by omega
  rcases h1 with rfl | rfl | rfl | rfl <;> rcases h2 with rfl | rfl | rfl | rfl <;> simp
theorem put_fin (h : Pl w base b g cap l) {k : Nat} (hk : k < l.length) (a s : Nat) (er : Int) (ha : l[k].st = a) (hs1 : 1 ≤ s) (hs4 : s ≤ 4) (he0 : 0 ≤ er) (he1 : er ≤ 1099511627776) (v : Int) (hv : v = cnt (l.set k ⟨er, s⟩) s) :
    Mv w base b g cap (l.set k ⟨er, s⟩) ((((w.setCell ⟨b, 1 + a, none⟩ (.int .i64 (cnt l a - 1))).setCell ⟨b, 1 + s, none⟩ (.int .i64 v)).setCell ⟨g, k * 2 + 1, none⟩ (.int .i64 s)).setCell ⟨g, k * 2, none⟩ (.int .i64 er)).drew.drew := by
  have hok := h.fit.at hk
  unfold Blk.ok at hok
  have hb2 := heap_setCell_same _ b (1 + s) _ 51 (.int .i64 v) (heap_setCell_same _ b (1 + a) _ 51 (.int .i64 (cnt l a - 1)) h.blk)
  rw [plCells_set g cap hk a s er ha (by omega) (by omega) hs1 hs4 v hv] at hb2
  have hc2 : Chg (Ft b g) w ((w.setCell ⟨b, 1 + a, none⟩ (.int .i64 (cnt l a - 1))).setCell ⟨b, 1 + s, none⟩ (.int .i64 v)) := ((Chg.refl _ w).setCell (.inl rfl) _).setCell (.inl rfl) _
  have hg2 : ((w.setCell ⟨b, 1 + a, none⟩ (.int .i64 (cnt l a - 1))).setCell ⟨b, 1 + s, none⟩ (.int .i64 v)).heap[g]? = w.heap[g]? := (Below.heap_setCell _ _ _ g (by exact h.ne)).trans (Below.heap_setCell _ _ _ g (by exact h.ne))
  obtain ⟨cur, r1, r2, r3, r4, r5⟩ := h.row
  generalize (w.setCell ⟨b, 1 + a, none⟩ (.int .i64 (cnt l a - 1))).setCell ⟨b, 1 + s, none⟩ (.int .i64 v) = W at *
  refine ⟨⟨?_, ?_, h.hb, h.hg, h.fit.set (by unfold Blk.ok; dsimp only; omega)⟩, ((hc2.setCell (.inr rfl) _).setCell (.inr rfl) _).drew.drew⟩
  · exact (Below.heap_setCell _ _ _ b (by exact h.ne.symm)).trans ((Below.heap_setCell _ _ _ b (by exact h.ne.symm)).trans hb2)
  · refine ⟨(cur.setIfInBounds (k * 2 + 1) (.int .i64 s)).setIfInBounds (k * 2) (.int .i64 er), heap_setCell_same _ g (k * 2) _ 69 _ (heap_setCell_same _ g (k * 2 + 1) _ 69 _ (hg2.trans r1)), by rw [List.length_set]; exact r2, r3, by simpa using r4, fun i hi => ?_⟩
    rw [List.length_set] at hi
    obtain ⟨e1, e2⟩ := r5 i hi
    by_cases e : i = k
    · subst e
      simp only [List.getElem_set_self]
      constructor
      · rw [Array.getElem?_setIfInBounds_self_of_lt (by simp; omega)]
      · rw [Array.getElem?_setIfInBounds_ne (by omega), Array.getElem?_setIfInBounds_self_of_lt (by omega)]
    · rw [List.getElem_set_ne (fun h => e h.symm)]
      constructor
      · rw [Array.getElem?_setIfInBounds_ne (by omega), Array.getElem?_setIfInBounds_ne (by omega), e1]
      · rw [Array.getElem?_setIfInBounds_ne (by omega), Array.getElem?_setIfInBounds_ne (by omega), e2]
theorem put_any (h : Pl w base b g cap l) {k : Nat} (hk : k < l.length) (s : Nat) (er : Int) (hs1 : 1 ≤ s) (hs4 : s ≤ 4) (he0 : 0 ≤ er) (he1 : er ≤ 1099511627776) :
    Calls Try.prog 43 #[.pointer (some ⟨b, 0, none⟩), .int .i64 (k : Int), .int .i64 (s : Int), .int .i64 er] w fun e w' => (∃ v, e = .returned v) ∧ Mv w base b g cap (l.set k ⟨er, s⟩) w' := by
  have H := Lib.hid h
  have k0 := h.c0
  have hok := h.fit.at hk
  obtain ⟨g0, g1⟩ := h.row.at hk
  have hgf := h.row.free
  have hbf := h.free
  have hne := h.ne
  obtain ⟨a, ha⟩ : ∃ a : Nat, l[k].st = a := ⟨l[k].st.toNat, by have := hok.2.2.1; omega⟩
  have ha4 : a ≤ 4 := by have := hok.2.2.2; omega
  have ha5 : a < 5 := by omega
  have hs5 : s < 5 := by omega
  have ka := h.cs (s := a) ha4
  have ks := h.cs (s := s) hs4
  have hc0 := cnt_nonneg l a
  have hc1 := cnt_le l a
  have hc2 := cnt_nonneg l s
  have hc3 := cnt_le l s
  have hln := h.fit.len
  have hc1' : cnt l a ≤ 4096 := by omega
  have hc3' : cnt l s ≤ 4096 := by omega
  rw [ha] at g1
  have HA := Lib.hid ha
  clear ha hok h hc1 hc3
  by_cases e : s = a
  · subst e
    go_enter Try.func43, Try.ntmps43
    go_wp2
    go_region
    go_wp2
    go_region
    go_wp2
    go_end0
    exact ⟨⟨_, rfl⟩, put_fin H.out hk s s er HA.out hs1 hs4 he0 he1 _ (by rw [cnt_set l k hk, HA.out]; simp)⟩
  · go_enter Try.func43, Try.ntmps43
    go_wp2
    go_region
    go_wp2
    go_region
    go_wp2
    go_end0
    exact ⟨⟨_, rfl⟩, put_fin H.out hk a s er HA.out hs1 hs4 he0 he1 _ (by rw [cnt_set l k hk, HA.out, if_neg (by omega)]; simp)⟩
end
end Go.Proofs.Ytpojgjbgbbnojaa
