/- WireWrites: any call on a writer; what one round leaves of the two rows. Conditions stand in each theorem. -/
import Derived.Test.YtmolpnhgmdpdmaaDoorWc
namespace Go.Proofs.YtmolpnhgmdpdmaaDoor
open Go.RowKit
set_option linter.unusedVariables false
set_option maxHeartbeats 1000000

theorem putL_len (V N : Int) : (putL V N).length ≤ 8 := by
  unfold putL
  split
  · simp
  · split
    · simp
    · rw [putB_length]; omega
theorem allL_len (fs : List (Int × Int)) (h : fs.length ≤ 20) : (allL fs).length ≤ 160 := by
  unfold allL
  by_cases he : allE fs = 0
  · rw [if_pos he]
    have hk : chk 160 fs = 0 := (chk_allE fs 160 (by omega)).trans he
    have := chk_len fs 160 (by decide) hk
    omega
  · rw [if_neg he]; simp
theorem padL_len (B : List UInt8) (N : Int) (h : N ≤ 1000) : (padL B N).length ≤ 1000 := by
  unfold padL
  split
  · simp
  · split
    · simp
    · rw [List.length_append, List.length_replicate]; omega
theorem byt_block {w : World} {v : Value} {l : List UInt8} (h : Byt w v l) (h0 : 0 < l.length) : ∀ b, v.ownBlock = some b → b < w.heap.size := by
  obtain ⟨A, c, rfl, -, hr⟩ := h
  obtain ⟨b, o, rfl, hb, -⟩ := hr h0
  intro b' e
  have : b = b' := by simpa [Value.ownBlock] using e
  omega
theorem add_any (g : Nat) (v : Value) (l : List UInt8) (a : ActD) (w w0 : World) (h : Wr w g v l) (hok : a.ok w) (hok0 : a.ok w0) (hf : a.few) (hg : w0.heap.size ≤ g) (hv : ∀ b, v.ownBlock = some b → w0.heap.size ≤ b) (hl : l.length + 1000 ≤ 1048576) :
    ∃ m : List UInt8, m.length ≤ 1000 ∧ Calls Tryd.prog 26 #[.pointer (some ⟨g, 0, none⟩), .agg #[.int .i64 a.K, .int .u64 a.V, .int .i64 a.N, a.fv, a.bv]] w (APost w g v l m) := by
  obtain ⟨K, V, N, fv, bv, fs, B⟩ := a
  obtain ⟨hV, hV2, hF, hfs, hB, -, -⟩ := hok
  obtain ⟨-, -, hF0, -, hB0, -, -⟩ := hok0
  obtain ⟨f1, f2, f3⟩ := hf
  dsimp only at *
  by_cases k0 : K = 0
  · subst k0
    exact ⟨putL V N, by have := putL_len V N; omega, add_0 g v l V N fv bv w h hV hV2 (by omega)⟩
  by_cases k1 : K = 1
  · subst k1
    exact ⟨allL fs, by have := allL_len fs f1; omega, add_1 g v l V N fv bv w h fs w0 hF hF0 hg hv hfs f1 (by omega)⟩
  by_cases k2 : K = 2
  · subst k2
    exact ⟨B, by omega, add_2 g v l V N fv bv w h B hB (fun h0 b hb => by have := byt_block hB0 h0 b hb; exact ⟨by omega, fun e => by have := hv b e; omega⟩) (by omega)⟩
  by_cases k3 : K = 3
  · subst k3
    exact ⟨padL B N, padL_len B N f3, add_3 g v l V N fv bv w h B hB f2 f3 hl⟩
  by_cases k4 : K = 4
  · subst k4
    by_cases hn : N < 0
    · exact ⟨[], by simp, add_4n g v l V N fv bv w h hn⟩
    · obtain ⟨k, rfl⟩ := Int.eq_ofNat_of_zero_le (show 0 ≤ N by omega)
      exact ⟨List.replicate k 0, by simp; omega, add_4 g v l V _ fv bv w h k rfl (by omega) (by omega)⟩
  · exact ⟨[], by simp, add_other g v l V N fv bv w K h k0 k1 k2 k3 k4⟩

theorem own_chg {w w' : World} {S : Nat → Prop} {base n : Nat} {e : TypeId} {v : Value} {xs : List Value} (h : w.ownsRow base e 1 v n xs) (hc : Chg S w w') (hS : ∀ b, v.ownBlock = some b → ¬ S b) : w'.ownsRow base e 1 v n xs := by
  refine ⟨h.1, ?_⟩
  rcases h.2 with h0 | ⟨g, cap, cur, rfl, hb, hg, hr⟩
  · exact .inl h0
  · exact .inr ⟨g, cap, cur, rfl, hb, (hc.block g (Array.getElem?_eq_some_iff.1 hg).1 (hS g rfl)).trans hg, hr⟩
theorem own_not {w : World} {base n g : Nat} {v : Value} {xs : List Value} {c : Array Value} (h : w.ownsRow base 5 1 v n xs) (hg : w.heap[g]? = some (.cells c 52 (0, 0))) : v.ownBlock ≠ some g := by
  rcases h.2 with ⟨rfl, _⟩ | ⟨g', cap, cur, rfl, _, hh, _⟩
  · simp [Value.ownBlock]
  · intro he
    have : g' = g := by simpa [Value.ownBlock] using he
    subst this
    rw [hg] at hh
    injection hh with hh
    injection hh with _ ht
    exact absurd ht (by decide)
theorem Wr.chg {w w' : World} {S : Nat → Prop} {g : Nat} {v : Value} {l : List UInt8} (h : Wr w g v l) (hc : Chg S w w') (hg : ¬ S g) (hv : ∀ b, v.ownBlock = some b → ¬ S b) : Wr w' g v l := ⟨(hc.block g h.lt hg).trans h.blk, own_chg h.own hc hv, h.le⟩
def Apart (u v : Value) : Prop := ∀ b, u.ownBlock = some b → v.ownBlock ≠ some b
/-- The state of the law between two rounds. -/
structure WS (w wr : World) (g : Nat) (v u : Value) (l : List UInt8) : Prop where
  is : Wr wr g v l
  own : wr.ownsRow w.heap.size 5 1 u l.length (bv l)
  apart : Apart u v
  below : Below w.heap.size w wr
  ge : w.heap.size ≤ g
  vge : ∀ b, v.ownBlock = some b → w.heap.size ≤ b
theorem ws_add {w wr w1 : World} {g : Nat} {v u v1 : Value} {l m : List UInt8} (h : WS w wr g v u l) (h1 : Wr w1 g v1 (l ++ m)) (hc : Chg (fun b => b = g ∨ v.ownBlock = some b) wr w1) (hat : v1.ownBlock = v.ownBlock ∨ ∃ b, v1.ownBlock = some b ∧ wr.heap.size ≤ b) :
    w1.ownsRow w.heap.size 5 1 u l.length (bv l) ∧ Below w.heap.size w w1 ∧ (∀ b, v1.ownBlock = some b → w.heap.size ≤ b) ∧ Apart u v1 := by
  refine ⟨own_chg h.own hc (fun b hb hS => ?_), h.below.trans (hc.below h.below.size (fun i hi => ?_)), fun b hb => ?_, fun b hb e => ?_⟩
  · rcases hS with rfl | hS
    · exact own_not h.own h.is.blk hb
    · exact h.apart b hb hS
  · rcases hi with rfl | hi
    · exact h.ge
    · exact h.vge i hi
  · rcases hat with e | ⟨b', e, hb'⟩
    · rw [e] at hb; exact h.vge b hb
    · rw [e] at hb; injection hb with hb; subst hb; exact Nat.le_trans h.below.size hb'
  · rcases hat with e' | ⟨b', e', hb'⟩
    · rw [e'] at e; exact h.apart b hb e
    · rw [e'] at e; injection e with e; subst e; have := (h.own.lt _ hb).2; omega
theorem ws_app {w wr w1 w2 : World} {g : Nat} {v u v1 u2 : Value} {l m : List UInt8} (h : WS w wr g v u l) (h1 : Wr w1 g v1 (l ++ m)) (hc : Chg (fun b => b = g ∨ v.ownBlock = some b) wr w1) (hat : v1.ownBlock = v.ownBlock ∨ ∃ b, v1.ownBlock = some b ∧ wr.heap.size ≤ b)
    (h2 : w2.ownsRow w.heap.size 5 1 u2 (l.length + m.length) (bv (l ++ m))) (h3 : w1.grownBy w2 u.ownBlock) (hat2 : u2.ownBlock = u.ownBlock ∨ u2.ownBlock = some w1.heap.size) : WS w w2 g v1 u2 (l ++ m) := by
  obtain ⟨o1, b1, g1, a1⟩ := ws_add h h1 hc hat
  refine ⟨h1.chg (Chg.of_grown h3) (own_not o1 h1.blk) (fun b hb e => a1 b e hb), by rw [List.length_append]; exact h2, fun b hb e => ?_, b1.grown h3 b1.size (own_row_ge o1), h.ge, g1⟩
  rcases hat2 with e2 | e2
  · rw [e2] at hb; exact a1 b hb e
  · rw [e2] at hb; injection hb with hb; subst hb; have := own_lt h1 _ e; omega
theorem ws_below {w wr w' : World} {g : Nat} {v u : Value} {l : List UInt8} (h : WS w wr g v u l) (hb : Below wr.heap.size wr w') : WS w w' g v u l := ⟨h.is.below hb, own_below h.own hb, h.apart, h.below.trans (hb.mono h.below.size), h.ge, h.vge⟩
theorem ws_new (w : World) : WS w (w.alloc (.cells #[.slice none 0 0] 52)) w.heap.size (.slice none 0 0) (.slice none 0 0) [] :=
  ⟨wr_new w, World.ownsRow_nil _ _ _ _, fun b hb => by simp [Value.ownBlock] at hb, alloc_below w _, Nat.le_refl _, fun b hb => by simp [Value.ownBlock] at hb⟩
theorem ActD.ok_below {w w' : World} {a : ActD} (h : a.ok w) (hb : Below w.heap.size w w') : a.ok w' := by
  obtain ⟨h1, h2, h3, h4, h5, h6⟩ := h
  exact ⟨h1, h2, h3.below hb, h4, h5.below hb, h6⟩
/-- The bytes that are turned over: a row of the call's own. -/
theorem got_form {w : World} {base : Nat} {r : Value} {l : List UInt8} (h : w.ownsRow base 5 1 r l.length (bv l)) :
    ∃ A c, r = .slice A l.length c ∧ (0 < l.length → ∃ b, A = some ⟨b, 0, none⟩ ∧ base ≤ b ∧ b < w.heap.size ∧ ∀ j, j < l.length → (∃ x, w.cell? ⟨b, j, none⟩ = some (.int .u8 x)) ∧ w.frozen? ⟨b, j, none⟩ = false) := by
  rcases h.2 with ⟨rfl, h0⟩ | ⟨g, cap, cur, rfl, hb, hg, hnc, _, _, _⟩
  · rw [h0]
    exact ⟨_, _, rfl, fun hp => absurd hp (by omega)⟩
  · refine ⟨_, _, rfl, fun hp => ⟨g, rfl, hb, (Array.getElem?_eq_some_iff.1 hg).1, fun j hj => ⟨⟨l[j].toNat, ?_⟩, frozen_of_row w g j cur 5 hg⟩⟩⟩
    rw [h.cellAt j (by omega)]
    simp [bv, hj]
end Go.Proofs.YtmolpnhgmdpdmaaDoor
