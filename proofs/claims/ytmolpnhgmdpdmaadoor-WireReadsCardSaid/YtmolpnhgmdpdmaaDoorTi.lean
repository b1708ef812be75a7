/- The contracts of the Writer's methods Len, Bytes, AddBytes. Condition: the pointer leads to a writer. -/
import Derived.Test.YtmolpnhgmdpdmaaDoorTh
namespace Go.Proofs.YtmolpnhgmdpdmaaDoor
open Go.RowKit
set_option linter.unusedVariables false
set_option maxHeartbeats 400000

/-- At most the blocks of S, and new ones, have changed. -/
structure Chg (S : Nat → Prop) (w w' : World) : Prop where
  os : w'.os = w.os
  tape : w'.tape = w.tape
  output : w'.output = w.output
  size : w.heap.size ≤ w'.heap.size
  block : ∀ k, k < w.heap.size → ¬ S k → w'.heap[k]? = w.heap[k]?
theorem Chg.refl (S : Nat → Prop) (w : World) : Chg S w w := ⟨rfl, rfl, rfl, Nat.le_refl _, fun _ _ _ => rfl⟩
theorem Chg.trans {S T : Nat → Prop} {a b c : World} (h : Chg S a b) (k : Chg T b c) (hT : ∀ i, T i → i < a.heap.size → S i) : Chg S a c :=
  ⟨k.os.trans h.os, k.tape.trans h.tape, k.output.trans h.output, Nat.le_trans h.size k.size, fun i hi hS => (k.block i (Nat.lt_of_lt_of_le hi h.size) (fun hTi => hS (hT i hTi hi))).trans (h.block i hi hS)⟩
theorem Chg.of_below {S : Nat → Prop} {w w' : World} (h : Below w.heap.size w w') : Chg S w w' := ⟨h.os, h.tape, h.output, h.size, fun k hk _ => h.block k hk⟩
theorem Chg.of_grown {w w' : World} {row : Option Nat} (h : w.grownBy w' row) : Chg (fun b => row = some b) w w' := ⟨h.os, h.tape, h.output, h.size, fun k hk hn => h.block k hk (fun e => hn e.symm)⟩
theorem Chg.below {S : Nat → Prop} {B : Nat} {w w' : World} (h : Chg S w w') (hB : B ≤ w.heap.size) (hS : ∀ i, S i → B ≤ i) : Below B w w' :=
  ⟨h.os, h.tape, h.output, h.size, fun k hk => h.block k (by omega) (fun hk' => by have := hS k hk'; omega)⟩
theorem Chg.setCell {S : Nat → Prop} {a w : World} (h : Chg S a w) {p : Addr} (hp : S p.block) (u : Value) : Chg S a (w.setCell p u) :=
  ⟨h.os, h.tape, h.output, by simpa [World.setCell] using h.size, fun k hk hn => (Below.heap_setCell w p u k (by rintro rfl; exact hn hp)).trans (h.block k hk hn)⟩
theorem Chg.mono {S T : Nat → Prop} {w w' : World} (h : Chg S w w') (hST : ∀ i, S i → T i) : Chg T w w' := ⟨h.os, h.tape, h.output, h.size, fun k hk hn => h.block k hk (fun hs => hn (hST k hs))⟩

/-- The writer at block g holds the slice v, which owns the bytes l. -/
structure Wr (w : World) (g : Nat) (v : Value) (l : List UInt8) : Prop where
  blk : w.heap[g]? = some (.cells #[v] 52 (0, 0))
  own : w.ownsRow 0 5 1 v l.length (bv l)
  le : l.length ≤ 1048576
theorem Wr.lt {w : World} {g : Nat} {v : Value} {l : List UInt8} (h : Wr w g v l) : g < w.heap.size := (Array.getElem?_eq_some_iff.1 h.blk).1
theorem Wr.cell {w : World} {g : Nat} {v : Value} {l : List UInt8} (h : Wr w g v l) : w.cell? ⟨g, 0, none⟩ = some v := by rw [cell_of_row w g 0 #[v] 52 (0, 0) h.blk]; rfl
theorem Wr.free {w : World} {g : Nat} {v : Value} {l : List UInt8} (h : Wr w g v l) : w.frozen? ⟨g, 0, none⟩ = false := frozen_of_row w g 0 #[v] 52 h.blk
theorem Wr.form {w : World} {g : Nat} {v : Value} {l : List UInt8} (h : Wr w g v l) : ∃ A c, v = .slice A l.length c := by
  obtain ⟨A, c, h, _⟩ := Byt.of_own h.own
  exact ⟨A, c, h⟩
/-- The rows of bytes are not the block of the writer. -/
theorem Wr.ne {w : World} {g : Nat} {v : Value} {l : List UInt8} (h : Wr w g v l) : v.ownBlock ≠ some g := by
  rcases h.own.2 with ⟨rfl, _⟩ | ⟨g', cap, cur, rfl, _, hh, _⟩
  · simp [Value.ownBlock]
  · intro he
    have : g' = g := by simpa [Value.ownBlock] using he
    subst this
    rw [h.blk] at hh
    injection hh with hh
    injection hh with _ ht
    exact absurd ht (by decide)
/-- What the writer's methods leave. -/
def WPost (w : World) (g : Nat) (v : Value) (l : List UInt8) (k : Int) (e : Ending) (w' : World) : Prop :=
  e = .returned (.int .i64 k) ∧ ∃ v', Wr w' g v' l ∧ Chg (fun b => b = g ∨ v.ownBlock = some b) w w' ∧ (v'.ownBlock = v.ownBlock ∨ ∃ b, v'.ownBlock = some b ∧ w.heap.size ≤ b)
theorem WPost.same {w : World} {g : Nat} {v : Value} {l : List UInt8} (h : Wr w g v l) (k : Int) : WPost w g v l k (.returned (.int .i64 k)) w := ⟨rfl, v, h, Chg.refl _ _, .inl rfl⟩

theorem room_any (g : Nat) (v : Value) (l : List UInt8) (w : World) (h : Wr w g v l) : Calls Tryd.prog 61 #[.pointer (some ⟨g, 0, none⟩)] w fun e w' => e = .returned (.int .i64 (1048576 - l.length)) ∧ w = w' := by
  have hc := h.cell
  have hl := h.le
  obtain ⟨A, c, rfl⟩ := h.form
  clear h
  go_enter Tryd.func61, Tryd.ntmps61
  go_wp2
  go_ret
  exact ⟨rfl, rfl⟩
theorem Len_any (g : Nat) (v : Value) (l : List UInt8) (w : World) (h : Wr w g v l) : Calls Tryd.prog 28 #[.pointer (some ⟨g, 0, none⟩)] w fun e w' => e = .returned (.int .i64 l.length) ∧ w = w' := by
  have hc := h.cell
  have hl := h.le
  obtain ⟨A, c, rfl⟩ := h.form
  clear h
  go_enter Tryd.func28, Tryd.ntmps28
  go_wp2
  go_ret
  exact ⟨rfl, rfl⟩
theorem Bytes_any (g : Nat) (v : Value) (l : List UInt8) (w : World) (h : Wr w g v l) :
    Calls Tryd.prog 27 #[.pointer (some ⟨g, 0, none⟩)] w fun e w' => (∃ v', e = .returned v' ∧ w'.ownsRow w.heap.size 5 1 v' l.length (bv l)) ∧ Below w.heap.size w w' := by
  have hc := h.cell
  have hb := Byt.of_own h.own
  have Hl := Lib.hid h.le
  clear h
  go_enter Tryd.func27, Tryd.ntmps27
  go_wp2_with fail
  refine (Clone_any v l _ hb (by have := Hl.out; omega)).mono ?_
  rintro e w' ⟨⟨v', rfl, h1⟩, h2⟩
  have H1 := Lib.hid h1; have H2 := Lib.hid h2; clear h1 h2
  go_wp2
  go_ret
  exact ⟨⟨v', rfl, H1.out⟩, H2.out⟩
/-- The writer's field set to what an append left. -/
theorem wr_store {w w1 : World} {g : Nat} {v v1 : Value} {l m : List UInt8} (h : Wr w g v l) (hg : w.grownBy w1 v.ownBlock) (ho : w1.ownsRow 0 5 1 v1 m.length (bv m)) (hm : m.length ≤ 1048576) (hat : v1.ownBlock = v.ownBlock ∨ v1.ownBlock = some w.heap.size) :
    WPost w g v m 0 (.returned (.int .i64 0)) (w1.setCell ⟨g, 0, none⟩ v1) := by
  have hb1 : w1.heap[g]? = some (.cells #[v] 52 (0, 0)) := (hg.block g h.lt (fun e => h.ne e.symm)).trans h.blk
  have hne : v1.ownBlock ≠ some g := by
    rcases hat with e | e <;> rw [e]
    · exact h.ne
    · intro e; injection e with e; have := h.lt; omega
  refine ⟨rfl, v1, ⟨?_, ?_, hm⟩, ?_, ?_⟩
  · simp [World.setCell, Array.getElem?_modify, hb1]
  · refine ho.kept (row := some g) ⟨rfl, rfl, rfl, by simp [World.setCell], fun k _ hk => Below.heap_setCell w1 ⟨g, 0, none⟩ v1 k (fun e => hk (by rw [e]))⟩ (.inr hne)
  · refine Chg.setCell ?_ (.inl rfl) _
    exact (Chg.of_grown hg).mono fun i hi => .inr hi
  · rcases hat with e | e
    · exact .inl e
    · exact .inr ⟨_, e, Nat.le_refl _⟩
theorem Wr.after {w w1 : World} {g : Nat} {v : Value} {l : List UInt8} (h : Wr w g v l) (h3 : w.grownBy w1 v.ownBlock) : w1.cell? ⟨g, 0, none⟩ = some v ∧ w1.frozen? ⟨g, 0, none⟩ = false := by
  have hb1 : w1.heap[g]? = some (.cells #[v] 52 (0, 0)) := (h3.block g h.lt (fun e => h.ne e.symm)).trans h.blk
  exact ⟨by rw [cell_of_row w1 g 0 #[v] 52 (0, 0) hb1]; rfl, frozen_of_row w1 g 0 #[v] 52 hb1⟩
set_option maxRecDepth 100000 in
theorem AddBytes_ok (g : Nat) (v xv : Value) (l m : List UInt8) (w : World) (h : Wr w g v l) (hx : Byt w xv m) (hm : l.length + m.length ≤ 1048576) :
    Calls Tryd.prog 38 #[.pointer (some ⟨g, 0, none⟩), xv] w (WPost w g v (l ++ m) 0) := by
  have hc := h.cell
  have hf := h.free
  obtain ⟨v1, w1, hrun, h2, h3, h4⟩ := run_append_own_src w 0 l.length v xv l m 23 h.own hx (by omega) (Nat.zero_le _)
  have hp := wr_store h h3 (m := l ++ m) (by rw [List.length_append]; exact h2) (by rw [List.length_append]; exact hm) h4
  obtain ⟨hc1, hf1⟩ := h.after h3
  obtain ⟨A1, c1, rfl, -, -⟩ := Byt.of_own h2
  have HP := Lib.hid hp
  have Hrun := Lib.hid hrun
  have HW := Lib.hid h
  clear hp h2 h3 h4 hrun h
  obtain ⟨B, d, rfl, -, -⟩ := hx
  go_enter Tryd.func38, Tryd.ntmps38
  go_wp2_with fail
  refine (room_any g v l _ HW.out).mono ?_
  rintro e w' ⟨rfl, rfl⟩
  go_wp2_with (at_builtin; refine wpList_append_run rfl (.tmp 16) (.tmp 17) 23 23 rfl _ _ _ w1 rfl rfl Hrun.out ?_)
  go_ret
  have hfin := HP.out
  rw [List.length_append] at hfin
  exact hfin
theorem AddBytes_long (g : Nat) (v xv : Value) (l m : List UInt8) (w : World) (h : Wr w g v l) (hx : Byt w xv m) (hm : 1048576 < l.length + m.length) (hm2 : m.length ≤ 9223372036854775807) :
    Calls Tryd.prog 38 #[.pointer (some ⟨g, 0, none⟩), xv] w (WPost w g v l 5) := by
  obtain ⟨B, d, rfl, -, -⟩ := hx
  have hle := h.le
  have HW := Lib.hid h; clear h
  go_enter Tryd.func38, Tryd.ntmps38
  go_wp2_with fail
  refine (room_any g v l _ HW.out).mono ?_
  rintro e w' ⟨rfl, rfl⟩
  go_wp2
  go_ret
  exact WPost.same HW.out 5
end Go.Proofs.YtmolpnhgmdpdmaaDoor
