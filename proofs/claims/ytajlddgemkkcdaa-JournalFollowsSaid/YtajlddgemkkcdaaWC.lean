/- The contracts of bytes.Clone and of the Writer's methods room, Len, Bytes. Condition: the pointer leads to a writer. -/
import Derived.Test.YtajlddgemkkcdaaWB
import Derived.Deep.AppendSrc
import Derived.Deep.Upon
import Derived.WalkSpells
namespace Go.Proofs.Ytajlddgemkkcdaa
open Go.RowKit
set_option linter.unusedVariables false
set_option maxRecDepth 100000
set_option maxHeartbeats 400000

theorem Byt.src {w : World} {v : Value} {l : List UInt8} (h : Byt w v l) : Src Try.prog 1 24 v l.length (bv l) w := by
  obtain ⟨A, c, rfl, _, hr⟩ := h
  rcases Nat.eq_zero_or_pos l.length with h0 | h0
  · have hl : l = [] := List.eq_nil_of_length_eq_zero h0
    subst hl
    rcases A with _ | a
    · exact Src.ofNil w Try.underlying24 c
    · exact Src.ofSlice w Try.underlying24 a 0 c [] (by simp) (by simp) (by simp)
  · obtain ⟨g, o, rfl, _, hc⟩ := hr h0
    refine Src.ofSlice w Try.underlying24 _ l.length c _ (by rw [bv_length]; omega) (fun j u hu => ?_) (bv_one l)
    have hj : j < l.length := by
      rcases Nat.lt_or_ge j l.length with h | h
      · exact h
      · rw [List.getElem?_eq_none (by rw [bv_length]; exact h)] at hu; cases hu
    rw [bv_get hj] at hu
    rw [add_plain, hc j hj, hu]
theorem size_setCells (w : World) (g : Nat) : ∀ (vs : List Value) (o : Nat), (w.setCells g o vs).heap.size = w.heap.size := by
  intro vs
  induction vs generalizing w with
  | nil => intro o; rfl
  | cons v vs ih => intro o; simp only [World.setCells]; rw [ih]; simp [World.setCell]
theorem tape_setCells (w : World) (g : Nat) : ∀ (vs : List Value) (o : Nat), (w.setCells g o vs).tape = w.tape := by
  intro vs
  induction vs generalizing w with
  | nil => intro o; rfl
  | cons v vs ih => intro o; simp only [World.setCells]; rw [ih]; rfl
theorem below_setCells (w : World) (g : Nat) (vs : List Value) (o : Nat) : Below g w (w.setCells g o vs) := by
  refine ⟨World.os_setCells _ _ _ _, tape_setCells _ _ _ _, World.output_setCells _ _ _ _, by rw [size_setCells]; exact Nat.le_refl _, fun k hk => ?_⟩
  rcases Nat.lt_or_ge k w.heap.size with h | h
  · exact World.heap_setCells_other w g o vs h (by omega)
  · rw [Array.getElem?_eq_none h, Array.getElem?_eq_none (by rw [size_setCells]; exact h)]
theorem wpList_append_run {P : Program} {w : World} {ops : Array Oper} {rest : List Oper} {o : Oper} {a : Act} {Q : Exit → Act → World → Prop} (hgd : o.guard = none) (s x : Operand) (t tx : TypeId)
    (ho : o.op = .call { callee := .builtin .append, args := #[s, x], argTypes := #[t, tx] }) (v xv v' : Value) (w' : World) (hs : a.eval s = v) (hx : a.eval x = xv)
    (hr : (Builtin.append_ #[t, tx] o.type #[v, xv]).run P w = .ok v' w') (h : wpList P ops Q rest (a.put o.dst v') w') : wpList P ops Q (o :: rest) a w := by
  refine wpList_plain hgd fun K hK => ?_
  unfold Oper.wp execOp
  simp only [ho, resolve, invoke, builtin, Sem.run_bind, Sem.run_pure, Result.andThen_ok, List.map_toArray, List.map_cons, List.map_nil, hs, hx, hr]
  exact hK _ _ h
theorem run_append_own_src (w : World) (base n : Nat) (v xv : Value) (l m : List UInt8) (ty : TypeId) (hown : w.ownsRow base 5 1 v n (bv l)) (hx : Byt w xv m) (hsz : n + m.length ≤ 1099511627776) (hbase : base ≤ w.heap.size) :
    ∃ v' w', (Builtin.append_ #[24, 24] ty #[v, xv]).run Try.prog w = .ok v' w' ∧ w'.ownsRow base 5 1 v' (n + m.length) (bv (l ++ m)) ∧ w.grownBy w' v.ownBlock ∧ (v'.ownBlock = v.ownBlock ∨ v'.ownBlock = some w.heap.size) := by
  obtain ⟨i0, hi0, hz0, hz1, hz2⟩ := info_parts u8_info
  obtain ⟨A, c, rfl, _, hr⟩ := hx
  rcases A with _ | a
  · have h0 : m.length = 0 := by
      rcases Nat.eq_zero_or_pos m.length with h | h
      · exact h
      · obtain ⟨_, _, h, _⟩ := hr h; cases h
    have hm : m = [] := List.eq_nil_of_length_eq_zero h0
    subst hm
    refine ⟨v, w, ?_, by simpa using hown, World.grownBy.refl _ _, .inl rfl⟩
    rcases hown.2 with ⟨rfl, rfl⟩ | ⟨g, cap, cur, rfl, _, _, hnc, _⟩
    · simp [Builtin.append_, run_underlying Try.underlying24, sizeOf, typeInfo, hi0, Builtin.lenOf, Builtin.firstCells]
    · simp [Builtin.append_, run_underlying Try.underlying24, sizeOf, typeInfo, hi0, Builtin.lenOf, Builtin.firstCells, hnc, storeCells]
  · have hnews : ∀ j u, (bv m)[j]? = some u → w.cell? (a.add j) = some u := by
      intro j u hu
      have hj : j < m.length := by
        rcases Nat.lt_or_ge j m.length with h | h
        · exact h
        · rw [List.getElem?_eq_none (by rw [bv_length]; exact h)] at hu; cases hu
      obtain ⟨g, o, e, _, hc⟩ := hr (by omega)
      cases e
      rw [bv_get hj] at hu
      rw [add_plain, hc j hj, hu]
    obtain ⟨v', w', hrun, h2, h3, _, h5⟩ := run_append_own_at (P := Try.prog) w base 24 ty 5 i0 (.int .u8 0) 1 1 Try.underlying24 hi0 hz0 hz1 hz2 rfl (by decide) v n (bv l) hown a m.length c (bv m) (by rw [bv_length]; omega) hnews (bv_one m) (by unfold maxLen; omega) (by omega) hbase
    exact ⟨v', w', hrun, by rw [bv_append]; exact h2, h3, h5⟩
set_option maxRecDepth 100000 in
theorem Clone_any (v : Value) (l : List UInt8) (w : World) (h : Byt w v l) (hl : l.length ≤ 1099511627776) :
    Calls Try.prog 64 #[v] w fun e w' => (∃ v', e = .returned v' ∧ w'.ownsRow w.heap.size 5 1 v' l.length (bv l)) ∧ Below w.heap.size w w' := by
  have hv := h
  obtain ⟨A, c, rfl, hc, hr⟩ := h
  rcases A with _ | a
  · have h0 : l.length = 0 := by
      rcases Nat.eq_zero_or_pos l.length with h | h
      · exact h
      · obtain ⟨_, _, h, _⟩ := hr h; cases h
    have hm : l = [] := List.eq_nil_of_length_eq_zero h0
    subst hm
    clear hr hc hv h0
    have heq := fun W => Lib.run_eql_slice_nil (P := Try.prog) W 24 5 none 0 c 0 0 Try.underlying24
    show Calls Try.prog 64 #[.slice none 0 c] w _
    go_enter Try.func64, Try.ntmps64
    go_wp2
    go_ret
    exact ⟨⟨_, rfl, World.ownsRow_nil _ _ _ _⟩, Below.refl _ _⟩
  · have heq := fun W => Lib.run_eql_slice_nil (P := Try.prog) W 24 5 (some a) l.length c 0 0 Try.underlying24
    have hv1 : Byt (w.alloc (.cells #[] 5)) (.slice (some a) l.length c) l := hv.below ((Below.refl _ _).alloc (Nat.le_refl _) _)
    obtain ⟨v', w', hrun, h2, h3, h4⟩ := run_append_own_src (w.alloc (.cells #[] 5)) w.heap.size 0 (.slice (some ⟨w.heap.size, 0, none⟩) 0 0) _ [] l 24 (World.ownsRow_made w #[] 0 (Nat.le_refl _) (by simp) rfl) hv1 (by omega) (by simp)
    have Hrun := Lib.hid hrun
    have H2 := Lib.hid h2
    have H3 := Lib.hid h3
    clear hrun h2 h3 h4 hv1 hv hr hc
    go_enter Try.func64, Try.ntmps64
    go_wp2_with (at_builtin; refine wpList_append_run rfl (.tmp 5) (.tmp 6) 24 24 rfl _ _ v' w' rfl rfl Hrun.out ?_)
    go_ret
    refine ⟨⟨v', rfl, by simpa using H2.out⟩, ?_⟩
    exact ((Below.refl _ _).alloc (Nat.le_refl _) _).grown H3.out (by simp) (by simp [Value.ownBlock])
theorem below_drewN {B : Nat} {a w : World} (h : Below B a w) (n : Nat) : Below B a (w.drewN n) := ⟨h.os, h.tape, h.output, h.size, h.block⟩
/-- At most the blocks of S, and new ones, have changed. -/
structure Chg (S : Nat → Prop) (w w' : World) : Prop where
  os : w'.os = w.os
  tape : w'.tape = w.tape
  output : w'.output = w.output
  size : w.heap.size ≤ w'.heap.size
  block : ∀ k, k < w.heap.size → ¬ S k → w'.heap[k]? = w.heap[k]?
theorem Chg.refl (S : Nat → Prop) (w : World) : Chg S w w := ⟨rfl, rfl, rfl, Nat.le_refl _, fun _ _ _ => rfl⟩
theorem Chg.trans {S T : Nat → Prop} {a b c : World} (h : Chg S a b) (k : Chg T b c) (hT : ∀ i, T i → i < a.heap.size → S i) : Chg S a c :=
  ⟨k.os.trans h.os, k.tape.trans h.tape, k.output.trans h.output, Nat.le_trans h.size k.size, fun i hi hS => (k.block i (Nat.lt_of_lt_of_le hi h.size) (fun hTi => hS (hT i hTi hi))).trans (h.block i hi hS)⟩
theorem Chg.of_below {S : Nat → Prop} {w w' : World} (h : Below w.heap.size w w') : Chg S w w' := ⟨h.os, h.tape, h.output, h.size, fun k hk _ => h.block k hk⟩
theorem Chg.of_grown {w w' : World} {row : Option Nat} (h : w.grownBy w' row) : Chg (fun b => row = some b) w w' := ⟨h.os, h.tape, h.output, h.size, fun k hk hn => h.block k hk (fun e => hn e.symm)⟩
theorem Chg.below {S : Nat → Prop} {B : Nat} {w w' : World} (h : Chg S w w') (hB : B ≤ w.heap.size) (hS : ∀ i, S i → B ≤ i) : Below B w w' :=
  ⟨h.os, h.tape, h.output, h.size, fun k hk => h.block k (by omega) (fun hk' => by have := hS k hk'; omega)⟩
theorem Chg.setCell {S : Nat → Prop} {a w : World} (h : Chg S a w) {p : Addr} (hp : S p.block) (u : Value) : Chg S a (w.setCell p u) :=
  ⟨h.os, h.tape, h.output, by simpa [World.setCell] using h.size, fun k hk hn => (Below.heap_setCell w p u k (by rintro rfl; exact hn hp)).trans (h.block k hk hn)⟩
theorem Chg.mono {S T : Nat → Prop} {w w' : World} (h : Chg S w w') (hST : ∀ i, S i → T i) : Chg T w w' := ⟨h.os, h.tape, h.output, h.size, fun k hk hn => h.block k hk (fun hs => hn (hST k hs))⟩
/-- The writer at block g holds the slice v, which owns the bytes l. -/
structure Wr (w : World) (g : Nat) (v : Value) (l : List UInt8) : Prop where
  blk : w.heap[g]? = some (.cells #[v] 91 (0, 0))
  own : w.ownsRow 0 5 1 v l.length (bv l)
  le : l.length ≤ 1048576
theorem Wr.lt {w : World} {g : Nat} {v : Value} {l : List UInt8} (h : Wr w g v l) : g < w.heap.size := (Array.getElem?_eq_some_iff.1 h.blk).1
theorem Wr.cell {w : World} {g : Nat} {v : Value} {l : List UInt8} (h : Wr w g v l) : w.cell? ⟨g, 0, none⟩ = some v := by rw [cell_of_row w g 0 #[v] 91 (0, 0) h.blk]; rfl
theorem Wr.free {w : World} {g : Nat} {v : Value} {l : List UInt8} (h : Wr w g v l) : w.frozen? ⟨g, 0, none⟩ = false := frozen_of_row w g 0 #[v] 91 h.blk
theorem Wr.form {w : World} {g : Nat} {v : Value} {l : List UInt8} (h : Wr w g v l) : ∃ A c, v = .slice A l.length c := by
  obtain ⟨A, c, h, _⟩ := Byt.of_own h.own
  exact ⟨A, c, h⟩
/-- The rows of bytes are not the block of the writer. -/
theorem Wr.ne {w : World} {g : Nat} {v : Value} {l : List UInt8} (h : Wr w g v l) : v.ownBlock ≠ some g := by
  rcases h.own.2 with ⟨rfl, _⟩ | ⟨g', cap, cur, rfl, _, hh, _⟩
  · simp [Value.ownBlock]
  · intro he
    have : g' = g := by simpa [Value.ownBlock] using he
    subst this
    rw [h.blk] at hh
    injection hh with hh
    injection hh with _ ht
    exact absurd ht (by decide)
/-- What the writer's methods leave. -/
def WPost (w : World) (g : Nat) (v : Value) (l : List UInt8) (k : Int) (e : Ending) (w' : World) : Prop :=
  e = .returned (.int .i64 k) ∧ ∃ v', Wr w' g v' l ∧ Chg (fun b => b = g ∨ v.ownBlock = some b) w w' ∧ (v'.ownBlock = v.ownBlock ∨ ∃ b, v'.ownBlock = some b ∧ w.heap.size ≤ b)
theorem WPost.same {w : World} {g : Nat} {v : Value} {l : List UInt8} (h : Wr w g v l) (k : Int) : WPost w g v l k (.returned (.int .i64 k)) w := ⟨rfl, v, h, Chg.refl _ _, .inl rfl⟩
theorem room_any (g : Nat) (v : Value) (l : List UInt8) (w : World) (h : Wr w g v l) : Calls Try.prog 63 #[.pointer (some ⟨g, 0, none⟩)] w fun e w' => e = .returned (.int .i64 (1048576 - l.length)) ∧ w = w' := by
  have hc := h.cell
  have hl := h.le
  obtain ⟨A, c, rfl⟩ := h.form
  clear h
  go_enter Try.func63, Try.ntmps63
  go_wp2
  go_ret
  exact ⟨rfl, rfl⟩
theorem Len_any (g : Nat) (v : Value) (l : List UInt8) (w : World) (h : Wr w g v l) : Calls Try.prog 48 #[.pointer (some ⟨g, 0, none⟩)] w fun e w' => e = .returned (.int .i64 l.length) ∧ w = w' := by
  have hc := h.cell
  have hl := h.le
  obtain ⟨A, c, rfl⟩ := h.form
  clear h
  go_enter Try.func48, Try.ntmps48
  go_wp2
  go_ret
  exact ⟨rfl, rfl⟩
theorem Bytes_any (g : Nat) (v : Value) (l : List UInt8) (w : World) (h : Wr w g v l) :
    Calls Try.prog 49 #[.pointer (some ⟨g, 0, none⟩)] w fun e w' => (∃ v', e = .returned v' ∧ w'.ownsRow w.heap.size 5 1 v' l.length (bv l)) ∧ Below w.heap.size w w' := by
  have hc := h.cell
  have hb := Byt.of_own h.own
  have Hl := Lib.hid h.le
  clear h
  go_enter Try.func49, Try.ntmps49
  go_wp2_with fail
  refine (Clone_any v l _ hb (by have := Hl.out; omega)).mono ?_
  rintro e w' ⟨⟨v', rfl, h1⟩, h2⟩
  have H1 := Lib.hid h1; have H2 := Lib.hid h2; clear h1 h2
  go_wp2
  go_ret
  exact ⟨⟨v', rfl, H1.out⟩, H2.out⟩
/-- The writer's field set to what an append left. -/
theorem wr_store {w w1 : World} {g : Nat} {v v1 : Value} {l m : List UInt8} (h : Wr w g v l) (hg : w.grownBy w1 v.ownBlock) (ho : w1.ownsRow 0 5 1 v1 m.length (bv m)) (hm : m.length ≤ 1048576) (hat : v1.ownBlock = v.ownBlock ∨ v1.ownBlock = some w.heap.size) :
    WPost w g v m 0 (.returned (.int .i64 0)) (w1.setCell ⟨g, 0, none⟩ v1) := by
  have hb1 : w1.heap[g]? = some (.cells #[v] 91 (0, 0)) := (hg.block g h.lt (fun e => h.ne e.symm)).trans h.blk
  have hne : v1.ownBlock ≠ some g := by
    rcases hat with e | e <;> rw [e]
    · exact h.ne
    · intro e; injection e with e; have := h.lt; omega
  refine ⟨rfl, v1, ⟨?_, ?_, hm⟩, ?_, ?_⟩
  · simp [World.setCell, Array.getElem?_modify, hb1]
  · refine ho.kept (row := some g) ⟨rfl, rfl, rfl, by simp [World.setCell], fun k _ hk => Below.heap_setCell w1 ⟨g, 0, none⟩ v1 k (fun e => hk (by rw [e]))⟩ (.inr hne)
  · refine Chg.setCell ?_ (.inl rfl) _
    exact (Chg.of_grown hg).mono fun i hi => .inr hi
  · rcases hat with e | e
    · exact .inl e
    · exact .inr ⟨_, e, Nat.le_refl _⟩
theorem Wr.after {w w1 : World} {g : Nat} {v : Value} {l : List UInt8} (h : Wr w g v l) (h3 : w.grownBy w1 v.ownBlock) : w1.cell? ⟨g, 0, none⟩ = some v ∧ w1.frozen? ⟨g, 0, none⟩ = false := by
  have hb1 : w1.heap[g]? = some (.cells #[v] 91 (0, 0)) := (h3.block g h.lt (fun e => h.ne e.symm)).trans h.blk
  exact ⟨by rw [cell_of_row w1 g 0 #[v] 91 (0, 0) hb1]; rfl, frozen_of_row w1 g 0 #[v] 91 hb1⟩
end Go.Proofs.Ytajlddgemkkcdaa
