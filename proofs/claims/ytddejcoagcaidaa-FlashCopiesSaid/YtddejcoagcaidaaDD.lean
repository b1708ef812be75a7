/- Pages of the reference; its with. Conditions stand in each theorem. -/
import Derived.Test.YtddejcoagcaidaaDC
import Derived.Test.YtddejcoagcaidaaV
import Derived.Test.YtddejcoagcaidaaT
namespace Go.Proofs.Ytddejcoagcaidaa
open Go.RowKit
set_option linter.unusedVariables false
set_option maxHeartbeats 8000000
set_option maxRecDepth 100000
def appX2 (ats : Array TypeId) (ty : TypeId) (args : Array Value) : Sem Next := do pure (.value (← Builtin.append_ ats ty args))
theorem builtin_appX2 (ats : Array TypeId) (ty : TypeId) (cs : Array Bool) (args : Array Value) : builtin .append ats ty cs args = appX2 ats ty args := rfl
theorem appX2_run {ats : Array TypeId} {ty : TypeId} {args : Array Value} {W W' : World} {r : Value} (h : (Builtin.append_ ats ty args).run Try.prog W = .ok r W') : (appX2 ats ty args).run Try.prog W = .ok (.value r) W' := by
  unfold appX2
  simp only [Sem.run_bind, Sem.run_pure, Result.andThen_ok, h]
attribute [local go_sem ↓ 100000] builtin_appX2
theorem info107 : (Try.prog.info? 107).map (fun i => (i.zero, i.size, i.bytes)) = some (some (.agg #[.int .i64 0, .slice none 0 0]), 2, 32) := by kernel_rfl
theorem info76 : (Try.prog.info? 76).map (fun i => (i.zero, i.size, i.bytes)) = some (some (.slice none 0 0), 1, 24) := by kernel_rfl
theorem info3 : (Try.prog.info? 3).map (fun i => (i.zero, i.size, i.bytes)) = some (some (.int .i64 0), 1, 8) := by kernel_rfl
theorem make_rpages (n : Nat) (hn : n ≤ 512) (W : World) : (Instr.makeSlice 76 (.int .i64 (n : Int)) (.int .i64 (n : Int))).run Try.prog W = .ok (.slice (some ⟨W.heap.size, 0, none⟩) n n) (W.alloc (.cells (zb n) 107)) := by
  obtain ⟨i0, hi0, hz0, hz1, hz2⟩ := info_parts info107
  have hr := run_makeSlice (P := Try.prog) W 76 107 i0 _ Try.underlying76 hi0 hz0 .i64 .i64 n n (by omega) (Int.le_refl _) (by rw [hz1]; omega) (by rw [hz2]; omega) (by omega)
  rw [hr, hz1]
  simp [Value.cells, zb]
/-- Pages of which the first k bear a state. -/
def Pz (W : World) (g n k : Nat) (st : Int) : Prop := ∃ cur : Array Value, W.heap[g]? = some (.cells cur 107 (0, 0)) ∧ cur.size = n * 2 ∧ ∀ j, j < n → cur[j * 2]? = some (.int .i64 (if j < k then st else 0)) ∧ cur[j * 2 + 1]? = some (.slice none 0 0)
theorem Pz.set {W : World} {g n k : Nat} {st : Int} (h : Pz W g n k st) (hk : k < n) : Pz (W.setCell ⟨g, k * 2, none⟩ (.int .i64 st)) g n (k + 1) st := by
  obtain ⟨cur, h1, h2, h3⟩ := h
  refine ⟨cur.setIfInBounds (k * 2) (.int .i64 st), heap_setCell_same W g (k * 2) cur 107 _ h1, by rw [Array.size_setIfInBounds]; exact h2, fun j hj => ?_⟩
  obtain ⟨e1, e2⟩ := set_cells0 cur n k hk h2 (.int .i64 st) j hj
  obtain ⟨e3, e4⟩ := h3 j hj
  rw [e1, e2]
  refine ⟨?_, e4⟩
  by_cases e : j = k
  · subst e; rw [if_pos rfl, if_pos (by omega)]
  · rw [if_neg e, e3]
    by_cases e5 : j < k
    · rw [if_pos e5, if_pos (by omega)]
    · rw [if_neg e5, if_neg (by omega)]
/-- What pages leaves. -/
def PgPost (lb : Nat) (w : World) (n : Nat) (st : Int) (e : Ending) (w' : World) : Prop := ∃ g, e = .returned (.slice (some ⟨g, 0, none⟩) n n) ∧ PrR lb w' (.slice (some ⟨g, 0, none⟩) n n) n (fun _ => ⟨st, [], []⟩) ∧ w.heap.size ≤ g ∧ Below w.heap.size w w'
theorem pages_any {lb : Nat} (n : Nat) (st : Int) (w : World) (hn : n ≤ 512) (h2 : st ≠ 2) (h3 : st ≠ 3) : Calls Try.prog 34 #[.int .i64 (n : Int), .int .i64 st] w (PgPost lb w n st) := by
  have hmk := make_rpages n hn w
  have hz : Pz (w.alloc (.cells (zb n) 107)) w.heap.size n 0 st := ⟨zb n, heap_alloc_new w _, zb_size n, fun j hj => by
    obtain ⟨e1, e2⟩ := zb_at n j hj
    exact ⟨by rw [e1, if_neg (by omega)], e2⟩⟩
  have HZ := Lib.hid hz
  have hni : (n : Int) ≤ 512 := by omega
  have H2 := Lib.hid (And.intro h2 h3)
  clear hz hn h2 h3
  go_enter Try.func34, Try.ntmps34
  go_wp2
  go_loopw [6] (fun v wr => ∃ k : Nat, k ≤ n ∧ v = .int .i64 (k : Int) ∧ Hid (Pz wr w.heap.size n k st) ∧ Hid (Below w.heap.size w wr)) (fun v _ => n - (RowKit.intOf v).toNat)
  case atStart => exact ⟨0, Nat.zero_le _, rfl, HZ, Lib.hid (balloc w _)⟩
  case round =>
    obtain ⟨k, hk, rfl, HP, HB⟩ := hrel
    clear HZ hmk
    by_cases hlt : k < n
    · have hk0 : (0 : Int) ≤ (k : Int) := by omega
      have hk1 : (k : Int) < (n : Int) := by omega
      have HP2 := Lib.hid (HP.out.set hlt)
      obtain ⟨cur, h1, _, h3⟩ := HP.out
      have z1 := (cell_of_row _ _ (k * 2) _ _ _ h1).trans (h3 k hlt).1
      have z2 := frozen_of_row _ _ (k * 2) _ _ h1
      clear h1 h3
      go_wp2
      go_roundw
      case rel => exact ⟨k + 1, by omega, by go_num, HP2, Lib.hid (HB.out.setCell (p := ⟨w.heap.size, k * 2, none⟩) (Nat.le_refl _) _)⟩
      case measure => simp [RowKit.intOf]; omega
    · obtain rfl : k = n := by omega
      go_wp2
      go_ret
      obtain ⟨cur, h1, _, h3⟩ := HP.out
      obtain ⟨n2, n3⟩ := H2.out
      refine ⟨w.heap.size, rfl, ⟨_, _, cur, rfl, Nat.le_refl _, h1, fun j hj => ⟨?_, _, (h3 j hj).2, fun ht => ?_, rfl⟩⟩, Nat.le_refl _, HB.out⟩
      · rw [(h3 j hj).1, if_pos hj]
      · rcases ht with ht | ht
        · exact absurd ht n2
        · exact absurd ht n3
end Go.Proofs.Ytddejcoagcaidaa
