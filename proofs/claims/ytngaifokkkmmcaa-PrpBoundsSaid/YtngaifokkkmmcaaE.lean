/- A log and a memory as values: zero values, loads and stores of a whole log. Conditions stand in each theorem. -/
import Derived.Test.YtngaifokkkmmcaaC
import Derived.Laws.Rows
import Derived.Laws.CopyRow
import Derived.Deep.WholeRow
namespace Go.Proofs.Ytngaifokkkmmcaa
open Go.RowKit
set_option linter.unusedVariables false
set_option maxHeartbeats 1000000
set_option maxRecDepth 100000
/-- The cells of an empty log. -/
def zLogL : List Value := (List.replicate 256 [Value.int .u64 0, Value.int .i64 0, Value.bool false]).flatten ++ [Value.int .i64 0]
def zLog : Array Value := zLogL.toArray
theorem zLog_size : zLog.size = 769 := by unfold zLog zLogL; simp
theorem info60 : (Try.prog.info? 54).map (fun i => (i.zero, i.size)) = some (some (.agg zLog), 769) := by kernel_rfl
theorem info62 : (Try.prog.info? 56).map (fun i => (i.zero, i.size)) = some (some (.agg (zLog.push (.slice none 0 0))), 770) := by kernel_rfl
theorem size60 : (Try.prog.info? 54).map (·.size) = some 769 := by
  have := congrArg (Option.map Prod.snd) info60
  rw [Option.map_map] at this
  exact this
def places62 : Array (Nat × Nat) := #[(0, 769), (769, 1)]
theorem built62 (parts : List (Nat × Value)) : Try.prog.built 56 parts = Instr.fill (places62[·]?) (zLog.push (.slice none 0 0)) parts := by kernel_rfl
theorem built60 : Try.prog.built 54 [] = some zLog := by kernel_rfl
theorem zLog_last : zLog[768]? = some (.int .i64 0) := by kernel_rfl
theorem fold_size (off : Nat) : ∀ (l : List (Value × Nat)) (cells : Array Value), (l.foldl (fun cs (p : Value × Nat) => cs.setIfInBounds (off + p.2) p.1) cells).size = cells.size
  | [], cells => rfl
  | p :: l, cells => by rw [List.foldl_cons, fold_size off l]; simp
theorem fold_get (off i : Nat) : ∀ (l : List Value) (k : Nat) (cells : Array Value), off + k + l.length ≤ cells.size →
    ((l.zipIdx k).foldl (fun cs (p : Value × Nat) => cs.setIfInBounds (off + p.2) p.1) cells)[i]? = if i < off + k then cells[i]? else if i < off + k + l.length then l[i - (off + k)]? else cells[i]?
  | [], k, cells, h => by simp; omega
  | v :: l, k, cells, h => by
    simp only [List.length_cons] at h
    rw [List.zipIdx_cons, List.foldl_cons, fold_get off i l (k + 1) _ (by simp; omega)]
    simp only [List.length_cons, Array.getElem?_setIfInBounds]
    rcases Nat.lt_trichotomy i (off + k) with h1 | h1 | h1
    · rw [if_pos (by omega), if_neg (by omega), if_pos h1]
    · subst h1
      rw [if_pos (by omega), if_pos rfl, if_pos (by omega), if_neg (by omega), if_pos (by omega), Nat.sub_self]
      rfl
    · have a1 : ¬ i < off + (k + 1) := by omega
      have a2 : ¬ i < off + k := by omega
      have a3 : ¬ off + k = i := by omega
      rw [if_neg a1, if_neg a2, if_neg a3]
      by_cases h2 : i < off + k + (l.length + 1)
      · rw [if_pos (show i < off + (k + 1) + l.length by omega), if_pos h2, show i - (off + k) = (i - (off + (k + 1))) + 1 by omega, List.getElem?_cons_succ]
      · rw [if_neg (show ¬ i < off + (k + 1) + l.length by omega), if_neg h2]
theorem arr_fold (off : Nat) (L cells : Array Value) : L.zipIdx.foldl (fun cs (p : Value × Nat) => cs.setIfInBounds (off + p.2) p.1) cells = (L.toList.zipIdx 0).foldl (fun cs (p : Value × Nat) => cs.setIfInBounds (off + p.2) p.1) cells := by
  rw [← Array.foldl_toList, Array.toList_zipIdx]
/-- What a literal of a memory holds, whose data are given, or whose log and data. -/
theorem built_data (A : Option Addr) (n c : Nat) : Try.prog.built 56 [(1, .slice A n c)] = some (zLog.push (.slice A n c)) := by
  rw [built62]; kernel_rfl
theorem built_both (L : Array Value) (hL : L.size = 769) (A : Option Addr) (n c : Nat) : Try.prog.built 56 [(0, .agg L), (1, .slice A n c)] = some (L.push (.slice A n c)) := by
  have hz : (zLog.push (.slice none 0 0)).size = 770 := by rw [Array.size_push, zLog_size]
  rw [built62]
  have e0 : places62[0]? = some (0, 769) := rfl
  have e1 : places62[1]? = some (769, 1) := rfl
  obtain ⟨F, hF⟩ : ∃ F, F = (L.zipIdx.foldl (fun cs (p : Value × Nat) => cs.setIfInBounds (0 + p.2) p.1) (zLog.push (.slice none 0 0))) := ⟨_, rfl⟩
  have hFs : F.size = 770 := by rw [hF, arr_fold, fold_size, hz]
  have hFg : ∀ i, i < 769 → F[i]? = L[i]? := fun i hi => by
    rw [hF, arr_fold, fold_get _ _ _ _ _ (by rw [hz]; simp [hL]), if_neg (by omega), if_pos (by simp [hL]; omega)]
    simp
  have h1 : Instr.fill (places62[·]?) (zLog.push (.slice none 0 0)) [(0, .agg L), (1, .slice A n c)] = Instr.fill (places62[·]?) F [(1, .slice A n c)] := by
    rw [Instr.fill, e0]
    simp only [Value.cells, hL, hz]
    rw [if_neg (by decide), hF]
  rw [h1, Instr.fill, e1]
  simp only [Value.cells, hFs]
  rw [if_neg (by simp), Instr.fill]
  congr 1
  apply Array.ext_getElem?
  intro i
  show (F.setIfInBounds (769 + 0) (.slice A n c))[i]? = _
  rw [Array.getElem?_setIfInBounds, Array.getElem?_push, hL]
  by_cases h2 : i = 769
  · subst h2; rw [if_pos rfl, if_pos (by omega), if_pos rfl]
  · rw [if_neg (by omega), if_neg h2]
    by_cases h3 : i < 769
    · exact hFg i h3
    · rw [Array.getElem?_eq_none (by omega), Array.getElem?_eq_none (by omega)]
theorem under60 : ∃ fs, Try.prog.underlying 54 = some (.struct fs) := ⟨_, Try.underlying54⟩
theorem zLog_lg : ∀ (v : Value), v.oneCell' = true → Lg (zLog.push v) [] := fun v hv => by
  refine ⟨?_, ?_, fun i hi => absurd hi (by simp)⟩
  · rw [Array.getElem?_push, zLog_size, if_neg (by decide), zLog_last]; rfl
  · intro u hu
    simp only [Array.toList_push, List.mem_append, List.mem_singleton] at hu
    rcases hu with hu | rfl
    · unfold zLog zLogL at hu
      simp only [List.mem_append, List.mem_flatten, List.mem_singleton] at hu
      rcases hu with ⟨l, h1, h2⟩ | rfl
      · rw [List.mem_replicate] at h1
        obtain ⟨_, rfl⟩ := h1
        simp only [List.mem_cons, List.not_mem_nil, or_false] at h2
        rcases h2 with rfl | rfl | rfl <;> rfl
      · rfl
    · exact hv
/-- The log's part of a memory's cells. -/
def lgOf (c : Array Value) : Array Value := (c.toList.take 769).toArray
theorem lgOf_size {c : Array Value} (h : c.size = 770) : (lgOf c).size = 769 := by simp [lgOf, h]
theorem lgOf_get {c : Array Value} {i : Nat} (hi : i < 769) : (lgOf c)[i]? = c[i]? := by simp [lgOf, hi]
theorem lgOf_mem {c : Array Value} {u : Value} (h : u ∈ (lgOf c).toList) : u ∈ c.toList := by
  unfold lgOf at h
  exact List.mem_of_mem_take h
/-- The operations on a whole log, and the literals, under names of their own. -/
def loadL (p : Addr) : Sem Value := loadVar 54 p
def storeL (p : Addr) (v : Value) : Sem Unit := storeVar 54 p v
theorem loadL_eq (p : Addr) : loadVar 54 p = loadL p := rfl
theorem storeL_eq (p : Addr) (v : Value) : storeVar 54 p v = storeL p v := rfl
theorem zero60 : ∀ w, (zeroValue 54).run Try.prog w = .ok (.agg zLog) w := (zero_of_info info60).1
/-- The cells of a memory that has no bytes. -/
def zMem : Array Value := zLog.push (.slice none 0 0)
theorem zMem_size : zMem.size = 770 := by unfold zMem; rw [Array.size_push, zLog_size]
theorem zero62 : ∀ w, (zeroValue 56).run Try.prog w = .ok (.agg zMem) w := (zero_of_info info62).1
theorem zMem_set (v : Value) : zMem.setIfInBounds 769 v = zLog.push v := by
  apply Array.ext_getElem?
  intro i
  unfold zMem
  rw [Array.getElem?_setIfInBounds, Array.getElem?_push, Array.getElem?_push, Array.size_push, zLog_size]
  by_cases h : i = 769
  · subst h; simp
  · rw [if_neg (fun e => h e.symm), if_neg h, if_neg h]
theorem isAgg60 (w : World) : (isAgg 54).run Try.prog w = .ok true w := by
  obtain ⟨fs, h⟩ := under60
  unfold isAgg
  rw [Sem.run_bind, run_underlying h w]
  simp
theorem sizeOf60 (w : World) : (sizeOf 54).run Try.prog w = .ok 769 w := by
  have := size60
  cases hq : Try.prog.info? 54 with
  | none => simp [hq] at this
  | some i =>
    have hs : i.size = 769 := by simpa [hq] using this
    simp [sizeOf, typeInfo, hq, hs]
theorem loadL_run {W : World} {b : Nat} {t : TypeId} {c : Array Value} (h : W.heap[b]? = some (.cells c t (0, 0))) (hc : c.size = 770) : (loadL ⟨b, 0, none⟩).run Try.prog W = .ok (.agg (lgOf c)) W := by
  have hl : (loadCells ⟨b, 0, none⟩ (lgOf c).toList.length).run Try.prog W = .ok (lgOf c).toList.toArray W :=
    run_loadCells_list (P := Try.prog) W ⟨b, 0, none⟩ (lgOf c).toList (fun j v hv => by
      rw [add_plain, Nat.zero_add, cell_of_row W b j c t (0, 0) h]
      have hj : j < 769 := by
        rcases Nat.lt_or_ge j 769 with h1 | h1
        · exact h1
        · rw [List.getElem?_eq_none (by rw [Array.length_toList, lgOf_size hc]; exact h1)] at hv; cases hv
      rw [Array.getElem?_toList, lgOf_get hj] at hv
      exact hv)
  rw [Array.length_toList, lgOf_size hc, Array.toArray_toList] at hl
  unfold loadL loadVar
  simp [Sem.run_bind, hl]
theorem storeL_run {W : World} {b : Nat} {t : TypeId} {c : Array Value} {v : Value} (h : W.heap[b]? = some (.cells c t (0, 0))) (hc : c.size = 770) (hv : c[769]? = some v) : (storeL ⟨b, 0, none⟩ (.agg zLog)).run Try.prog W = .ok () (W.setRow b (zLog.push v)) := by
  have hone : ∀ u ∈ zLog.toList, u.oneCell' = true := fun u hu => (zLog_lg (.bool false) rfl).one u (by simp only [Array.toList_push, List.mem_append]; exact .inl hu)
  have hs := run_storeCells_at Try.prog b 0 t zLog.toList 0 c W h (by rw [Array.length_toList, zLog_size]; omega) hone
  have e : (c.toList.take (0 + 0) ++ zLog.toList ++ c.toList.drop (0 + 0 + zLog.toList.length)).toArray = zLog.push v := by
    apply Array.ext_getElem?
    intro i
    rw [Array.length_toList, zLog_size, Array.getElem?_push, zLog_size]
    simp only [Nat.add_zero, Nat.zero_add, List.take_zero, List.nil_append, List.getElem?_toArray]
    rcases Nat.lt_trichotomy i 769 with h1 | h1 | h1
    · rw [if_neg (by omega), List.getElem?_append_left (by rw [Array.length_toList, zLog_size]; exact h1), Array.getElem?_toList]
    · subst h1
      rw [if_pos rfl, List.getElem?_append_right (by rw [Array.length_toList, zLog_size]; exact Nat.le_refl _), Array.length_toList, zLog_size, List.getElem?_drop, Array.getElem?_toList]
      exact hv
    · rw [if_neg (by omega), List.getElem?_eq_none (by simp [zLog_size, hc]; omega), Array.getElem?_eq_none (by rw [zLog_size]; omega)]
  rw [e] at hs
  unfold storeL storeVar
  simp only [Value.cells, zLog_size, Sem.run_bind, sizeOf60, Result.andThen_ok]
  simpa using hs
end Go.Proofs.Ytngaifokkkmmcaa
