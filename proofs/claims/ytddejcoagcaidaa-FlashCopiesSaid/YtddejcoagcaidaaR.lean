/- The contract of slices.Repeat at one page. Conditions stand in each theorem. -/
import Derived.Test.YtddejcoagcaidaaQ
import Derived.BigRegion
namespace Go.Proofs.Ytddejcoagcaidaa
open Go.RowKit
set_option linter.unusedVariables false
set_option maxHeartbeats 2000000
set_option maxRecDepth 100000
/-- n pages without contents, as cells. -/
def rep (st : Int) : Nat → List Value
  | 0 => []
  | n + 1 => .slice none 0 0 :: .slice none 0 0 :: .int .i64 st :: rep st n
theorem rep_length (st : Int) (n : Nat) : (rep st n).length = n * 3 := by
  induction n with
  | zero => rfl
  | succ n ih => simp [rep, ih]; omega
theorem rep_add (st : Int) (a b : Nat) : rep st (a + b) = rep st a ++ rep st b := by
  induction a with
  | zero => simp [rep]
  | succ n ih => rw [Nat.succ_add, rep, ih]; rfl
theorem rep_one (st : Int) (n : Nat) : ∀ v ∈ rep st n, v.oneCell' = true := by
  induction n with
  | zero => intro v hv; cases hv
  | succ n ih =>
    intro v hv
    simp only [rep, List.mem_cons] at hv
    rcases hv with rfl | rfl | rfl | hv
    · rfl
    · rfl
    · rfl
    · exact ih v hv
theorem rep_rows {lb : Nat} (w : World) (st : Int) (n : Nat) : Rws lb w (rep st n) (List.replicate n ⟨st, [], []⟩) := by
  induction n with
  | zero => trivial
  | succ n ih => exact ⟨BytT.nil w, BytT.nil w, rfl, ih⟩
/-- copy onto a row of cells that is known whole; elements of k cells. -/
theorem run_copy_rowk {P : Program} (w : World) (dT sT ty elem : TypeId) (g o dLen dCap : Nat) (a : Addr) (sLen sCap k m : Nat) (cur : Array Value) (t : TypeId) (cs : List Value)
    (hu : P.underlying dT = some (.slice elem)) (hs : (P.info? elem).map (·.size) = some k)
    (hg : w.heap[g]? = some (.cells cur t (0, 0))) (hm : m = Nat.min sLen dLen) (hn : cs.length = m * k)
    (hsrc : ∀ j v, cs[j]? = some v → w.cell? (a.add j) = some v) (hfit : o + cs.length ≤ cur.size) (h1 : ∀ v ∈ cs, v.oneCell' = true) :
    (Builtin.copy_ #[dT, sT] ty #[.slice (some ⟨g, o, none⟩) dLen dCap, .slice (some a) sLen sCap]).run P w =
      .ok (goInt m) (w.setRow g (cur.toList.take o ++ cs ++ cur.toList.drop (o + cs.length)).toArray) := by
  have hl := run_loadCells_list (P := P) w a cs hsrc
  have hst := run_storeCells_at P g o t cs 0 cur w hg (by simpa using hfit) h1
  cases hq : P.info? elem with
  | none => simp [hq] at hs
  | some i =>
    have hi : i.size = k := by simpa [hq] using hs
    simp [Builtin.copy_, run_underlying hu, Builtin.lenOf, Builtin.firstCells, sizeOf, typeInfo, hq, hi, ← hm, ← hn, hl, hst]
theorem step_copy_k {P : Program} {ops : Array Oper} {o : Oper} {a : Act} {w : World} {K : Act → World → Prop} {Q : Exit → Act → World → Prop} {E : Prop} (hgd : o.guard = none) (d s : Operand) (dT sT : TypeId)
    (ho : o.op = .call { callee := .builtin .copy, args := #[d, s], argTypes := #[dT, sT] }) (dv sv v : Value) (w' : World) (hd : a.eval d = dv) (hs : a.eval s = sv)
    (hr : (Builtin.copy_ #[dT, sT] o.type #[dv, sv]).run P w = .ok v w') (h : K (a.put o.dst v) w') :
    if Region.wanted o (yielded ops a.tmps) = true then Oper.wp P o a w K Q else E := by
  have hw : Region.wanted o (yielded ops a.tmps) = true := by simp [Region.wanted, hgd]
  rw [if_pos hw]
  unfold Oper.wp
  simp [execOp, ho, resolve, invoke, builtin, hd, hs, hr, Result.andThen]
  exact h
theorem wpList_copy_run {P : Program} {w : World} {ops : Array Oper} {rest : List Oper} {o : Oper} {a : Act} {Q : Exit → Act → World → Prop} (hgd : o.guard = none) (d s : Operand) (dT sT : TypeId)
    (ho : o.op = .call { callee := .builtin .copy, args := #[d, s], argTypes := #[dT, sT] }) (dv sv v : Value) (w' : World) (hd : a.eval d = dv) (hs : a.eval s = sv)
    (hr : (Builtin.copy_ #[dT, sT] o.type #[dv, sv]).run P w = .ok v w') (h : wpList P ops Q rest (a.put o.dst v) w') : wpList P ops Q (o :: rest) a w := by
  refine wpList_plain hgd fun K hK => ?_
  unfold Oper.wp
  simp [execOp, ho, resolve, invoke, builtin, hd, hs, hr, Result.andThen]
  exact hK _ _ h
/-- Block g holds N pages, of which the first k are filled. -/
def Fil (w : World) (g N : Nat) (st : Int) (k : Nat) : Prop := ∃ cur : Array Value, w.heap[g]? = some (.cells cur 91 (0, 0)) ∧ cur.size = N * 3 ∧ cur.toList.take (k * 3) = rep st k
theorem Fil.copy {w : World} {g N k c : Nat} {st : Int} (h : Fil w g N st k) (hc : k + c ≤ N) : ∃ cur : Array Value, w.heap[g]? = some (.cells cur 91 (0, 0)) ∧ cur.size = N * 3 ∧
    Fil (w.setRow g (cur.toList.take (k * 3) ++ rep st c ++ cur.toList.drop (k * 3 + (rep st c).length)).toArray) g N st (k + c) := by
  obtain ⟨cur, hg, hs, ht⟩ := h
  refine ⟨cur, hg, hs, _, setRow_heap w g cur _ 91 _ hg, ?_, ?_⟩
  · simp only [List.size_toArray, List.length_append, List.length_take, List.length_drop, Array.length_toList, rep_length]
    omega
  · rw [ht, ← rep_add, show (k + c) * 3 = (rep st (k + c)).length by rw [rep_length]]
    simp
theorem Fil.src {w : World} {g N k c : Nat} {st : Int} (h : Fil w g N st k) (hc : c ≤ k) : ∀ j v, (rep st c)[j]? = some v → w.cell? ((⟨g, 0, none⟩ : Addr).add j) = some v := by
  obtain ⟨cur, hg, hs, ht⟩ := h
  intro j v hj
  have hl : j < c * 3 := by
    rcases Nat.lt_or_ge j (c * 3) with h1 | h1
    · exact h1
    · rw [List.getElem?_eq_none (by rw [rep_length]; exact h1)] at hj; cases hj
  have e : rep st k = rep st c ++ rep st (k - c) := by rw [← rep_add]; congr 1; omega
  have h2 : (cur.toList.take (k * 3))[j]? = some v := by
    rw [ht, e, List.getElem?_append_left (by rw [rep_length]; exact hl)]
    exact hj
  rw [List.getElem?_take_of_lt (by omega)] at h2
  rw [add_plain, Nat.zero_add, cell_of_row w g j cur 91 (0, 0) hg]
  simpa using h2
theorem size91 : (Try.prog.info? 91).map (·.size) = some 3 := by kernel_rfl
theorem elem92 : Try.prog.elem 92 = 91 := by kernel_rfl
theorem under92e : Try.prog.underlying 92 = some (.slice (Try.prog.elem 92)) := by rw [elem92]; exact Try.underlying92
theorem cut_run {g N k : Nat} (hk : k < N) :
    (∀ W : World, (Instr.slice 92 (.slice (some ⟨g, 0, none⟩) N N) (some (.int .i64 (k : Int))) none none).run Try.prog W = .ok (.slice (some ⟨g, k * 3, none⟩) (N - k) (N - k)) W) ∧
    (∀ W : World, (Instr.slice 92 (.slice (some ⟨g, 0, none⟩) N N) none (some (.int .i64 (k : Int))) none).run Try.prog W = .ok (.slice (some ⟨g, 0, none⟩) k N) W) := by
  obtain ⟨i0, hi0, hz0, hz1, hz2⟩ := info_parts info91b
  constructor
  · intro W
    rw [run_slice_l (P := Try.prog) (w := W) (t := 92) (a := some ⟨g, 0, none⟩) (len := N) (cap := N) (ht := under92e) .i64 k (by omega) (by omega)]
    have hne : ¬ N = k := by omega
    simp [sizeOf, typeInfo, elem92, hi0, hz1, sliced, hne, add_plain]
  · intro W
    rw [run_slice_h (P := Try.prog) (w := W) (t := 92) (a := some ⟨g, 0, none⟩) (len := N) (cap := N) (ht := under92e) .i64 k (by omega) (by omega)]
    have hne : ¬ N = 0 := by omega
    simp [sizeOf, typeInfo, elem92, hi0, hz1, sliced, hne, add_plain]
theorem copy_fil {w : World} {g N k c ty : Nat} {st : Int} (h : Fil w g N st k) (hk : k < N) (hc : c = min k (N - k)) :
    ∃ w', (Builtin.copy_ #[92, 92] ty #[.slice (some ⟨g, k * 3, none⟩) (N - k) (N - k), .slice (some ⟨g, 0, none⟩) k N]).run Try.prog w = .ok (.int .i64 (c : Int)) w' ∧ Fil w' g N st (k + c) ∧ Chg (· = g) w w' := by
  obtain ⟨cur, hg, hs, hf⟩ := h.copy (c := c) (by omega)
  refine ⟨_, run_copy_rowk (P := Try.prog) w 92 92 ty 91 g (k * 3) (N - k) (N - k) ⟨g, 0, none⟩ k N 3 c cur 91 (rep st c) Try.underlying92 size91 hg (by rw [hc]) (rep_length st c) (h.src (by omega)) (by rw [rep_length, hs]; omega) (rep_one st c), hf, ?_⟩
  exact ⟨rfl, rfl, rfl, by simp, fun j hj hn => setRow_other w g j _ hn⟩
theorem copy_one {w : World} {g N B ty : Nat} {st : Int} (h : Fil w g N st 0) (hN : 1 ≤ N) (hB : w.heap[B]? = some (.cells #[.slice none 0 0, .slice none 0 0, .int .i64 st] 91 (0, 0))) :
    ∃ w', (Builtin.copy_ #[92, 92] ty #[.slice (some ⟨g, 0, none⟩) N N, .slice (some ⟨B, 0, none⟩) 1 1]).run Try.prog w = .ok (.int .i64 1) w' ∧ Fil w' g N st 1 ∧ Chg (· = g) w w' := by
  obtain ⟨cur, hg, hs, hf⟩ := h.copy (c := 1) (by omega)
  refine ⟨_, run_copy_rowk (P := Try.prog) w 92 92 ty 91 g 0 N N ⟨B, 0, none⟩ 1 1 3 1 cur 91 (rep st 1) Try.underlying92 size91 hg (by show 1 = min 1 N; omega) (rep_length st 1) (fun j v hj => ?_) (by rw [rep_length, hs]; omega) (rep_one st 1), by simpa using hf, ?_⟩
  · rw [add_plain, Nat.zero_add, cell_of_row w B j _ 91 (0, 0) hB]
    simpa [rep] using hj
  · exact ⟨rfl, rfl, rfl, by simp, fun j hj hn => setRow_other w g j _ hn⟩
theorem make_pages (w : World) (N : Nat) (st : Int) (hN : N ≤ 4096) : ∃ w' : World, (Instr.makeSlice 92 (.int .i64 (N : Int)) (.int .i64 (N : Int))).run Try.prog w = .ok (.slice (some ⟨w.heap.size, 0, none⟩) N N) w' ∧ Fil w' w.heap.size N st 0 ∧ Below w.heap.size w w' ∧ w.heap.size < w'.heap.size := by
  obtain ⟨i0, hi0, hz0, hz1, hz2⟩ := info_parts info91b
  have hr := run_makeSlice (P := Try.prog) w 92 91 i0 _ Try.underlying92 hi0 hz0 .i64 .i64 N N (by omega) (Int.le_refl _) (by rw [hz1]; omega) (by rw [hz2]; omega) (by omega)
  simp only [Int.toNat_natCast] at hr
  refine ⟨_, hr, ⟨_, heap_alloc_new w _, ?_, by simp [rep]⟩, below_alloc w _, by simp⟩
  rw [size_madeCells, hz1]
def RepPost (w : World) (st : Int) (N : Nat) (e : Ending) (w' : World) : Prop := ∃ g, e = .returned (.slice (some ⟨g, 0, none⟩) N N) ∧ w'.ownsRow w.heap.size 91 3 (.slice (some ⟨g, 0, none⟩) N N) N (rep st N) ∧ Below w.heap.size w w'
theorem Repeat_any (B N : Nat) (st : Int) (w : World) (hB : w.heap[B]? = some (.cells #[.slice none 0 0, .slice none 0 0, .int .i64 st] 91 (0, 0))) (h1 : 1 ≤ N) (h2 : N ≤ 512) :
    Calls Try.prog 67 #[.slice (some ⟨B, 0, none⟩) 1 1, .int .i64 (N : Int)] w (RepPost w st N) := by
  have HM := Lib.hid (fun W => Mul_any N h2 W)
  obtain ⟨w1, hmk, hf0, hb1, hl1⟩ := make_pages w N st (by omega)
  obtain ⟨w2, hcp, hf1, hc2⟩ := copy_one (ty := 3) hf0 h1 ((hb1.block B (Array.getElem?_eq_some_iff.1 hB).1).trans hB)
  have HB1 := Lib.hid hb1
  have HF1 := Lib.hid hf1
  have HC2 := Lib.hid hc2
  have n1 : (1 : Int) ≤ N := by omega
  have n2 : (N : Int) ≤ 512 := by omega
  clear hf0 hb1 hf1 hc2 hB
  obtain ⟨g, hg⟩ : ∃ g, g = w.heap.size := ⟨_, rfl⟩
  rw [← hg] at hmk
  have HGE := Lib.hid hg
  rw [← hg] at HF1 HC2 hcp
  clear hg
  go_enter Try.func67, Try.ntmps67
  go_wp2_with ((go_at_call 77; with_reducible refine (HM.out _).mono ?_); rintro e w' ⟨rfl, rfl⟩)
  clear hcp hmk
  go_loopw [8] (fun i wr => ∃ k : Nat, 1 ≤ k ∧ k ≤ N ∧ i = .int .i64 k ∧ Hid (Fil wr g N st k) ∧ Hid (Chg (· = g) w1 wr)) (fun i _ => N - (RowKit.intOf i).toNat)
  case atStart => exact ⟨1, Nat.le_refl _, h1, rfl, HF1, HC2⟩
  case round =>
    obtain ⟨k, hk1, hk2, rfl, HF, HC⟩ := hrel
    by_cases hlt : k < N
    · obtain ⟨s1, s2⟩ := cut_run (g := g) hlt
      obtain ⟨c, hc⟩ : ∃ c, c = min k (N - k) := ⟨_, rfl⟩
      obtain ⟨w3, hcp, hf3, hc3⟩ := copy_fil (ty := 3) (w := wr.drew) HF.out hlt hc
      have HF3 := Lib.hid hf3
      have HC3 := Lib.hid (show Chg (· = g) w1 w3 from (HC.out.drew).also hc3)
      have hcN : (c : Int) ≤ 512 := by omega
      have hc0 : (1 : Int) ≤ c := by omega
      have hkN : (k : Int) < N := by omega
      have hk0 : (1 : Int) ≤ k := by omega
      have hkc : k + c ≤ N := by omega
      have hcp1 : 1 ≤ c := by omega
      have hwr : IntKind.i64.wrap ((k : Int) + (c : Int)) = (k : Int) + (c : Int) := IntWalk.i64_in _ (by omega)
      clear hf3 hc3 hc
      go_wp2
      go_region
      all_goals
        go_wp2
        go_roundw
        case rel => exact ⟨k + c, by omega, hkc, by go_num, HF3, HC3⟩
        case measure => simp [RowKit.intOf]; omega
    · have hkl : k = N := by omega
      subst hkl
      go_wp2
      go_ret
      obtain ⟨cur, hgc, hsz, ht⟩ := HF.out
      refine ⟨g, rfl, ⟨rep_length st k, .inr ⟨g, k, cur, rfl, by rw [HGE.out]; exact Nat.le_refl _, hgc, Nat.le_refl _, by unfold maxLen; omega, hsz, ht⟩⟩, HB1.out.trans (HC.out.below HB1.out.size (fun i hi => by rw [hi, HGE.out]; exact Nat.le_refl _))⟩
end Go.Proofs.Ytddejcoagcaidaa
