/- The contracts of addressOf and value; arrays of eight bytes as values. Conditions stand in each theorem. -/
import Derived.Test.YtngaifokkkmmcaaT
import Derived.Laws.CopyOwn
namespace Go.Proofs.Ytngaifokkkmmcaa
open Go.RowKit
set_option linter.unusedVariables false
set_option maxHeartbeats 1000000
set_option maxRecDepth 100000
theorem u8_size : (Try.prog.info? 5).map (·.size) = some 1 := by kernel_rfl
/-- The cells of an address. -/
def av (x : Nat) : Array Value := (bv (putB x 8)).toArray
theorem av_size (x : Nat) : (av x).size = 8 := by simp [av, bv_length, putB_length]
theorem av_list (x : Nat) : (av x).toList = bv (putB x 8) := rfl
theorem av_one (x : Nat) : ∀ u ∈ (av x).toList, u.oneCell' = true := bv_one _
def loadA (p : Addr) : Sem Value := loadVar 121 p
def storeA (p : Addr) (v : Value) : Sem Unit := storeVar 121 p v
theorem loadA_eq (p : Addr) : loadVar 121 p = loadA p := rfl
theorem storeA_eq (p : Addr) (v : Value) : storeVar 121 p v = storeA p v := rfl
theorem info121 : (Try.prog.info? 121).map (fun i => (i.zero, i.size)) = some (some (.agg (bv (List.replicate 8 0)).toArray), 8) := by kernel_rfl
theorem sizeOf121 (w : World) : (sizeOf 121).run Try.prog w = .ok 8 w := by
  have := congrArg (Option.map Prod.snd) info121
  rw [Option.map_map] at this
  cases hq : Try.prog.info? 121 with
  | none => simp [hq] at this
  | some i =>
    have hs : i.size = 8 := by simpa [hq] using this
    simp [sizeOf, typeInfo, hq, hs]
theorem isAgg121 (w : World) : (isAgg 121).run Try.prog w = .ok true w := by
  unfold isAgg
  rw [Sem.run_bind, run_underlying Try.underlying121 w]
  simp
theorem loadA_run {W : World} {b : Nat} {t : TypeId} {c : Array Value} (h : W.heap[b]? = some (.cells c t (0, 0))) (hc : c.size = 8) : (loadA ⟨b, 0, none⟩).run Try.prog W = .ok (.agg c) W := by
  have hl : (loadCells ⟨b, 0, none⟩ c.toList.length).run Try.prog W = .ok c.toList.toArray W :=
    run_loadCells_list (P := Try.prog) W ⟨b, 0, none⟩ c.toList (fun j v hv => by
      rw [add_plain, Nat.zero_add, cell_of_row W b j c t (0, 0) h]
      rw [Array.getElem?_toList] at hv
      exact hv)
  rw [Array.length_toList, hc, Array.toArray_toList] at hl
  unfold loadA loadVar
  simp [Sem.run_bind, hl]
theorem storeA_run {W : World} {b : Nat} {t : TypeId} {c d : Array Value} (h : W.heap[b]? = some (.cells c t (0, 0))) (hc : c.size = 8) (hd : d.size = 8) (h1 : ∀ u ∈ d.toList, u.oneCell' = true) : (storeA ⟨b, 0, none⟩ (.agg d)).run Try.prog W = .ok () (W.setRow b d) := by
  have hs := run_storeCells_at Try.prog b 0 t d.toList 0 c W h (by rw [Array.length_toList, hd]; omega) h1
  have e : (c.toList.take (0 + 0) ++ d.toList ++ c.toList.drop (0 + 0 + d.toList.length)).toArray = d := by
    rw [Array.length_toList, hd, Nat.zero_add, Nat.zero_add, List.take_zero, List.nil_append, List.drop_eq_nil_of_le (by rw [Array.length_toList, hc]; omega), List.append_nil]
  rw [e] at hs
  unfold storeA storeVar
  simp only [Value.cells, hd, Sem.run_bind, sizeOf121, Result.andThen_ok]
  simpa using hs
theorem setRow_same {W : World} {b : Nat} {t : TypeId} {c : Array Value} (h : W.heap[b]? = some (.cells c t (0, 0))) : W.setRow b c = W := setRow_self W b c t (0, 0) h
/-- Put at eight bytes. -/
theorem Put8 (x : Nat) (hx : x < 18446744073709551616) (w : World) : Calls Try.prog 75 #[.int .u64 (x : Int), .int .i64 8] w fun e w' => (∃ g o c, e = .returned (.tuple #[.slice (some ⟨g, o, none⟩) 8 c, .int .i64 0]) ∧ g < w'.heap.size ∧ ∀ j u, (bv (putB x 8))[j]? = some u → w'.cell? ((⟨g, o, none⟩ : Addr).add j) = some u) ∧ Below w.heap.size w w' := by
  have hp := put_ok (v := (x : Int)) (n := 8) (by decide) (by decide) (by unfold onesZ; show (x : Int) ≤ 2 ^ 64 - 1; omega)
  refine (Put_any (x : Int) 8 w (by omega)).mono ?_
  rintro e w' ⟨v, rfl, hb, hbe⟩
  rw [hp.1, Int.toNat_natCast] at hb
  rw [hp.2]
  obtain ⟨A, c, rfl, hc, hr⟩ := hb
  have hl : (putB x (Int.toNat 8)).length = 8 := putB_length _ _
  obtain ⟨g, o, rfl, hg, hcell⟩ := hr (by rw [hl]; decide)
  rw [hl]
  refine ⟨⟨g, o, c, rfl, hg, fun j u hu => ?_⟩, hbe⟩
  have hj : j < 8 := by
    rcases Nat.lt_or_ge j 8 with h | h
    · exact h
    · rw [List.getElem?_eq_none (by rw [bv_length, putB_length]; exact h)] at hu; cases hu
  rw [add_plain, hcell j (by rw [hl]; exact hj)]
  rw [bv_get (by rw [putB_length]; exact hj)] at hu
  exact hu
/-- copy of eight bytes into an array. -/
theorem copy8 (W : World) (b g o c : Nat) (cur : Array Value) (l : List UInt8) (hl : l.length = 8) (hrow : W.heap[b]? = some (.cells cur 121 (0, 0))) (hs : cur.size = 8) (hc : ∀ j u, (bv l)[j]? = some u → W.cell? ((⟨g, o, none⟩ : Addr).add j) = some u) :
    (Builtin.copy_ #[25, 25] 3 #[.slice (some ⟨b, 0, none⟩) 8 8, .slice (some ⟨g, o, none⟩) 8 c]).run Try.prog W = .ok (.int .i64 8) (W.setRow b (bv l).toArray) := by
  have h := run_copy_row (P := Try.prog) W 25 25 3 5 b 0 8 8 ⟨g, o, none⟩ 8 c cur 121 (bv l) Try.underlying25 u8_size hrow (by rw [bv_length, hl]; rfl) hc (by rw [bv_length, hl, hs]; decide) (bv_one _)
  have e : (cur.toList.take 0 ++ bv l ++ cur.toList.drop (0 + (bv l).length)).toArray = (bv l).toArray := by
    rw [bv_length, hl, List.take_zero, List.nil_append, List.drop_eq_nil_of_le (by rw [Array.length_toList, hs]; decide), List.append_nil]
  rw [e] at h
  rw [h, bv_length, hl]
  rfl
section
attribute [local go_sem ↓ 100000] loadA_eq storeA_eq
theorem addressOf_any (x : Nat) (hx : x < 18446744073709551616) (w : World) : Calls Try.prog 73 #[.int .u64 (x : Int)] w fun e w' => e = .returned (.agg (av x)) ∧ Below w.heap.size w w' := by
  have HP := Lib.hid (Put8 x hx)
  clear hx
  go_enter Try.func73, Try.ntmps73
  go_wp2_with fail
  refine (HP.out _).mono ?_
  rintro e w1 ⟨⟨g, o, c, rfl, hg, hc⟩, hb⟩
  have hrow := (hb.block w.heap.size (by simp)).trans (heap_alloc_new w _)
  have hcp : (Builtin.copy_ #[25, 25] 3 #[.slice (some ⟨w.heap.size, 0, none⟩) 8 8, .slice (some ⟨g, o, none⟩) 8 c]).run Try.prog w1 = .ok (.int .i64 8) (w1.setRow w.heap.size (av x)) := copy8 w1 w.heap.size g o c _ (putB x 8) (putB_length _ _) hrow rfl hc
  have hB := ((below_alloc w (.cells #[.int .u8 0, .int .u8 0, .int .u8 0, .int .u8 0, .int .u8 0, .int .u8 0, .int .u8 0, .int .u8 0] 121)).trans (hb.mono (by simp))).trans (below_setRow (Below.refl w.heap.size w1) (Nat.le_refl _) (av x))
  have h2 := setRow_heap w1 w.heap.size _ (av x) 121 _ hrow
  obtain ⟨W2, hW2⟩ : ∃ W2, W2 = w1.setRow w.heap.size (av x) := ⟨_, rfl⟩
  rw [← hW2] at hcp h2 hB
  have hld := loadA_run h2 (av_size x)
  have hst := storeA_run h2 (av_size x) (av_size x) (av_one x)
  rw [setRow_same h2] at hst
  have HB := Lib.hid hB
  clear hb hc hrow hW2 h2 hB
  go_wp2
  refine bodyPost_ret (v := .agg (av x)) (by simp [results, Try.results73, asAddr, loadA_eq, hld]) rfl ⟨rfl, HB.out⟩
/-- The number that eight bytes are. -/
theorem getV_av (x : Nat) (hx : x < 18446744073709551616) : getV (putB x 8) = x := by
  rw [getV_putB]; exact Nat.mod_eq_of_lt hx
theorem byt_arr {W : World} {b : Nat} {l : List UInt8} {t : TypeId} (hl : l.length = 8) (h : W.heap[b]? = some (.cells (bv l).toArray t (0, 0))) : Byt W (.slice (some ⟨b, 0, none⟩) 8 8) l :=
  ⟨_, 8, by rw [hl], by omega, fun _ => ⟨b, 0, rfl, (Array.getElem?_eq_some_iff.1 h).1, fun j hj => by
    rw [Nat.zero_add, cell_of_row W b j _ t (0, 0) h, List.getElem?_toArray, bv_get hj]⟩⟩
theorem value_any (l : List UInt8) (hl : l.length = 8) (w : World) : Calls Try.prog 74 #[.agg (bv l).toArray] w fun e w' => e = .returned (.int .u64 (getV l : Int)) ∧ Below w.heap.size w w' := by
  have hG := Get_any (.slice (some ⟨w.heap.size, 0, none⟩) 8 8) l (w.alloc (.cells (bv l).toArray 121)) (byt_arr hl (heap_alloc_new w _)) (by omega)
  have e1 : getZ l = getV l := by unfold getZ; rw [if_neg (by omega)]
  have e2 : getE l = 0 := by unfold getE; rw [if_neg (by omega)]
  rw [e1, e2] at hG
  have HG := Lib.hid hG
  have hB := below_alloc w (.cells (bv l).toArray 121)
  have HB := Lib.hid hB
  have hsz : (bv l).toArray.size = 8 := by simp [bv_length, hl]
  clear hG e1 e2 hl hB
  generalize getV l = V at *
  generalize (bv l).toArray = A at *
  go_enter Try.func74, Try.ntmps74
  go_wp2_with ((go_at_call 76; with_reducible refine HG.out.mono ?_); rintro e w1 ⟨rfl, rfl⟩)
  go_ret
  exact ⟨rfl, HB.out⟩
end
end Go.Proofs.Ytngaifokkkmmcaa
