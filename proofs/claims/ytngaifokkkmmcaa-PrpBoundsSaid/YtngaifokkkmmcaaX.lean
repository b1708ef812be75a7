/- The contracts of the walk's methods: read, listed, page. Conditions stand in each theorem. -/
import Derived.Test.YtngaifokkkmmcaaU
namespace Go.Proofs.Ytngaifokkkmmcaa
open Go.RowKit
set_option linter.unusedVariables false
set_option maxHeartbeats 1000000
set_option maxRecDepth 100000
/-- A walk through a transfer's pages: the memory, and the walk's block g. -/
structure Wm (W : World) (base b d cap : Nat) (m : Mm) (g fs sc ct at' : Nat) : Prop where
  mem : Mem W base b d cap m
  wk : W.heap[g]? = some (.cells #[.pointer (some ⟨b, 0, none⟩), .int .u64 (fs : Int), .int .u64 (sc : Int), .int .i64 (ct : Int), .int .u64 (at' : Int)] 92 (0, 0))
  ne : g ≠ b ∧ g ≠ d
section
variable {W W' : World} {base b d cap : Nat} {m : Mm} {g fs sc ct at' : Nat}
theorem Wm.lt (h : Wm W base b d cap m g fs sc ct at') : g < W.heap.size := (Array.getElem?_eq_some_iff.1 h.wk).1
theorem Wm.below (h : Wm W base b d cap m g fs sc ct at') (hb : Below W.heap.size W W') : Wm W' base b d cap m g fs sc ct at' := ⟨h.mem.below hb, (hb.block g h.lt).trans h.wk, h.ne⟩
theorem Wm.chg {S : Nat → Prop} (h : Wm W base b d cap m g fs sc ct at') (hc : Chg S W W') (h1 : ¬ S b) (h2 : ¬ S d) (h3 : ¬ S g) : Wm W' base b d cap m g fs sc ct at' := ⟨h.mem.chg hc h1 h2, (hc.block g h.lt h3).trans h.wk, h.ne⟩
theorem Wm.cells (h : Wm W base b d cap m g fs sc ct at') : W.cell? ⟨g, 0, none⟩ = some (.pointer (some ⟨b, 0, none⟩)) ∧ W.cell? ⟨g, 1, none⟩ = some (.int .u64 (fs : Int)) ∧ W.cell? ⟨g, 2, none⟩ = some (.int .u64 (sc : Int)) ∧ W.cell? ⟨g, 3, none⟩ = some (.int .i64 (ct : Int)) ∧ W.cell? ⟨g, 4, none⟩ = some (.int .u64 (at' : Int)) := by
  have e := fun k => cell_of_row W g k _ 92 (0, 0) h.wk
  exact ⟨e 0, e 1, e 2, e 3, e 4⟩
theorem Wm.free (h : Wm W base b d cap m g fs sc ct at') (k : Nat) : W.frozen? ⟨g, k, none⟩ = false := frozen_of_row W g k _ 92 h.wk
theorem Wm.set (h : Wm W base b d cap m g fs sc ct at') (x : Nat) : Wm (W.setCell ⟨g, 4, none⟩ (.int .u64 (x : Int))) base b d cap m g fs sc ct x :=
  ⟨h.mem.chg ((Chg.refl (fun k => k = g) W).setCell (p := ⟨g, 4, none⟩) rfl _) (fun e => h.ne.1 e.symm) (fun e => h.ne.2 e.symm), heap_setCell_same W g 4 _ 92 _ h.wk, h.ne⟩
end
/-- The number at eight bytes of a memory. -/
def at8 (m : Mm) (a : Nat) : Nat := getV ((m.B.drop a).take 8)
theorem at8_lt (m : Mm) (a : Nat) : at8 m a < 18446744073709551616 := by
  have h := getV_lt ((m.B.drop a).take 8)
  have h2 : ((m.B.drop a).take 8).length ≤ 8 := by simp; omega
  have h3 : (256 : Nat) ^ ((m.B.drop a).take 8).length ≤ 256 ^ 8 := Nat.pow_le_pow_right (by decide) h2
  unfold at8
  have h4 : (256 : Nat) ^ 8 = 18446744073709551616 := by decide
  omega
theorem Mm.chk8 {m : Mm} {a : Nat} (h : ¬ a + 8 ≤ m.B.length) : m.chk a 8 = 3 := by
  unfold Mm.chk
  rw [if_neg (by decide), if_neg (by omega)]
section
attribute [local go_sem ↓ 100000] loadA_eq storeA_eq
variable {W W' : World} {base b d cap : Nat} {m : Mm} {g fs sc ct at' : Nat}
theorem read_yes (h : Wm W base b d cap m g fs sc ct at') (hG : Gm m) (ha : at' + 8 ≤ m.B.length) :
    Calls Try.prog 72 #[.pointer (some ⟨g, 0, none⟩)] W fun e w' => e = .returned (.int .u64 (at8 m at' : Int)) ∧ Below W.heap.size W w' := by
  have hrd := fun W' (hb : Below W.heap.size W W') => Read_any (h.below hb).mem hG at' 8 (by have := hG.max; omega) (by decide)
  have hz : m.chk at' 8 = 0 := Mm.chk_of (n := 8) ha
  have hl : m.rd at' 8 = (m.B.drop at').take 8 := by unfold Mm.rd; rw [if_pos hz]; rfl
  have hll : ((m.B.drop at').take 8).length = 8 := by simp; omega
  have HRd : Hid (∀ W', Below W.heap.size W W' → Calls Try.prog 17 #[.pointer (some ⟨b, 0, none⟩), .int .u64 (at' : Int), .int .i64 8] W' fun e w' => (∃ q c, e = .returned (.tuple #[.slice (some ⟨q, 0, none⟩) 8 c, .int .i64 0]) ∧ (∀ j u, (bv ((m.B.drop at').take 8))[j]? = some u → w'.cell? ((⟨q, 0, none⟩ : Addr).add j) = some u)) ∧ Below W'.heap.size W' w') := Lib.hid fun W' hb => (hrd W' hb).mono fun e w' ⟨⟨A, c, he, ho⟩, hb'⟩ => by
    rw [hz, hl, hll] at he
    rw [hl, hll] at ho
    obtain ⟨q, c4, hgf, -, -⟩ := ho.form (by decide)
    simp only [Value.slice.injEq, true_and] at hgf
    obtain ⟨rfl, rfl⟩ := hgf
    exact ⟨⟨q, c, he, fun j u hu => ho.cells (g := q) rfl j u hu⟩, hb'⟩
  have hv := fun w => value_any ((m.B.drop at').take 8) hll w
  have HV : Hid (∀ w, Calls Try.prog 74 #[.agg (bv ((m.B.drop at').take 8)).toArray] w fun e w' => e = .returned (.int .u64 (at8 m at' : Int)) ∧ Below w.heap.size w w') := Lib.hid hv
  have HO := Lib.hid requireOK_yes
  obtain ⟨l, hle⟩ : ∃ l, l = (m.B.drop at').take 8 := ⟨_, rfl⟩
  rw [← hle] at HRd HV hll
  have HLL := Lib.hid hll
  obtain ⟨c0, -, -, -, c4⟩ := h.cells
  generalize at8 m at' = X at *
  clear hrd hz hl hll hv hle h hG ha
  go_enter Try.func72, Try.ntmps72
  go_wp2
  have HRD2 := Lib.hid (HRd.out W.drew (Below.refl _ _).drew)
  go_region_held3 (fun w' => w'.cell? ⟨g, 0, none⟩ = some (.pointer (some ⟨b, 0, none⟩)) ∧ w'.cell? ⟨g, 4, none⟩ = some (.int .u64 (at' : Int))) (first | (refine ⟨?_, ?_⟩ <;> assumption)) (first
    | ((go_at_call 17; with_reducible refine HRD2.out.mono ?_); rintro e w1 ⟨⟨q, c, rfl, hc⟩, hb⟩; have HB1 := Lib.hid ((Below.refl W.heap.size W).drew.trans hb); have HC1 := Lib.hid hc; have e0 := (HB1.out.cell (p := ⟨g, 0, none⟩) (World.block_lt_of_cell? W _ c0)).trans c0; have e4 := (HB1.out.cell (p := ⟨g, 4, none⟩) (World.block_lt_of_cell? W _ c4)).trans c4; clear hc hb))
  go_wp2_with fail
  refine (HO.out _).mono ?_
  rintro e w2 ⟨rfl, hb⟩
  have HB2 := Lib.hid (HB1.out.trans (hb.mono HB1.out.size))
  have hc2 : ∀ j u, (bv l)[j]? = some u → (w2.alloc (.cells #[.int .u8 0, .int .u8 0, .int .u8 0, .int .u8 0, .int .u8 0, .int .u8 0, .int .u8 0, .int .u8 0] 121)).cell? ((⟨q, 0, none⟩ : Addr).add j) = some u := fun j u hu => by
    have h1 := HC1.out j u hu
    have hq : q < w1.heap.size := by
      have := World.block_lt_of_cell? w1 _ h1
      rwa [add_plain] at this
    rw [add_plain] at h1 ⊢
    exact (((hb.trans ((below_alloc w2 _).mono hb.size)).cell (p := ⟨q, 0 + j, none⟩) hq)).trans h1
  have hcp := copy8 (w2.alloc (.cells #[.int .u8 0, .int .u8 0, .int .u8 0, .int .u8 0, .int .u8 0, .int .u8 0, .int .u8 0, .int .u8 0] 121)) w2.heap.size q 0 c _ l HLL.out (heap_alloc_new w2 _) rfl hc2
  have h2 := setRow_heap (w2.alloc (.cells #[.int .u8 0, .int .u8 0, .int .u8 0, .int .u8 0, .int .u8 0, .int .u8 0, .int .u8 0, .int .u8 0] 121)) w2.heap.size _ (bv l).toArray 121 _ (heap_alloc_new w2 _)
  have hB := below_setRow ((below_alloc w2 (.cells #[.int .u8 0, .int .u8 0, .int .u8 0, .int .u8 0, .int .u8 0, .int .u8 0, .int .u8 0, .int .u8 0] 121))) (Nat.le_refl _) (bv l).toArray
  have hld := loadA_run h2 (by simp [bv_length, HLL.out])
  have HB3 := Lib.hid (HB2.out.trans (hB.mono HB2.out.size))
  obtain ⟨W3, hW3⟩ : ∃ W3, W3 = (w2.alloc (.cells #[.int .u8 0, .int .u8 0, .int .u8 0, .int .u8 0, .int .u8 0, .int .u8 0, .int .u8 0, .int .u8 0] 121)).setRow w2.heap.size (bv l).toArray := ⟨_, rfl⟩
  rw [← hW3] at hcp hld HB3
  clear hb hc2 h2 hB hW3
  generalize (bv l).toArray = A at *
  go_wp2_with ((go_at_call 74; with_reducible refine (HV.out _).mono ?_); rintro e w4 ⟨rfl, hb⟩; have HB4 := Lib.hid hb; clear hb)
  go_ret
  exact ⟨rfl, HB3.out.trans (HB4.out.mono HB3.out.size)⟩
theorem read_no (h : Wm W base b d cap m g fs sc ct at') (hG : Gm m) (ha : ¬ at' + 8 ≤ m.B.length) (ha2 : at' < 18446744073709551616) :
    Calls Try.prog 72 #[.pointer (some ⟨g, 0, none⟩)] W fun e w' => e = Pan 3 ∧ Below W.heap.size W w' := by
  have hrd := fun W' (hb : Below W.heap.size W W') => Read_any (h.below hb).mem hG at' 8 ha2 (by decide)
  have hz : m.chk at' 8 = 3 := Mm.chk8 ha
  have hl : m.rd at' 8 = [] := by unfold Mm.rd; rw [if_neg (by rw [hz]; decide)]
  have HRd : Hid (∀ W', Below W.heap.size W W' → Calls Try.prog 17 #[.pointer (some ⟨b, 0, none⟩), .int .u64 (at' : Int), .int .i64 8] W' fun e w' => (∃ A c, e = .returned (.tuple #[.slice A 0 c, .int .i64 3])) ∧ Below W'.heap.size W' w') := Lib.hid fun W' hb => (hrd W' hb).mono fun e w' ⟨⟨A, c, he, ho⟩, hb'⟩ => by
    rw [hz, hl] at he
    exact ⟨⟨A, c, he⟩, hb'⟩
  have HO := Lib.hid (fun w => requireOK_no 3 w (by decide))
  obtain ⟨c0, -, -, -, c4⟩ := h.cells
  clear hrd hz hl h hG ha ha2
  go_enter Try.func72, Try.ntmps72
  go_wp2
  have HRD2 := Lib.hid (HRd.out W.drew (Below.refl _ _).drew)
  go_region_held3 (fun w' => w'.cell? ⟨g, 0, none⟩ = some (.pointer (some ⟨b, 0, none⟩)) ∧ w'.cell? ⟨g, 4, none⟩ = some (.int .u64 (at' : Int))) (first | (refine ⟨?_, ?_⟩ <;> assumption)) (first
    | ((go_at_call 17; with_reducible refine HRD2.out.mono ?_); rintro e w1 ⟨⟨A, c, rfl⟩, hb⟩; have HB1 := Lib.hid ((Below.refl W.heap.size W).drew.trans hb); have e0 := (HB1.out.cell (p := ⟨g, 0, none⟩) (World.block_lt_of_cell? W _ c0)).trans c0; have e4 := (HB1.out.cell (p := ⟨g, 4, none⟩) (World.block_lt_of_cell? W _ c4)).trans c4; clear hb))
  go_wp2_with fail
  refine (HO.out _).mono ?_
  rintro e w2 ⟨rfl, hb⟩
  exact ⟨rfl, rfl, HB1.out.trans (hb.mono HB1.out.size)⟩
end
end Go.Proofs.Ytngaifokkkmmcaa
