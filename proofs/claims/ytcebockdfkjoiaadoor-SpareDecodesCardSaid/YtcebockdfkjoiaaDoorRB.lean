/- The contracts of the reference's Raw and Encode. Conditions stand in each theorem. -/
import Derived.Test.YtcebockdfkjoiaaDoorRA
import Derived.Test.YtcebockdfkjoiaaDoorX
import Derived.Laws.CopyOwn
import Derived.Laws.MakeOwn
namespace Go.Proofs.YtcebockdfkjoiaaDoor
open Go.RowKit
set_option linter.unusedVariables false
set_option maxHeartbeats 4000000
set_option maxRecDepth 100000

/-- The first five bytes. -/
def top (s : Sp) : List UInt8 := [67, 70, 84, 76, UInt8.ofNat s.kind]
theorem raw_bytes (s : Sp) : patch (patch (patch (patch (patch (top s ++ List.replicate 59 0) 8 s.seq 8) 16 s.prev 8) 24 s.sector.toNat 4) 28 s.index.toNat 4) 32 s.length.toNat 4 = s.body ++ List.replicate 4 0 := by
  have p1 := patch_tail (top s) 3 s.seq 8 48
  have p2 := patch_tail (top s ++ List.replicate 3 0 ++ putB s.seq 8) 0 s.prev 8 40
  have p3 := patch_tail (top s ++ List.replicate 3 0 ++ putB s.seq 8 ++ List.replicate 0 0 ++ putB s.prev 8) 0 s.sector.toNat 4 36
  have p4 := patch_tail (top s ++ List.replicate 3 0 ++ putB s.seq 8 ++ List.replicate 0 0 ++ putB s.prev 8 ++ List.replicate 0 0 ++ putB s.sector.toNat 4) 0 s.index.toNat 4 32
  have p5 := patch_tail (top s ++ List.replicate 3 0 ++ putB s.seq 8 ++ List.replicate 0 0 ++ putB s.prev 8 ++ List.replicate 0 0 ++ putB s.sector.toNat 4 ++ List.replicate 0 0 ++ putB s.index.toNat 4) 0 s.length.toNat 4 28
  simp only [List.length_append, putB_length, List.length_replicate, Nat.reduceAdd, Nat.add_zero] at p1 p2 p3 p4 p5
  have ht : (top s).length = 5 := rfl
  rw [ht] at p1 p2 p3 p4 p5
  simp only [Nat.reduceAdd] at p1 p2 p3 p4 p5
  rw [p1, p2, p3, p4, p5]
  have e1 : top s = putB 1280591427 4 ++ putB s.kind 1 := by
    have : putB s.kind 1 = [UInt8.ofNat s.kind] := by simp [putB, List.range_succ]
    rw [this]
    have h4 : putB 1280591427 4 = [67, 70, 84, 76] := by decide
    rw [h4]; rfl
  have e2 : List.replicate 3 (0 : UInt8) = putB 0 3 := by decide
  have e3 : List.replicate 28 (0 : UInt8) = List.replicate 24 0 ++ List.replicate 4 0 := by rw [List.replicate_append_replicate]
  rw [e1, e2, e3]
  unfold Sp.body
  simp only [List.replicate_zero, List.append_nil, List.append_assoc]
theorem rowAt_cells {w : World} {g : Nat} {l : List UInt8} {t : TypeId} (h : w.heap[g]? = some (.cells (bv l).toArray t (0, 0))) : RowAt w g l := fun j hj =>
  ⟨by rw [cell_of_row w g j _ t (0, 0) h, List.getElem?_toArray, bv_get hj], frozen_of_row w g j _ t h⟩
theorem made_64 (W : World) : (Instr.makeSlice 26 (.int .i64 64) (.int .i64 64)).run Tryd.prog W = .ok (.slice (some ⟨W.heap.size, 0, none⟩) 64 64) (W.alloc (.cells (bv (List.replicate 64 0)).toArray 5)) := by
  obtain ⟨i0, hi0, hz0, hz1, hz2⟩ := info_parts u8_info
  have h := run_makeSlice (P := Tryd.prog) (w := W) 26 5 i0 (.int .u8 0) Tryd.underlying26 hi0 hz0 .i64 .i64 64 64 (by decide) (by decide) (by rw [hz1]; decide) (by rw [hz2]; decide) (by decide)
  rw [hz1] at h
  have e : madeCells (Value.int .u8 0).cells ((64 : Int).toNat * 1) = (bv (List.replicate 64 0)).toArray := by kernel_rfl
  rw [e] at h
  exact h
theorem u8_sz : (Tryd.prog.info? 5).map (·.size) = some 1 := by kernel_rfl
theorem copy_top (s : Sp) (W : World) (hk : s.kind < 256) : ∃ r W2, (Builtin.copy_ #[26, 26] 3 #[.slice (some ⟨W.heap.size, 0, none⟩) 64 64, .slice (some ⟨W.heap.size + 1, 0, none⟩) 5 5]).run Tryd.prog ((W.alloc (.cells (bv (List.replicate 64 0)).toArray 5)).alloc (.cells #[.int .u8 67, .int .u8 70, .int .u8 84, .int .u8 76, .int .u8 (s.kind : Int)] 5)) = .ok r W2 ∧
    RowAt W2 W.heap.size (top s ++ List.replicate 59 0) ∧ Below W.heap.size W W2 := by
  have ht : #[Value.int .u8 67, .int .u8 70, .int .u8 84, .int .u8 76, .int .u8 (s.kind : Int)] = (bv (top s)).toArray := by
    have : (UInt8.ofNat s.kind).toNat = s.kind := by rw [UInt8.toNat_ofNat']; omega
    simp [bv, top]; omega
  rw [ht]
  have hg : ((W.alloc (.cells (bv (List.replicate 64 0)).toArray 5)).alloc (.cells (bv (top s)).toArray 5)).heap[W.heap.size]? = some (.cells (bv (List.replicate 64 0)).toArray 5 (0, 0)) := (Below.heap_alloc _ _ _ (by simp)).trans (heap_alloc_new W _)
  have hs : ((W.alloc (.cells (bv (List.replicate 64 0)).toArray 5)).alloc (.cells (bv (top s)).toArray 5)).heap[W.heap.size + 1]? = some (.cells (bv (top s)).toArray 5 (0, 0)) := by
    have := heap_alloc_new (W.alloc (.cells (bv (List.replicate 64 0)).toArray 5)) (.cells (bv (top s)).toArray 5)
    rwa [World.size_alloc] at this
  have hrun := run_copy_row (P := Tryd.prog) _ 26 26 3 5 W.heap.size 0 64 64 ⟨W.heap.size + 1, 0, none⟩ 5 5 _ 5 (bv (top s)) Tryd.underlying26 u8_sz hg (by rw [bv_length]; rfl)
    (fun j v hj => by rw [add_plain, Nat.zero_add, cell_of_row _ _ j _ 5 (0, 0) hs, List.getElem?_toArray]; exact hj) (by simp [bv, top]) (bv_one _)
  refine ⟨_, _, hrun, rowAt_cells (t := 5) ?_, ?_⟩
  · rw [setRow_heap _ _ _ _ 5 _ hg]
    congr 3
  · exact ((((Below.refl _ _).alloc (Nat.le_refl _) _).alloc (by simp) _).trans ⟨rfl, rfl, rfl, by simp [World.setRow], fun k hk => setRow_other _ _ k _ (by omega)⟩)
/-- The state between two calls of put: the bytes lie in the block g, the description behind w. -/
structure RS (w W : World) (g : Nat) (L : List UInt8) (sp : Array Value) : Prop where
  row : RowAt W g L
  lt : g < W.heap.size
  sp : W.heap[w.heap.size]? = some (.cells sp 25 (0, 0))
  below : Below w.heap.size w W
  ge : w.heap.size < g
theorem RS.step {w W W' : World} {g : Nat} {L L' : List UInt8} {sp : Array Value} (h : RS w W g L sp) (hr : RowAt W' g L') (hc : Chg (· = g) W W') : RS w W' g L' sp := by
  have hge := h.ge
  refine ⟨hr, Nat.lt_of_lt_of_le h.lt hc.size, (hc.block _ (Array.getElem?_eq_some_iff.1 h.sp).1 (by omega)).trans h.sp, h.below.trans (hc.below h.below.size ?_), hge⟩
  rintro i rfl; omega
theorem rput {w W : World} {g : Nat} {L : List UInt8} {sp : Array Value} (h : RS w W g L sp) (hL : L.length = 64) (a V n : Nat) (A N Vz : Int) (hA : A = a) (hN : N = n) (hVz : Vz = V) (hV : V < 18446744073709551616) (hn : n ≤ 8) (ha : a + n ≤ 64) :
    Calls Tryd.prog 25 #[.slice (some ⟨g, 0, none⟩) 64 64, .int .i64 A, .int .i64 N, .int .u64 Vz] W fun e W' => e = .returned (.tuple #[]) ∧ RS w W' g (patch L a V n) sp ∧ (patch L a V n).length = 64 := by
  subst hA; subst hVz
  have hp := put_any g 64 L a V n N W hN h.row h.lt hV hn (by omega) (by omega)
  rw [hL] at hp
  exact hp.mono fun e W' ⟨h1, h2, h3⟩ => ⟨h1, h.step h2 h3, by rw [patch_length L a V n (by omega), hL]⟩
theorem Raw_any (s : Sp) (v : Value) (data : List UInt8) (w : World) (hB : Byt w v data) (hn : data.length ≤ 300) (hw : s.wf) (hok : s.ok) :
    Calls Tryd.prog 22 #[s.val, v] w fun e w' => (∃ r, e = .returned r ∧ Byt w' r (s.enc data) ∧ ∀ b, r.ownBlock = some b → w.heap.size ≤ b) ∧ Below w.heap.size w w' := by
  have hs : 0 ≤ s.sector ∧ s.sector ≤ 4294967294 := by rcases hok.2 with h | h <;> omega
  have g1 := hs.1; have g2 := hs.2; have g3 := hok.1.2.2.2.1; have g4 : s.index ≤ 65535 := by have := hok.1; omega
  have g5 : 0 ≤ s.length := by have := hok.1; omega
  have g6 := hok.1.2.2.1
  have g7 := hw.kind
  have HB := Lib.hid hB; have Hn := Lib.hid hn; have Hq := Lib.hid hw.seq; have Hp := Lib.hid hw.prev
  clear hs hok hw hn
  have hmk := made_64
  have b0 := below_alloc w (.cells #[.int .u8 (s.kind : Int), .int .i64 s.sector, .int .u64 (s.seq : Int), .int .u64 (s.prev : Int), .int .i64 s.index, .int .i64 s.length] 25)
  obtain ⟨rc, W2, hcp, hrow, hbel⟩ := copy_top s (w.alloc (.cells #[.int .u8 (s.kind : Int), .int .i64 s.sector, .int .u64 (s.seq : Int), .int .u64 (s.prev : Int), .int .i64 s.index, .int .i64 s.length] 25)) g7
  rw [World.size_alloc] at hrow hcp
  have hlt2 : w.heap.size + 1 < W2.heap.size := by
    have h1 := (hrow 0 (by simp [top])).1
    exact World.block_lt_of_cell? W2 _ h1
  have S2 := Lib.hid (show RS w W2 (w.heap.size + 1) (top s ++ List.replicate 59 0) #[.int .u8 (s.kind : Int), .int .i64 s.sector, .int .u64 (s.seq : Int), .int .u64 (s.prev : Int), .int .i64 s.index, .int .i64 s.length] from ⟨hrow, hlt2, (hbel.block _ (by simp)).trans (heap_alloc_new w _), b0.trans (hbel.mono (by simp)), by omega⟩)
  have L2 := Lib.hid (show (top s ++ List.replicate 59 0).length = 64 by simp [top])
  obtain ⟨C, hC⟩ : ∃ C, C = (bv (List.replicate 64 0)).toArray := ⟨_, rfl⟩
  rw [← hC] at hmk hcp
  clear hC hrow hbel hlt2 b0
  obtain ⟨A0, c0, rfl, -, -⟩ := hB
  unfold Sp.val
  go_enter Tryd.func22, Tryd.ntmps22
  have kq : W2.cell? ⟨w.heap.size, 2, none⟩ = some (.int .u64 (s.seq : Int)) := cell_of_row _ _ 2 _ _ _ S2.out.sp
  go_wp2_with fail
  refine (rput S2.out L2.out 8 (s.seq) 8 8 8 (s.seq : Int) rfl rfl (by omega) (by exact Hq.out) (by omega) (by omega)).mono ?_
  rintro e W3 ⟨rfl, hS, hL⟩
  have S3 := Lib.hid hS; have L3 := Lib.hid hL; clear hS hL S2 L2 kq
  have kp : W3.cell? ⟨w.heap.size, 3, none⟩ = some (.int .u64 (s.prev : Int)) := cell_of_row _ _ 3 _ _ _ S3.out.sp
  go_wp2_with fail
  refine (rput S3.out L3.out 16 (s.prev) 8 16 8 (s.prev : Int) rfl rfl (by omega) (by exact Hp.out) (by omega) (by omega)).mono ?_
  rintro e W4 ⟨rfl, hS, hL⟩
  have S4 := Lib.hid hS; have L4 := Lib.hid hL; clear hS hL S3 L3 kp
  have kx : W4.cell? ⟨w.heap.size, 1, none⟩ = some (.int .i64 s.sector) := cell_of_row _ _ 1 _ _ _ S4.out.sp
  go_wp2_with fail
  refine (rput S4.out L4.out 24 (s.sector.toNat) 4 24 4 s.sector rfl rfl (by omega) (by omega) (by omega) (by omega)).mono ?_
  rintro e W5 ⟨rfl, hS, hL⟩
  have S5 := Lib.hid hS; have L5 := Lib.hid hL; clear hS hL S4 L4 kx
  have ki : W5.cell? ⟨w.heap.size, 4, none⟩ = some (.int .i64 s.index) := cell_of_row _ _ 4 _ _ _ S5.out.sp
  go_wp2_with fail
  refine (rput S5.out L5.out 28 (s.index.toNat) 4 28 4 s.index rfl rfl (by omega) (by omega) (by omega) (by omega)).mono ?_
  rintro e W6 ⟨rfl, hS, hL⟩
  have S6 := Lib.hid hS; have L6 := Lib.hid hL; clear hS hL S5 L5 ki
  have kl : W6.cell? ⟨w.heap.size, 5, none⟩ = some (.int .i64 s.length) := cell_of_row _ _ 5 _ _ _ S6.out.sp
  go_wp2_with fail
  refine (rput S6.out L6.out 32 (s.length.toNat) 4 32 4 s.length rfl rfl (by omega) (by omega) (by omega) (by omega)).mono ?_
  rintro e W7 ⟨rfl, hS, hL⟩
  have S7 := Lib.hid hS; have L7 := Lib.hid hL; clear hS hL S6 L6 kl
  go_wp2_with fail
  refine (Seal_any (w.heap.size + 1) 64 _ data _ W7 S7.out.row S7.out.lt L7.out (by omega) (HB.out.below S7.out.below) Hn.out).mono ?_
  rintro e W8 ⟨rfl, hrow8, hch⟩
  have hen : (patch (patch (patch (patch (patch (top s ++ List.replicate 59 0) 8 s.seq 8) 16 s.prev 8) 24 s.sector.toNat 4) 28 s.index.toNat 4) 32 s.length.toNat 4).take 60 = s.body := by
    rw [raw_bytes, List.take_left' s.body_length]
  rw [hen] at hrow8
  have S8 := Lib.hid (S7.out.step hrow8 hch)
  clear hrow8 hch hen S7 L7
  go_wp2
  go_ret
  have hl := s.enc_length data
  have hb := S8.out.row.byt S8.out.lt (c := 64) (by show (s.enc data).length ≤ 64; omega)
  refine ⟨⟨_, rfl, ?_, ?_⟩, S8.out.below⟩
  · have hb' : Byt W8 (.slice (some ⟨w.heap.size + 1, 0, none⟩) (s.enc data).length 64) (s.enc data) := hb
    rwa [hl] at hb'
  · intro b hb; simp [Value.ownBlock] at hb; omega
theorem rEncode_any (s : Sp) (v : Value) (data : List UInt8) (w : World) (hB : Byt w v data) (hn : data.length ≤ 300) (hw : s.wf) : Calls Tryd.prog 10 #[s.val, v] w (EncPost w s data) := by
  obtain ⟨E, hE⟩ : ∃ E : Int, E = if s.ok then 0 else 2 := ⟨_, rfl⟩
  have b0 := below_alloc w (.cells #[.int .u8 (s.kind : Int), .int .i64 s.sector, .int .u64 (s.seq : Int), .int .u64 (s.prev : Int), .int .i64 s.index, .int .i64 s.length] 25)
  have HV := Lib.hid (rValid_any s hw (w.alloc (.cells #[.int .u8 (s.kind : Int), .int .i64 s.sector, .int .u64 (s.seq : Int), .int .u64 (s.prev : Int), .int .i64 s.index, .int .i64 s.length] 25)))
  have HB0 := Lib.hid b0; have HB := Lib.hid hB; have Hw := Lib.hid hw; clear hw b0
  by_cases hok : s.ok
  · have Hfin : Hid (∀ w' r, Below w.heap.size w w' → Byt w' r (s.enc data) → (∀ b, r.ownBlock = some b → w.heap.size ≤ b) → EncPost w s data (.returned (.tuple #[r, .int .i64 0])) w') := Lib.hid fun w' r hb h1 h2 =>
      ⟨⟨r, by rw [if_pos hok], by rw [if_pos hok]; exact h1, h2⟩, hb⟩
    rw [decide_eq_true hok] at HV
    have Hok := Lib.hid hok; clear hok hE
    have Hval := Lib.hid (show s.val = .agg #[.int .u8 (s.kind : Int), .int .i64 s.sector, .int .u64 (s.seq : Int), .int .u64 (s.prev : Int), .int .i64 s.index, .int .i64 s.length] from rfl)
    generalize EncPost w s data = R at *
    rw [Hval.out] at HV ⊢
    go_enter Tryd.func10, Tryd.ntmps10
    go_wp2_with fail
    refine HV.out.mono ?_
    rintro e W1 ⟨rfl, hb⟩
    have Hb := Lib.hid (below_step HB0.out hb)
    have hr := row_later (heap_alloc_new w (.cells #[.int .u8 (s.kind : Int), .int .i64 s.sector, .int .u64 (s.seq : Int), .int .u64 (s.prev : Int), .int .i64 s.index, .int .i64 s.length] 25)) hb
    have c0 : W1.cell? ⟨w.heap.size, 0, none⟩ = some (.int .u8 (s.kind : Int)) := cell_of_row _ _ 0 _ _ _ hr
    have c1 : W1.cell? ⟨w.heap.size, 1, none⟩ = some (.int .i64 s.sector) := cell_of_row _ _ 1 _ _ _ hr
    have c2 : W1.cell? ⟨w.heap.size, 2, none⟩ = some (.int .u64 (s.seq : Int)) := cell_of_row _ _ 2 _ _ _ hr
    have c3 : W1.cell? ⟨w.heap.size, 3, none⟩ = some (.int .u64 (s.prev : Int)) := cell_of_row _ _ 3 _ _ _ hr
    have c4 : W1.cell? ⟨w.heap.size, 4, none⟩ = some (.int .i64 s.index) := cell_of_row _ _ 4 _ _ _ hr
    have c5 : W1.cell? ⟨w.heap.size, 5, none⟩ = some (.int .i64 s.length) := cell_of_row _ _ 5 _ _ _ hr
    clear hb hr HV
    obtain ⟨A0, c0', hv, -, -⟩ := hB
    subst hv
    go_wp2_with fail
    refine (show Calls Tryd.prog 22 #[.agg #[.int .u8 (s.kind : Int), .int .i64 s.sector, .int .u64 (s.seq : Int), .int .u64 (s.prev : Int), .int .i64 s.index, .int .i64 s.length], _] W1 _ from Raw_any s _ data W1 (HB.out.below Hb.out) hn Hw.out Hok.out).mono ?_
    rintro e W2 ⟨⟨r, rfl, h1, h2⟩, h3⟩
    have H1 := Lib.hid h1; have H2 := Lib.hid (fun b hb => Nat.le_trans Hb.out.size (h2 b hb)); have H3 := Lib.hid (below_step Hb.out h3); clear h1 h2 h3
    go_wp2
    exact Hfin.out _ _ H3.out H1.out H2.out
  · have Hfin : Hid (∀ w', Below w.heap.size w w' → EncPost w s data (.returned (.tuple #[.slice none 0 0, .int .i64 2])) w') := Lib.hid fun w' hb =>
      ⟨⟨_, by rw [if_neg hok], by rw [if_neg hok]; exact Byt.none w', fun b hb => by simp [Value.ownBlock] at hb⟩, hb⟩
    rw [decide_eq_false hok] at HV
    clear hok hE
    have Hval := Lib.hid (show s.val = .agg #[.int .u8 (s.kind : Int), .int .i64 s.sector, .int .u64 (s.seq : Int), .int .u64 (s.prev : Int), .int .i64 s.index, .int .i64 s.length] from rfl)
    generalize EncPost w s data = R at *
    rw [Hval.out] at HV ⊢
    obtain ⟨A0, c0', hv, -, -⟩ := hB
    subst hv
    go_enter Tryd.func10, Tryd.ntmps10
    go_wp2_with fail
    refine HV.out.mono ?_
    rintro e W1 ⟨rfl, hb⟩
    have Hb := Lib.hid (below_step HB0.out hb); clear hb
    go_wp2
    exact Hfin.out _ Hb.out
end Go.Proofs.YtcebockdfkjoiaaDoor
