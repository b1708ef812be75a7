/- The walk of SpareHolds where the description is valid. Condition: the table lies as the program's text lays it. -/
import Derived.Test.YtcebockdfkjoiaaDoorV
import Derived.ChangeKeysEq
namespace Go.Proofs.YtcebockdfkjoiaaDoor
open Go.RowKit
set_option linter.unusedVariables false
set_option maxHeartbeats 8000000
set_option maxRecDepth 100000

/-- The state between two rounds: the page of which k bytes were changed. -/
structure HS (w wr : World) (g : Nat) (A xs cs B : List UInt8) (k : Nat) (sp ch : Array Value) : Prop where
  below : Below w.heap.size w wr
  row : RowAt wr g (A ++ mix xs cs k ++ B)
  lt : g < wr.heap.size
  ge : w.heap.size + 2 ≤ g
  sp : wr.heap[w.heap.size]? = some (.cells sp 25 (0, 0))
  ch : wr.heap[w.heap.size + 1]? = some (.cells ch 47 (0, 0))
/-- w' is w with blocks more. -/
def Bel (w w' : World) : Prop := Below w.heap.size w w'
theorem Bel.refl (w : World) : Bel w w := Below.refl _ _
theorem Bel.drew {w w' : World} (h : Bel w w') : Bel w w'.drew := Below.drew h
theorem Bel.step {w w1 w2 : World} (h : Bel w w1) (h2 : Below w1.heap.size w1 w2) : Bel w w2 := Below.trans h (h2.mono (Below.size h))
theorem Bel.alloc {w w' : World} (h : Bel w w') (o : Obj) : Bel w (w'.alloc o) := Bel.step h (below_alloc w' o)
theorem zrow_later {wr w5 : World} (hb : Below ((wr.alloc (.cells #[.int .u8 0, .int .i64 0, .int .u64 0, .int .u64 0, .int .i64 0, .int .i64 0] 25)).drew).heap.size ((wr.alloc (.cells #[.int .u8 0, .int .i64 0, .int .u64 0, .int .u64 0, .int .i64 0, .int .i64 0] 25)).drew) w5) :
    w5.cell? ⟨wr.heap.size, 0, none⟩ = some (.int .u8 0) ∧ w5.cell? ⟨wr.heap.size, 1, none⟩ = some (.int .i64 0) ∧ w5.cell? ⟨wr.heap.size, 2, none⟩ = some (.int .u64 0) ∧ w5.cell? ⟨wr.heap.size, 3, none⟩ = some (.int .u64 0) ∧ w5.cell? ⟨wr.heap.size, 4, none⟩ = some (.int .i64 0) ∧ w5.cell? ⟨wr.heap.size, 5, none⟩ = some (.int .i64 0) ∧ w5.frozen? ⟨wr.heap.size, 0, none⟩ = false ∧ w5.frozen? ⟨wr.heap.size, 1, none⟩ = false ∧ w5.frozen? ⟨wr.heap.size, 2, none⟩ = false ∧ w5.frozen? ⟨wr.heap.size, 3, none⟩ = false ∧ w5.frozen? ⟨wr.heap.size, 4, none⟩ = false ∧ w5.frozen? ⟨wr.heap.size, 5, none⟩ = false := by
  have hr : w5.heap[wr.heap.size]? = some (.cells #[.int .u8 0, .int .i64 0, .int .u64 0, .int .u64 0, .int .i64 0, .int .i64 0] 25 (0, 0)) := (hb.block _ (by simp)).trans (heap_alloc_new wr _)
  have c := fun j => cell_of_row w5 wr.heap.size j _ 25 (0, 0) hr
  have f := fun j => frozen_of_row w5 wr.heap.size j _ 25 hr
  exact ⟨c 0, c 1, c 2, c 3, c 4, c 5, f 0, f 1, f 2, f 3, f 4, f 5⟩
/-- The state behind the last call of Decode: its description lies in the block n. -/
structure PF (w W : World) (n : Nat) (sp ch c : Array Value) : Prop where
  below : Below w.heap.size w W
  sp : W.heap[w.heap.size]? = some (.cells sp 25 (0, 0))
  ch : W.heap[w.heap.size + 1]? = some (.cells ch 47 (0, 0))
  row : W.heap[n]? = some (.cells c 25 (0, 0))
theorem pf1 {w wr w5 : World} {g : Nat} {A xs cs B : List UInt8} {k : Nat} {sp ch : Array Value} (h : HS w wr g A xs cs B k sp ch) (hb : Below wr.drew.heap.size wr.drew w5) (c : Array Value) : PF w (w5.alloc (.cells c 25)) w5.heap.size sp ch c := by
  have hb' : Bel wr w5 := Bel.step (Bel.refl wr).drew hb
  have b2 := below_alloc w5 (.cells c 25)
  exact ⟨below_step (below_step h.below hb') b2, row_later (row_later h.sp hb') b2, row_later (row_later h.ch hb') b2, heap_alloc_new w5 _⟩
theorem pf2 {w wr w5 : World} {g : Nat} {A xs cs B : List UInt8} {k : Nat} {sp ch : Array Value} (h : HS w wr g A xs cs B k sp ch) (hb : Below ((wr.alloc (.cells #[.int .u8 0, .int .i64 0, .int .u64 0, .int .u64 0, .int .i64 0, .int .i64 0] 25)).drew).heap.size ((wr.alloc (.cells #[.int .u8 0, .int .i64 0, .int .u64 0, .int .u64 0, .int .i64 0, .int .i64 0] 25)).drew) w5) (u0 u1 u2 u3 u4 u5 : Value) :
    PF w ((((((w5.setCell ⟨wr.heap.size, 0, none⟩ u0).setCell ⟨wr.heap.size, 1, none⟩ u1).setCell ⟨wr.heap.size, 2, none⟩ u2).setCell ⟨wr.heap.size, 3, none⟩ u3).setCell ⟨wr.heap.size, 4, none⟩ u4).setCell ⟨wr.heap.size, 5, none⟩ u5) wr.heap.size sp ch #[u0, u1, u2, u3, u4, u5] := by
  have hb' : Bel wr w5 := Bel.step ((Bel.refl wr).alloc _).drew hb
  have hr : w5.heap[wr.heap.size]? = some (.cells #[.int .u8 0, .int .i64 0, .int .u64 0, .int .u64 0, .int .i64 0, .int .i64 0] 25 (0, 0)) := (hb.block _ (by simp)).trans (heap_alloc_new wr _)
  have b6 : Below wr.heap.size wr _ := below_six u0 u1 u2 u3 u4 u5 (show Below wr.heap.size wr w5 from hb')
  exact ⟨below_step h.below b6, row_later h.sp b6, row_later h.ch b6, store_six u0 u1 u2 u3 u4 u5 hr⟩
theorem HS.set {w wr : World} {g : Nat} {A xs cs B : List UInt8} {k : Nat} {sp ch : Array Value} (h : HS w wr g A xs cs B k sp ch) (hx : xs.length = 4) (hc : cs.length = 4) (hk : k < 4) :
    HS w (wr.drew.setCell ⟨g, A.length + k, none⟩ (.int .u8 ((xs[k] + cs[k]).toNat : Int))) g A xs cs B (k + 1) sp ch := by
  obtain ⟨hb, -, he⟩ := mix_step A xs cs B k hx hc hk
  have hge := h.ge
  have o : ∀ j, j ≠ g → (wr.drew.setCell ⟨g, A.length + k, none⟩ (.int .u8 ((xs[k] + cs[k]).toNat : Int))).heap[j]? = wr.heap[j]? := fun j hj => set_other wr.drew g _ j _ hj
  refine ⟨h.below.drew.setCell (p := ⟨g, _, none⟩) (by show _ ≤ g; omega) _, by rw [he]; exact h.row.drew.set hb _, by simpa [World.setCell] using h.lt, h.ge, (o _ (by omega)).trans h.sp, (o _ (by omega)).trans h.ch⟩
theorem equal_four (a0 a1 a2 a3 b0 b1 b2 b3 : Int) (W : World) : (Op.equalIn 10000 47 (.agg #[.int .u8 a0, .int .u8 a1, .int .u8 a2, .int .u8 a3]) (.agg #[.int .u8 b0, .int .u8 b1, .int .u8 b2, .int .u8 b3])).run Tryd.prog W = .ok ((a0 == b0) && ((a1 == b1) && ((a2 == b2) && (a3 == b3)))) W := by
  obtain ⟨i0, hi0, hz0, hz1, hz2⟩ := info_parts u8_info
  rw [show (10000 : Nat) = 9999 + 1 from rfl, run_equalIn_array (P := Tryd.prog) (w := W) 9999 _ _ Tryd.underlying47 hi0, cells5]
  have e : ∀ (a b : Int) (W : World), (Op.equalIn 9999 5 (.int .u8 a) (.int .u8 b)).run Tryd.prog W = .ok (a == b) W := fun a b W => run_equalIn_int W 9998 5 .u8 .u8 a b Tryd.underlying5
  simp [List.range_succ, Op.eqItems, part, e]
  by_cases h0 : a0 = b0 <;> by_cases h1 : a1 = b1 <;> by_cases h2 : a2 = b2 <;> by_cases h3 : a3 = b3 <;> simp [h0, h1, h2, h3]
theorem eql_zero (W : World) : (Op.equalIn 10000 47 (.agg #[.int .u8 0, .int .u8 0, .int .u8 0, .int .u8 0]) (.agg #[.int .u8 0, .int .u8 0, .int .u8 0, .int .u8 0])).run Tryd.prog W = .ok true W := equal_four 0 0 0 0 0 0 0 0 W
theorem eql_four {c0 c1 c2 c3 : UInt8} (h : ¬ (c0 = 0 ∧ c1 = 0 ∧ c2 = 0 ∧ c3 = 0)) (W : World) : (Op.equalIn 10000 47 (.agg #[.int .u8 (c0.toNat : Int), .int .u8 (c1.toNat : Int), .int .u8 (c2.toNat : Int), .int .u8 (c3.toNat : Int)]) (.agg #[.int .u8 0, .int .u8 0, .int .u8 0, .int .u8 0])).run Tryd.prog W = .ok false W := by
  rw [equal_four]
  congr 1
  have e : ∀ c : UInt8, ((c.toNat : Int) == 0) = true → c = 0 := fun c hc => UInt8.toNat_inj.1 (by simpa using hc)
  cases hb : (((c0.toNat : Int) == 0) && (((c1.toNat : Int) == 0) && (((c2.toNat : Int) == 0) && ((c3.toNat : Int) == 0)))) with
  | false => rfl
  | true =>
    simp only [Bool.and_eq_true] at hb
    exact absurd ⟨e _ hb.1, e _ hb.2.1, e _ hb.2.2.1, e _ hb.2.2.2⟩ h
theorem u8_sum (x c : UInt8) : IntKind.u8.wrap ((x.toNat : Int) + (c.toNat : Int)) = ((x + c).toNat : Int) := by
  rw [IntKind.wrap_u8, UInt8.toNat_add]; omega
theorem start_rows {w : World} (sp ch : Array Value) : ((w.alloc (.cells sp 25)).alloc (.cells ch 47)).heap[w.heap.size]? = some (.cells sp 25 (0, 0)) ∧ ((w.alloc (.cells sp 25)).alloc (.cells ch 47)).heap[w.heap.size + 1]? = some (.cells ch 47 (0, 0)) := by
  refine ⟨(Below.heap_alloc _ _ _ (by simp)).trans (heap_alloc_new w _), ?_⟩
  have := heap_alloc_new (w.alloc (.cells sp 25)) (.cells ch 47)
  rwa [World.size_alloc] at this
theorem holds_main (s : Sp) (v : Value) (data : List UInt8) (a : Nat) (c0 c1 c2 c3 : UInt8) (w : World) (hT : Tabs w) (h : Byt w v data) (hn : data.length ≤ 300) (ha : a ≤ data.length + 60) (hw : s.wf) (hok : s.ok) :
    Calls Tryd.prog 7 #[s.val, v, .int .i64 (a : Int), .agg #[.int .u8 (c0.toNat : Int), .int .u8 (c1.toNat : Int), .int .u8 (c2.toNat : Int), .int .u8 (c3.toNat : Int)]] w fun e w' => e = .returned (.bool true) ∧ Below w.heap.size w w' := by
  have b0 := below_step (below_alloc w (.cells #[.int .u8 (s.kind : Int), .int .i64 s.sector, .int .u64 (s.seq : Int), .int .u64 (s.prev : Int), .int .i64 s.index, .int .i64 s.length] 25)) (below_alloc _ (.cells #[.int .u8 (c0.toNat : Int), .int .u8 (c1.toNat : Int), .int .u8 (c2.toNat : Int), .int .u8 (c3.toNat : Int)] 47))
  have HE := Lib.hid (Encode_yes s v data ((w.alloc (.cells #[.int .u8 (s.kind : Int), .int .i64 s.sector, .int .u64 (s.seq : Int), .int .u64 (s.prev : Int), .int .i64 s.index, .int .i64 s.length] 25)).alloc (.cells #[.int .u8 (c0.toNat : Int), .int .u8 (c1.toNat : Int), .int .u8 (c2.toNat : Int), .int .u8 (c3.toNat : Int)] 47)) (hT.below b0) (h.below b0) (by unfold maxLen; omega) hw hok)
  have HB0 := Lib.hid b0
  have HRS := Lib.hid (start_rows (w := w) #[.int .u8 (s.kind : Int), .int .i64 s.sector, .int .u64 (s.seq : Int), .int .u64 (s.prev : Int), .int .i64 s.index, .int .i64 s.length] #[.int .u8 (c0.toNat : Int), .int .u8 (c1.toNat : Int), .int .u8 (c2.toNat : Int), .int .u8 (c3.toNat : Int)])
  have H := Lib.hid h
  have HT := Lib.hid hT; have Hw := Lib.hid hw; have Hok := Lib.hid hok; clear hT hw hok b0
  obtain ⟨A0, cA, rfl, -, -⟩ := h
  unfold Sp.val at HE ⊢
  have g1 : decide ((300 : Int) < data.length) = false := decide_eq_false (by omega)
  have g2 : decide ((a : Int) < 0) = false := decide_eq_false (by omega)
  have g3 : decide ((data.length : Int) + 60 < a) = false := decide_eq_false (by omega)
  go_enter Tryd.func7, Tryd.ntmps7
  go_wp2_with fail
  refine HE.out.mono ?_
  rintro e W1 ⟨⟨r, rfl, hr, -⟩, hb⟩
  have HB1 := Lib.hid (below_step HB0.out hb); have HBr := Lib.hid hr
  have HS1 := Lib.hid (And.intro (row_later HRS.out.1 hb) (row_later HRS.out.2 hb))
  clear hb hr HE HB0 HRS
  have Hl := Lib.hid (s.enc_length data)
  go_wp2_with fail
  refine (num_any 0 _).mono ?_
  rintro e w' ⟨rfl, rfl⟩
  go_wp2_with fail
  refine (Decode_is r _ (s.enc data) data s (.agg #[.int .u8 (s.kind : Int), .int .i64 s.sector, .int .u64 (s.seq : Int), .int .u64 (s.prev : Int), .int .i64 s.index, .int .i64 s.length]) 0 _ rfl (Sp.dec_enc Hw.out Hok.out data) (HT.out.below HB1.out) HBr.out (H.out.below HB1.out) (by rw [Hl.out]; decide) (by unfold maxLen; omega)).mono ?_
  rintro e W2 ⟨rfl, hb⟩
  have b3 := below_alloc W2 (.cells #[.int .u8 (s.kind : Int), .int .i64 s.sector, .int .u64 (s.seq : Int), .int .u64 (s.prev : Int), .int .i64 s.index, .int .i64 s.length] 25)
  have HB3 := Lib.hid (below_step (below_step HB1.out hb) b3)
  have HBr3 := Lib.hid ((HBr.out.below hb).below b3)
  have HS3 := Lib.hid (And.intro (row_later (row_later HS1.out.1 hb) b3) (row_later (row_later HS1.out.2 hb) b3))
  have r1 := HS3.out.1
  have r2 := heap_alloc_new W2 (.cells #[.int .u8 (s.kind : Int), .int .i64 s.sector, .int .u64 (s.seq : Int), .int .u64 (s.prev : Int), .int .i64 s.index, .int .i64 s.length] 25)
  clear hb b3 HB1 HBr HS1
  obtain ⟨r', cr, hv, -, -⟩ := HBr3.out
  rw [Hl.out] at hv
  subst hv
  go_wp2_with fail
  generalize W2.alloc (.cells #[.int .u8 (s.kind : Int), .int .i64 s.sector, .int .u64 (s.seq : Int), .int .u64 (s.prev : Int), .int .i64 s.index, .int .i64 s.length] 25) = W3 at *
  generalize W2.heap.size = n2 at *
  have p0 : W3.cell? ⟨w.heap.size, 0, none⟩ = some (.int .u8 (s.kind : Int)) := cell_of_row _ _ 0 _ _ _ r1
  have p1 : W3.cell? ⟨w.heap.size, 1, none⟩ = some (.int .i64 s.sector) := cell_of_row _ _ 1 _ _ _ r1
  have p2 : W3.cell? ⟨w.heap.size, 2, none⟩ = some (.int .u64 (s.seq : Int)) := cell_of_row _ _ 2 _ _ _ r1
  have p3 : W3.cell? ⟨w.heap.size, 3, none⟩ = some (.int .u64 (s.prev : Int)) := cell_of_row _ _ 3 _ _ _ r1
  have p4 : W3.cell? ⟨w.heap.size, 4, none⟩ = some (.int .i64 s.index) := cell_of_row _ _ 4 _ _ _ r1
  have p5 : W3.cell? ⟨w.heap.size, 5, none⟩ = some (.int .i64 s.length) := cell_of_row _ _ 5 _ _ _ r1
  have q0 : W3.cell? ⟨n2, 0, none⟩ = some (.int .u8 (s.kind : Int)) := cell_of_row _ _ 0 _ _ _ r2
  have q1 : W3.cell? ⟨n2, 1, none⟩ = some (.int .i64 s.sector) := cell_of_row _ _ 1 _ _ _ r2
  have q2 : W3.cell? ⟨n2, 2, none⟩ = some (.int .u64 (s.seq : Int)) := cell_of_row _ _ 2 _ _ _ r2
  have q3 : W3.cell? ⟨n2, 3, none⟩ = some (.int .u64 (s.prev : Int)) := cell_of_row _ _ 3 _ _ _ r2
  have q4 : W3.cell? ⟨n2, 4, none⟩ = some (.int .i64 s.index) := cell_of_row _ _ 4 _ _ _ r2
  have q5 : W3.cell? ⟨n2, 5, none⟩ = some (.int .i64 s.length) := cell_of_row _ _ 5 _ _ _ r2
  clear r1 r2
  refine (num_any 0 _).mono ?_
  rintro e w' ⟨rfl, rfl⟩
  obtain ⟨va, wa, vb, wb, hr1, hr2, ho, hbb⟩ := two_appends W3 _ _ data (s.enc data) (H.out.below HB3.out) HBr3.out (by omega) (by rw [Hl.out]; decide)
  have Hr1 := Lib.hid hr1; have Hr2 := Lib.hid hr2; have Ho := Lib.hid ho; have Hbb := Lib.hid hbb; clear hr1 hr2 ho hbb
  obtain ⟨g, cg, rfl, hcg, hg0, hgl, hrow⟩ := rowAt_own Ho.out (by rw [List.length_append, Hl.out]; omega)
  have hlen : (data ++ s.enc data).length = data.length + 64 := by rw [List.length_append, Hl.out]
  rw [hlen] at hcg Hr2
  obtain ⟨xs, hxs⟩ : ∃ xs, xs = ((data ++ s.enc data).drop a).take 4 := ⟨_, rfl⟩
  obtain ⟨A, hA⟩ : ∃ A, A = (data ++ s.enc data).take a := ⟨_, rfl⟩
  obtain ⟨B, hB⟩ : ∃ B, B = (data ++ s.enc data).drop (a + 4) := ⟨_, rfl⟩
  have hx4 : xs.length = 4 := by rw [hxs, List.length_take, List.length_drop]; omega
  have hAl : A.length = a := by rw [hA, List.length_take]; omega
  have hBl : A.length + 4 + B.length = data.length + 64 := by rw [hAl, hB, List.length_drop]; omega
  have hparts : data ++ s.enc data = A ++ xs ++ B := by rw [hA, hxs, hB, ← List.take_add, List.take_append_drop]
  rw [hparts] at hrow
  have HST0 := Lib.hid (show HS w wb g A xs [c0, c1, c2, c3] B 0 #[.int .u8 (s.kind : Int), .int .i64 s.sector, .int .u64 (s.seq : Int), .int .u64 (s.prev : Int), .int .i64 s.index, .int .i64 s.length] #[.int .u8 (c0.toNat : Int), .int .u8 (c1.toNat : Int), .int .u8 (c2.toNat : Int), .int .u8 (c3.toNat : Int)] from ⟨below_step HB3.out Hbb.out, by rw [mix_zero]; exact hrow, hgl, Nat.le_trans (by have := HS3.out.2; have := (Array.getElem?_eq_some_iff.1 this).1; omega) hg0, row_later HS3.out.1 Hbb.out, row_later HS3.out.2 Hbb.out⟩)
  have Hparts := Lib.hid hparts; have Hx4 := Lib.hid hx4; have HAl := Lib.hid hAl; have HBl := Lib.hid hBl
  have Hbr4 := Lib.hid (HBr3.out.below Hbb.out)
  clear hxs hA hB hx4 hAl hBl hparts hrow hg0 hgl hlen Ho Hbb HBr3 HS3
  go_wp2_with (at_builtin; first | refine wpList_append_run rfl (.tmp 61) (.tmp 62) 26 26 rfl _ _ va wa rfl rfl Hr1.out ?_ | refine wpList_append_run rfl (.tmp 63) (.tmp 64) 26 26 rfl _ _ _ wb rfl rfl Hr2.out ?_)
  clear p0 p1 p2 p3 p4 p5 q0 q1 q2 q3 q4 q5 Hr1 Hr2
  go_loopw [14] (fun i wr => ∃ k : Nat, k ≤ 4 ∧ i = .int .i64 k ∧ Hid (HS w wr g A xs [c0, c1, c2, c3] B k #[.int .u8 (s.kind : Int), .int .i64 s.sector, .int .u64 (s.seq : Int), .int .u64 (s.prev : Int), .int .i64 s.index, .int .i64 s.length] #[.int .u8 (c0.toNat : Int), .int .u8 (c1.toNat : Int), .int .u8 (c2.toNat : Int), .int .u8 (c3.toNat : Int)])) (fun i _ => 4 - (intOf i).toNat)
  case atStart => exact ⟨0, by omega, rfl, HST0⟩
  case round =>
    clear HST0
    obtain ⟨k, hk, rfl, HI⟩ := hrel
    by_cases hlt : k < 4
    · have HN := Lib.hid (HI.out.set Hx4.out rfl hlt)
      obtain ⟨hbk, hat, -⟩ := mix_step A xs [c0, c1, c2, c3] B k Hx4.out rfl hlt
      have hc1 := (HI.out.row _ hbk).1
      have hf1 := (HI.out.row _ hbk).2
      rw [hat] at hc1
      have hc2 : wr.cell? ⟨w.heap.size + 1, k, none⟩ = some (.int .u8 (([c0, c1, c2, c3][k]'(by simpa using hlt)).toNat : Int)) := by
        rw [cell_of_row wr (w.heap.size + 1) k _ 47 (0, 0) HI.out.ch]
        rcases k with _ | _ | _ | _ | k
        · rfl
        · rfl
        · rfl
        · rfl
        · omega
      have hsum := u8_sum (xs[k]'(by have := Hx4.out; omega)) ([c0, c1, c2, c3][k]'(by simpa using hlt))
      have hbx := byte_lt (xs[k]'(by have := Hx4.out; omega))
      have hby := byte_lt ([c0, c1, c2, c3][k]'(by simpa using hlt))
      obtain ⟨y, hy⟩ : ∃ y : Int, y = ((xs[k]'(by have := Hx4.out; omega) + [c0, c1, c2, c3][k]'(by simpa using hlt)).toNat : Int) := ⟨_, rfl⟩
      rw [← hy] at hsum HN
      generalize (xs[k]'(by have := Hx4.out; omega)).toNat = x at *
      generalize ([c0, c1, c2, c3][k]'(by simpa using hlt)).toNat = c at *
      have e1 : A.length + k = a + k := by rw [HAl.out]
      rw [e1] at hc1 hf1 HN
      have hak : (a : Int) + k = ((a + k : Nat) : Int) := by omega
      have hakl : a + k < data.length + 64 := by omega
      clear hbk hat hy e1
      generalize a + k = m at *
      have hm0 : (0 : Int) ≤ m := by omega
      have hm1 : (m : Int) < data.length + 64 := by omega
      go_wp2
      go_region
      all_goals go_wp2
      all_goals exact ⟨⟨k + 1, by omega, by go_num, HN⟩, by simp [intOf]; omega⟩
    · have hk4 : k = 4 := by omega
      subst hk4
      have hst := HI.out
      obtain ⟨L', hL'⟩ : ∃ L', L' = A ++ mix xs [c0, c1, c2, c3] 4 ++ B := ⟨_, rfl⟩
      have hl4 := mix_length xs [c0, c1, c2, c3] 4 Hx4.out rfl (by omega)
      have hlen : L'.length = data.length + 64 := by rw [hL', List.length_append, List.length_append, hl4]; exact HBl.out
      have hrow := hst.row
      rw [← hL'] at hrow
      have hbyt := hrow.byt hst.lt (c := cg) (by rw [hlen]; exact hcg)
      obtain ⟨V1, e1, h1⟩ := slice_l (lo := data.length) hbyt (by omega) (by rw [hlen]; exact hcg)
      obtain ⟨V2, e2, h2⟩ := slice_h (hi := data.length) hbyt (by omega) (by rw [hlen]; exact hcg)
      rw [hlen] at e1 e2
      obtain ⟨-, -, c3', c4⟩ := cut_page L' data.length hlen
      have HC := Lib.hid (fun (W' : World) (hW : Bel wr W') (S : Sp) (V : Value) (E : Int) (hV : S.val = V) (hd : Sp.dec (L'.drop data.length) (L'.take data.length) = (S, E)) => (show Calls Tryd.prog 16 #[V1, V2] W' fun e w' => e = .returned (.tuple #[V, .int .i64 E]) ∧ Below W'.heap.size W' w' from
        Decode_is V1 V2 _ _ S V E W' hV hd (HT.out.below (below_step hst.below hW)) (h1.below hW) (h2.below hW) (by rw [c3']; decide) (by rw [c4]; unfold maxLen; omega)))
      have HL := Lib.hid hL'; have HST := Lib.hid hst
      have HM := Lib.hid (mix_same xs [c0, c1, c2, c3] Hx4.out rfl)
      clear hst hL' hl4 hlen hrow hbyt h1 h2 c3' c4 HI
      by_cases hz : [c0, c1, c2, c3] = [(0 : UInt8), 0, 0, 0]
      · have hd : Sp.dec (L'.drop data.length) (L'.take data.length) = (s, 0) := by
          rw [HL.out, ← HM.out.2 hz, ← Hparts.out]
          exact Sp.dec_same s data Hw.out Hok.out
        have HD := Lib.hid (fun (W' : World) (hW : Bel wr W') => HC.out W' hW s (.agg #[.int .u8 (s.kind : Int), .int .i64 s.sector, .int .u64 (s.seq : Int), .int .u64 (s.prev : Int), .int .i64 s.index, .int .i64 s.length]) 0 rfl hd)
        simp only [List.cons.injEq, and_true] at hz
        obtain ⟨rfl, rfl, rfl, rfl⟩ := hz
        clear hd HC
        have heq := eql_zero
        go_wp2
        go_region_with (first | (go_at_call 16; refine (HD.out wr.drew (Bel.refl _).drew).mono ?_; rintro e w5 ⟨rfl, hb5⟩) | (go_at_call 16; refine (HD.out ((wr.alloc (.cells #[.int .u8 0, .int .i64 0, .int .u64 0, .int .u64 0, .int .i64 0, .int .i64 0] 25)).drew) ((Bel.refl _).alloc _).drew).mono ?_; rintro e w5 ⟨rfl, hb5⟩; have hzr := zrow_later hb5; obtain ⟨z0, z1, z2, z3, z4, z5, y0, y1, y2, y3, y4, y5⟩ := hzr))
        rotate_left
        · have HP := Lib.hid (pf2 HST.out hb5 (.int .u8 (s.kind : Int)) (.int .i64 s.sector) (.int .u64 (s.seq : Int)) (.int .u64 (s.prev : Int)) (.int .i64 s.index) (.int .i64 s.length))
          clear hb5 z0 z1 z2 z3 z4 z5 y0 y1 y2 y3 y4 y5
          generalize ((((((w5.setCell ⟨wr.heap.size, 0, none⟩ (.int .u8 (s.kind : Int))).setCell ⟨wr.heap.size, 1, none⟩ (.int .i64 s.sector)).setCell ⟨wr.heap.size, 2, none⟩ (.int .u64 (s.seq : Int))).setCell ⟨wr.heap.size, 3, none⟩ (.int .u64 (s.prev : Int))).setCell ⟨wr.heap.size, 4, none⟩ (.int .i64 s.index)).setCell ⟨wr.heap.size, 5, none⟩ (.int .i64 s.length)) = W6 at HP ⊢
          generalize wr.heap.size = n5 at HP ⊢
          have p0 : W6.cell? ⟨w.heap.size, 0, none⟩ = some (.int .u8 (s.kind : Int)) := cell_of_row _ _ 0 _ _ _ HP.out.sp
          have p1 : W6.cell? ⟨w.heap.size, 1, none⟩ = some (.int .i64 s.sector) := cell_of_row _ _ 1 _ _ _ HP.out.sp
          have p2 : W6.cell? ⟨w.heap.size, 2, none⟩ = some (.int .u64 (s.seq : Int)) := cell_of_row _ _ 2 _ _ _ HP.out.sp
          have p3 : W6.cell? ⟨w.heap.size, 3, none⟩ = some (.int .u64 (s.prev : Int)) := cell_of_row _ _ 3 _ _ _ HP.out.sp
          have p4 : W6.cell? ⟨w.heap.size, 4, none⟩ = some (.int .i64 s.index) := cell_of_row _ _ 4 _ _ _ HP.out.sp
          have p5 : W6.cell? ⟨w.heap.size, 5, none⟩ = some (.int .i64 s.length) := cell_of_row _ _ 5 _ _ _ HP.out.sp
          have o0 : W6.cell? ⟨w.heap.size + 1, 0, none⟩ = some (.int .u8 0) := cell_of_row _ _ 0 _ _ _ HP.out.ch
          have o1 : W6.cell? ⟨w.heap.size + 1, 1, none⟩ = some (.int .u8 0) := cell_of_row _ _ 1 _ _ _ HP.out.ch
          have o2 : W6.cell? ⟨w.heap.size + 1, 2, none⟩ = some (.int .u8 0) := cell_of_row _ _ 2 _ _ _ HP.out.ch
          have o3 : W6.cell? ⟨w.heap.size + 1, 3, none⟩ = some (.int .u8 0) := cell_of_row _ _ 3 _ _ _ HP.out.ch
          have q0 : W6.cell? ⟨n5, 0, none⟩ = some (.int .u8 (s.kind : Int)) := cell_of_row _ _ 0 _ _ _ HP.out.row
          have q1 : W6.cell? ⟨n5, 1, none⟩ = some (.int .i64 s.sector) := cell_of_row _ _ 1 _ _ _ HP.out.row
          have q2 : W6.cell? ⟨n5, 2, none⟩ = some (.int .u64 (s.seq : Int)) := cell_of_row _ _ 2 _ _ _ HP.out.row
          have q3 : W6.cell? ⟨n5, 3, none⟩ = some (.int .u64 (s.prev : Int)) := cell_of_row _ _ 3 _ _ _ HP.out.row
          have q4 : W6.cell? ⟨n5, 4, none⟩ = some (.int .i64 s.index) := cell_of_row _ _ 4 _ _ _ HP.out.row
          have q5 : W6.cell? ⟨n5, 5, none⟩ = some (.int .i64 s.length) := cell_of_row _ _ 5 _ _ _ HP.out.row
          go_wp2_with fail
          refine (num_any 0 _).mono ?_
          rintro e w' ⟨rfl, rfl⟩
          go_wp2_with fail
          refine (works_any _ (HT.out.below HP.out.below)).mono ?_
          rintro e w7 ⟨rfl, hb7⟩
          have Hb7 := Lib.hid (below_step HP.out.below hb7); clear hb7
          go_wp2
          go_ret
          exact ⟨rfl, Hb7.out⟩
        · have HP := Lib.hid (pf1 HST.out hb5 #[.int .u8 (s.kind : Int), .int .i64 s.sector, .int .u64 (s.seq : Int), .int .u64 (s.prev : Int), .int .i64 s.index, .int .i64 s.length])
          clear hb5
          generalize w5.alloc (.cells #[.int .u8 (s.kind : Int), .int .i64 s.sector, .int .u64 (s.seq : Int), .int .u64 (s.prev : Int), .int .i64 s.index, .int .i64 s.length] 25) = W6 at HP ⊢
          generalize w5.heap.size = n5 at HP ⊢
          have p0 : W6.cell? ⟨w.heap.size, 0, none⟩ = some (.int .u8 (s.kind : Int)) := cell_of_row _ _ 0 _ _ _ HP.out.sp
          have p1 : W6.cell? ⟨w.heap.size, 1, none⟩ = some (.int .i64 s.sector) := cell_of_row _ _ 1 _ _ _ HP.out.sp
          have p2 : W6.cell? ⟨w.heap.size, 2, none⟩ = some (.int .u64 (s.seq : Int)) := cell_of_row _ _ 2 _ _ _ HP.out.sp
          have p3 : W6.cell? ⟨w.heap.size, 3, none⟩ = some (.int .u64 (s.prev : Int)) := cell_of_row _ _ 3 _ _ _ HP.out.sp
          have p4 : W6.cell? ⟨w.heap.size, 4, none⟩ = some (.int .i64 s.index) := cell_of_row _ _ 4 _ _ _ HP.out.sp
          have p5 : W6.cell? ⟨w.heap.size, 5, none⟩ = some (.int .i64 s.length) := cell_of_row _ _ 5 _ _ _ HP.out.sp
          have o0 : W6.cell? ⟨w.heap.size + 1, 0, none⟩ = some (.int .u8 0) := cell_of_row _ _ 0 _ _ _ HP.out.ch
          have o1 : W6.cell? ⟨w.heap.size + 1, 1, none⟩ = some (.int .u8 0) := cell_of_row _ _ 1 _ _ _ HP.out.ch
          have o2 : W6.cell? ⟨w.heap.size + 1, 2, none⟩ = some (.int .u8 0) := cell_of_row _ _ 2 _ _ _ HP.out.ch
          have o3 : W6.cell? ⟨w.heap.size + 1, 3, none⟩ = some (.int .u8 0) := cell_of_row _ _ 3 _ _ _ HP.out.ch
          have q0 : W6.cell? ⟨n5, 0, none⟩ = some (.int .u8 (s.kind : Int)) := cell_of_row _ _ 0 _ _ _ HP.out.row
          have q1 : W6.cell? ⟨n5, 1, none⟩ = some (.int .i64 s.sector) := cell_of_row _ _ 1 _ _ _ HP.out.row
          have q2 : W6.cell? ⟨n5, 2, none⟩ = some (.int .u64 (s.seq : Int)) := cell_of_row _ _ 2 _ _ _ HP.out.row
          have q3 : W6.cell? ⟨n5, 3, none⟩ = some (.int .u64 (s.prev : Int)) := cell_of_row _ _ 3 _ _ _ HP.out.row
          have q4 : W6.cell? ⟨n5, 4, none⟩ = some (.int .i64 s.index) := cell_of_row _ _ 4 _ _ _ HP.out.row
          have q5 : W6.cell? ⟨n5, 5, none⟩ = some (.int .i64 s.length) := cell_of_row _ _ 5 _ _ _ HP.out.row
          go_wp2_with fail
          refine (num_any 0 _).mono ?_
          rintro e w' ⟨rfl, rfl⟩
          go_wp2_with fail
          refine (works_any _ (HT.out.below HP.out.below)).mono ?_
          rintro e w7 ⟨rfl, hb7⟩
          have Hb7 := Lib.hid (below_step HP.out.below hb7); clear hb7
          go_wp2
          go_ret
          exact ⟨rfl, Hb7.out⟩
      · have hd : Sp.dec (L'.drop data.length) (L'.take data.length) = (Sp.zero, 10) :=
          Sp.dec_burst s data A xs _ B L' Hparts.out HL.out Hx4.out (mix_length xs [c0, c1, c2, c3] 4 Hx4.out rfl (by omega)) (fun e => hz (HM.out.1 e))
        have HD := Lib.hid (fun (W' : World) (hW : Bel wr W') => HC.out W' hW Sp.zero (.agg #[.int .u8 0, .int .i64 0, .int .u64 0, .int .u64 0, .int .i64 0, .int .i64 0]) 10 rfl hd)
        have hz2 : ¬ (c0 = 0 ∧ c1 = 0 ∧ c2 = 0 ∧ c3 = 0) := by simpa using hz
        have HZ := Lib.hid hz2
        clear hd HC hz hz2
        have heq : ∀ W : World, (Op.equalIn 10000 47 (.agg #[.int .u8 (c0.toNat : Int), .int .u8 (c1.toNat : Int), .int .u8 (c2.toNat : Int), .int .u8 (c3.toNat : Int)]) (.agg #[.int .u8 0, .int .u8 0, .int .u8 0, .int .u8 0])).run Tryd.prog W = .ok false W := eql_four HZ.out
        go_wp2
        go_region_with (first | (go_at_call 16; refine (HD.out wr.drew (Bel.refl _).drew).mono ?_; rintro e w5 ⟨rfl, hb5⟩) | (go_at_call 16; refine (HD.out ((wr.alloc (.cells #[.int .u8 0, .int .i64 0, .int .u64 0, .int .u64 0, .int .i64 0, .int .i64 0] 25)).drew) ((Bel.refl _).alloc _).drew).mono ?_; rintro e w5 ⟨rfl, hb5⟩; have hzr := zrow_later hb5; obtain ⟨z0, z1, z2, z3, z4, z5, y0, y1, y2, y3, y4, y5⟩ := hzr))
        rotate_left
        · have HP := Lib.hid (pf2 HST.out hb5 (.int .u8 0) (.int .i64 0) (.int .u64 0) (.int .u64 0) (.int .i64 0) (.int .i64 0))
          clear hb5 z0 z1 z2 z3 z4 z5 y0 y1 y2 y3 y4 y5
          generalize ((((((w5.setCell ⟨wr.heap.size, 0, none⟩ (.int .u8 0)).setCell ⟨wr.heap.size, 1, none⟩ (.int .i64 0)).setCell ⟨wr.heap.size, 2, none⟩ (.int .u64 0)).setCell ⟨wr.heap.size, 3, none⟩ (.int .u64 0)).setCell ⟨wr.heap.size, 4, none⟩ (.int .i64 0)).setCell ⟨wr.heap.size, 5, none⟩ (.int .i64 0)) = W6 at HP ⊢
          generalize wr.heap.size = n5 at HP ⊢
          have p0 : W6.cell? ⟨w.heap.size, 0, none⟩ = some (.int .u8 (s.kind : Int)) := cell_of_row _ _ 0 _ _ _ HP.out.sp
          have p1 : W6.cell? ⟨w.heap.size, 1, none⟩ = some (.int .i64 s.sector) := cell_of_row _ _ 1 _ _ _ HP.out.sp
          have p2 : W6.cell? ⟨w.heap.size, 2, none⟩ = some (.int .u64 (s.seq : Int)) := cell_of_row _ _ 2 _ _ _ HP.out.sp
          have p3 : W6.cell? ⟨w.heap.size, 3, none⟩ = some (.int .u64 (s.prev : Int)) := cell_of_row _ _ 3 _ _ _ HP.out.sp
          have p4 : W6.cell? ⟨w.heap.size, 4, none⟩ = some (.int .i64 s.index) := cell_of_row _ _ 4 _ _ _ HP.out.sp
          have p5 : W6.cell? ⟨w.heap.size, 5, none⟩ = some (.int .i64 s.length) := cell_of_row _ _ 5 _ _ _ HP.out.sp
          have o0 : W6.cell? ⟨w.heap.size + 1, 0, none⟩ = some (.int .u8 (c0.toNat : Int)) := cell_of_row _ _ 0 _ _ _ HP.out.ch
          have o1 : W6.cell? ⟨w.heap.size + 1, 1, none⟩ = some (.int .u8 (c1.toNat : Int)) := cell_of_row _ _ 1 _ _ _ HP.out.ch
          have o2 : W6.cell? ⟨w.heap.size + 1, 2, none⟩ = some (.int .u8 (c2.toNat : Int)) := cell_of_row _ _ 2 _ _ _ HP.out.ch
          have o3 : W6.cell? ⟨w.heap.size + 1, 3, none⟩ = some (.int .u8 (c3.toNat : Int)) := cell_of_row _ _ 3 _ _ _ HP.out.ch
          have q0 : W6.cell? ⟨n5, 0, none⟩ = some (.int .u8 0) := cell_of_row _ _ 0 _ _ _ HP.out.row
          have q1 : W6.cell? ⟨n5, 1, none⟩ = some (.int .i64 0) := cell_of_row _ _ 1 _ _ _ HP.out.row
          have q2 : W6.cell? ⟨n5, 2, none⟩ = some (.int .u64 0) := cell_of_row _ _ 2 _ _ _ HP.out.row
          have q3 : W6.cell? ⟨n5, 3, none⟩ = some (.int .u64 0) := cell_of_row _ _ 3 _ _ _ HP.out.row
          have q4 : W6.cell? ⟨n5, 4, none⟩ = some (.int .i64 0) := cell_of_row _ _ 4 _ _ _ HP.out.row
          have q5 : W6.cell? ⟨n5, 5, none⟩ = some (.int .i64 0) := cell_of_row _ _ 5 _ _ _ HP.out.row
          go_wp2_with fail
          refine (works_any _ (HT.out.below HP.out.below)).mono ?_
          rintro e w7 ⟨rfl, hb7⟩
          have Hb7 := Lib.hid (below_step HP.out.below hb7); clear hb7
          go_wp2
          go_ret
          exact ⟨rfl, Hb7.out⟩
        · have HP := Lib.hid (pf1 HST.out hb5 #[.int .u8 0, .int .i64 0, .int .u64 0, .int .u64 0, .int .i64 0, .int .i64 0])
          clear hb5
          generalize w5.alloc (.cells #[.int .u8 0, .int .i64 0, .int .u64 0, .int .u64 0, .int .i64 0, .int .i64 0] 25) = W6 at HP ⊢
          generalize w5.heap.size = n5 at HP ⊢
          have p0 : W6.cell? ⟨w.heap.size, 0, none⟩ = some (.int .u8 (s.kind : Int)) := cell_of_row _ _ 0 _ _ _ HP.out.sp
          have p1 : W6.cell? ⟨w.heap.size, 1, none⟩ = some (.int .i64 s.sector) := cell_of_row _ _ 1 _ _ _ HP.out.sp
          have p2 : W6.cell? ⟨w.heap.size, 2, none⟩ = some (.int .u64 (s.seq : Int)) := cell_of_row _ _ 2 _ _ _ HP.out.sp
          have p3 : W6.cell? ⟨w.heap.size, 3, none⟩ = some (.int .u64 (s.prev : Int)) := cell_of_row _ _ 3 _ _ _ HP.out.sp
          have p4 : W6.cell? ⟨w.heap.size, 4, none⟩ = some (.int .i64 s.index) := cell_of_row _ _ 4 _ _ _ HP.out.sp
          have p5 : W6.cell? ⟨w.heap.size, 5, none⟩ = some (.int .i64 s.length) := cell_of_row _ _ 5 _ _ _ HP.out.sp
          have o0 : W6.cell? ⟨w.heap.size + 1, 0, none⟩ = some (.int .u8 (c0.toNat : Int)) := cell_of_row _ _ 0 _ _ _ HP.out.ch
          have o1 : W6.cell? ⟨w.heap.size + 1, 1, none⟩ = some (.int .u8 (c1.toNat : Int)) := cell_of_row _ _ 1 _ _ _ HP.out.ch
          have o2 : W6.cell? ⟨w.heap.size + 1, 2, none⟩ = some (.int .u8 (c2.toNat : Int)) := cell_of_row _ _ 2 _ _ _ HP.out.ch
          have o3 : W6.cell? ⟨w.heap.size + 1, 3, none⟩ = some (.int .u8 (c3.toNat : Int)) := cell_of_row _ _ 3 _ _ _ HP.out.ch
          have q0 : W6.cell? ⟨n5, 0, none⟩ = some (.int .u8 0) := cell_of_row _ _ 0 _ _ _ HP.out.row
          have q1 : W6.cell? ⟨n5, 1, none⟩ = some (.int .i64 0) := cell_of_row _ _ 1 _ _ _ HP.out.row
          have q2 : W6.cell? ⟨n5, 2, none⟩ = some (.int .u64 0) := cell_of_row _ _ 2 _ _ _ HP.out.row
          have q3 : W6.cell? ⟨n5, 3, none⟩ = some (.int .u64 0) := cell_of_row _ _ 3 _ _ _ HP.out.row
          have q4 : W6.cell? ⟨n5, 4, none⟩ = some (.int .i64 0) := cell_of_row _ _ 4 _ _ _ HP.out.row
          have q5 : W6.cell? ⟨n5, 5, none⟩ = some (.int .i64 0) := cell_of_row _ _ 5 _ _ _ HP.out.row
          go_wp2_with fail
          refine (works_any _ (HT.out.below HP.out.below)).mono ?_
          rintro e w7 ⟨rfl, hb7⟩
          have Hb7 := Lib.hid (below_step HP.out.below hb7); clear hb7
          go_wp2
          go_ret
          exact ⟨rfl, Hb7.out⟩
end Go.Proofs.YtcebockdfkjoiaaDoor
