/- The chapter's examples: the function works returns true and changes nothing that was there. Condition: the table lies as the program's text lays it. -/
import Derived.Test.YtcebockdfkjoiaaDoorK
namespace Go.Proofs.YtcebockdfkjoiaaDoor
open Go.RowKit
set_option linter.unusedVariables false
set_option maxHeartbeats 2000000
set_option maxRecDepth 100000

theorem Encode_yes (s : Sp) (v : Value) (data : List UInt8) (w : World) (hT : Tabs w) (hB : Byt w v data) (hn : data.length ≤ maxLen) (hw : s.wf) (hok : s.ok) :
    Calls Tryd.prog 9 #[s.val, v] w fun e w' => (∃ r, e = .returned (.tuple #[r, .int .i64 0]) ∧ Byt w' r (s.enc data) ∧ ∀ b, r.ownBlock = some b → w.heap.size ≤ b) ∧ Below w.heap.size w w' := by
  refine (Encode_any s v data w hT hB hn hw).mono ?_
  rintro e w' ⟨⟨r, h1, h2, h3⟩, h4⟩
  rw [if_pos hok] at h1 h2
  exact ⟨⟨r, h1, h2, h3⟩, h4⟩
theorem Encode_no (s : Sp) (v : Value) (data : List UInt8) (w : World) (hw : s.wf) (hok : ¬ s.ok) :
    Calls Tryd.prog 9 #[s.val, v] w fun e w' => (∃ r, e = .returned (.tuple #[r, .int .i64 2]) ∧ Byt w' r []) ∧ Below w.heap.size w w' := by
  refine (Encode_bad s v data w hw hok).mono ?_
  rintro e w' ⟨⟨r, h1, h2, h3⟩, h4⟩
  rw [if_neg hok] at h1 h2
  exact ⟨⟨r, h1, h2⟩, h4⟩
theorem Decode_is (v1 v2 : Value) (b data : List UInt8) (s : Sp) (V : Value) (E : Int) (w : World) (hV : s.val = V) (hd : Sp.dec b data = (s, E)) (hT : Tabs w) (h : Byt w v1 b) (h2 : Byt w v2 data) (hb : b.length ≤ maxLen) (hn : data.length ≤ maxLen) :
    Calls Tryd.prog 16 #[v1, v2] w fun e w' => e = .returned (.tuple #[V, .int .i64 E]) ∧ Below w.heap.size w w' := by
  subst hV
  refine (Decode_any v1 v2 b data w hT h h2 hb hn).mono ?_
  rintro e w' ⟨h1, h2⟩
  rw [hd] at h1
  exact ⟨h1, h2⟩
theorem Valid_is (s : Sp) (t : Bool) (V : Value) (hV : s.val = V) (hw : s.wf) (ht : decide s.ok = t) (w : World) : Calls Tryd.prog 13 #[V] w fun e w' => e = .returned (.bool t) ∧ Below w.heap.size w w' := by
  subst ht; subst hV; exact Valid_any s hw w
theorem below_step {w W W' : World} (h : Below w.heap.size w W) (h2 : Below W.heap.size W W') : Below w.heap.size w W' := h.trans (h2.mono h.size)
theorem row_later {W W' : World} {n : Nat} {o : Obj} (h : W.heap[n]? = some o) (hb : Below W.heap.size W W') : W'.heap[n]? = some o := (hb.block n (Array.getElem?_eq_some_iff.1 h).1).trans h
set_option maxHeartbeats 6000000 in
theorem works_any (w : World) (hT : Tabs w) : Calls Tryd.prog 8 #[] w fun e w' => e = .returned (.bool true) ∧ Below w.heap.size w w' := by
  have HT := Lib.hid hT; clear hT
  go_enter Tryd.func8, Tryd.ntmps8
  go_wp2_with fail
  have b0 := below_alloc w (.cells #[.int .u8 1, .int .i64 7, .int .u64 300, .int .u64 0, .int .i64 0, .int .i64 1] 25)
  have R0 := heap_alloc_new w (.cells #[.int .u8 1, .int .i64 7, .int .u64 300, .int .u64 0, .int .i64 0, .int .i64 1] 25)
  have HB0 := Lib.hid b0; have HR0 := Lib.hid R0; clear b0 R0
  refine (Encode_yes s0 (.slice none 0 0) [] _ (HT.out.below HB0.out) (Byt.none _) (by decide) s0_wf s0_ok).mono ?_
  rintro e W1 ⟨⟨r, rfl, hr, -⟩, hb⟩
  have HB1 := Lib.hid (below_step HB0.out hb); have HR1 := Lib.hid (row_later HR0.out hb); have HBr := Lib.hid hr; clear hb HB0 HR0
  obtain ⟨A, c, hv, hc, hcell⟩ := hr
  have h64 := Sp.enc_length s0 []
  obtain ⟨g, o, hA, hg, hcell2⟩ := hcell (by omega)
  clear hcell
  rw [h64] at hv hc
  subst hA; subst hv
  have x4 : W1.cell? ⟨g, o + 4, none⟩ = some (.int .u8 1) := by rw [hcell2 4 (by omega), s0_at 4 1 (by decide) rfl]; rfl
  have x24 : W1.cell? ⟨g, o + 24, none⟩ = some (.int .u8 7) := by rw [hcell2 24 (by omega), s0_at 24 7 (by decide) rfl]; rfl
  have x28 : W1.cell? ⟨g, o + 28, none⟩ = some (.int .u8 0) := by rw [hcell2 28 (by omega), s0_at 28 0 (by decide) rfl]; rfl
  have x32 : W1.cell? ⟨g, o + 32, none⟩ = some (.int .u8 1) := by rw [hcell2 32 (by omega), s0_at 32 1 (by decide) rfl]; rfl
  have HBr2 : Byt W1 (.slice (some ⟨g, o, none⟩) (s0.enc []).length c) (s0.enc []) := by rw [h64]; exact HBr.out
  obtain ⟨V, e1, hV⟩ := slice_lh (lo := 8) (hi := 11) HBr2 (by decide) (by omega) (by omega)
  obtain ⟨V2, e2, hV2⟩ := slice_h (hi := 63) HBr2 (by omega) (by omega)
  rw [s0_cut] at hV
  rw [h64] at e1 e2
  replace e1 : ∀ W : World, (Instr.slice 26 (.slice (some ⟨g, o, none⟩) 64 c) (some (.int .i64 8)) (some (.int .i64 11)) none).run Tryd.prog W = .ok V W := e1
  replace e2 : ∀ W : World, (Instr.slice 26 (.slice (some ⟨g, o, none⟩) 64 c) none (some (.int .i64 63)) none).run Tryd.prog W = .ok V2 W := e2
  have HV := Lib.hid hV; have HV2 := Lib.hid hV2; have HB64 := Lib.hid h64; have hlit : Byt (W1.alloc (.cells #[.int .u8 44, .int .u8 1, .int .u8 0] 5)) (.slice (some ⟨W1.heap.size, 0, none⟩) 3 3) [44, 1, 0] := byt_lit W1 [44, 1, 0]
  have Hlit := Lib.hid hlit; clear hV hV2 hcell2 hc h64 HBr2 hlit
  go_wp2_with fail
  refine (num_any 0 _).mono ?_
  rintro e w' ⟨rfl, rfl⟩
  go_wp2_with fail
  refine (same_any V _ [44, 1, 0] [44, 1, 0] (W1.alloc (.cells #[.int .u8 44, .int .u8 1, .int .u8 0] 5)) (HV.out.below (below_alloc W1 _)) Hlit.out).mono ?_
  rintro e w' ⟨rfl, rfl⟩
  simp only [decide_true]
  clear e1
  have b2 := below_alloc W1 (.cells #[.int .u8 44, .int .u8 1, .int .u8 0] 5)
  have HB2 := Lib.hid (below_step HB1.out b2); have HR2 := Lib.hid (row_later HR1.out b2); have HBr2 := Lib.hid (HBr.out.below b2); have HV22 := Lib.hid (HV2.out.below b2); clear b2 HB1 HR1
  go_wp2_with fail
  refine (Decode_is _ (.slice none 0 0) (s0.enc []) [] s0 (.agg #[.int .u8 1, .int .i64 7, .int .u64 300, .int .u64 0, .int .i64 0, .int .i64 1]) 0 _ rfl (Sp.dec_enc s0_wf s0_ok []) (HT.out.below HB2.out) (by have := HBr2.out; rw [← HB64.out] at this; exact this) (Byt.none _) (by rw [HB64.out]; decide) (by decide)).mono ?_
  rintro e W3 ⟨rfl, hb⟩
  have b4 := below_alloc W3 (.cells #[.int .u8 1, .int .i64 7, .int .u64 300, .int .u64 0, .int .i64 0, .int .i64 1] 25)
  have b5 := below_alloc (W3.alloc (.cells #[.int .u8 1, .int .i64 7, .int .u64 300, .int .u64 0, .int .i64 0, .int .i64 1] 25)) (.cells #[.int .u8 0] 5)
  have HB3 := Lib.hid (below_step (below_step (below_step HB2.out hb) b4) b5)
  have HR3 := Lib.hid (row_later (row_later (row_later HR2.out hb) b4) b5)
  have HQ3 := Lib.hid (row_later (heap_alloc_new W3 (.cells #[.int .u8 1, .int .i64 7, .int .u64 300, .int .u64 0, .int .i64 0, .int .i64 1] 25)) b5)
  have HBr3 := Lib.hid (((HBr2.out.below hb).below b4).below b5); have HV23 := Lib.hid (((HV22.out.below hb).below b4).below b5)
  have HL := Lib.hid (show Byt ((W3.alloc (.cells #[.int .u8 1, .int .i64 7, .int .u64 300, .int .u64 0, .int .i64 0, .int .i64 1] 25)).alloc (.cells #[.int .u8 0] 5)) (.slice (some ⟨W3.heap.size + 1, 0, none⟩) 1 1) [0] by have := byt_lit (W3.alloc (.cells #[.int .u8 1, .int .i64 7, .int .u64 300, .int .u64 0, .int .i64 0, .int .i64 1] 25)) [0]; rw [World.size_alloc] at this; exact this)
  clear hb b4 b5 HB2 HR2 HBr2 HV22
  go_wp2_with fail
  refine (Decode_is _ _ (s0.enc []) [0] Sp.zero (.agg #[.int .u8 0, .int .i64 0, .int .u64 0, .int .u64 0, .int .i64 0, .int .i64 0]) 10 _ rfl s0_other (HT.out.below HB3.out) (by have := HBr3.out; rw [← HB64.out] at this; exact this) HL.out (by rw [HB64.out]; decide) (by decide)).mono ?_
  rintro e W5 ⟨rfl, hb⟩
  have b4 := below_alloc W5 (.cells #[.int .u8 0, .int .i64 0, .int .u64 0, .int .u64 0, .int .i64 0, .int .i64 0] 25)
  have HB5 := Lib.hid (below_step (below_step HB3.out hb) b4)
  have HR5 := Lib.hid (row_later (row_later HR3.out hb) b4)
  have HQ5 := Lib.hid (row_later (row_later HQ3.out hb) b4)
  have HV25 := Lib.hid ((HV23.out.below hb).below b4)
  clear hb b4 HB3 HR3 HBr3 HV23 HL HQ3
  go_wp2_with fail
  refine (Decode_is V2 (.slice none 0 0) ((s0.enc []).take 63) [] Sp.zero (.agg #[.int .u8 0, .int .i64 0, .int .u64 0, .int .u64 0, .int .i64 0, .int .i64 0]) 2 _ rfl s0_short (HT.out.below HB5.out) HV25.out (Byt.none _) (by rw [List.length_take, HB64.out]; decide) (by decide)).mono ?_
  rintro e W7 ⟨rfl, hb⟩
  have b4 := below_alloc W7 (.cells #[.int .u8 0, .int .i64 0, .int .u64 0, .int .u64 0, .int .i64 0, .int .i64 0] 25)
  have HB7 := Lib.hid (below_step (below_step HB5.out hb) b4)
  have r1 := row_later (row_later HR5.out hb) b4
  have r2 := row_later (row_later HQ5.out hb) b4
  clear hb b4 HB5 HR5 HV25 HQ5 e2
  generalize W3.heap.size = n3 at r2 ⊢
  have p0 : (W7.alloc (.cells #[.int .u8 0, .int .i64 0, .int .u64 0, .int .u64 0, .int .i64 0, .int .i64 0] 25)).cell? ⟨w.heap.size, 0, none⟩ = some (.int .u8 1) := cell_of_row _ _ 0 _ _ _ r1
  have q0 : (W7.alloc (.cells #[.int .u8 0, .int .i64 0, .int .u64 0, .int .u64 0, .int .i64 0, .int .i64 0] 25)).cell? ⟨n3, 0, none⟩ = some (.int .u8 1) := cell_of_row _ _ 0 _ _ _ r2
  have p1 : (W7.alloc (.cells #[.int .u8 0, .int .i64 0, .int .u64 0, .int .u64 0, .int .i64 0, .int .i64 0] 25)).cell? ⟨w.heap.size, 1, none⟩ = some (.int .i64 7) := cell_of_row _ _ 1 _ _ _ r1
  have q1 : (W7.alloc (.cells #[.int .u8 0, .int .i64 0, .int .u64 0, .int .u64 0, .int .i64 0, .int .i64 0] 25)).cell? ⟨n3, 1, none⟩ = some (.int .i64 7) := cell_of_row _ _ 1 _ _ _ r2
  have p2 : (W7.alloc (.cells #[.int .u8 0, .int .i64 0, .int .u64 0, .int .u64 0, .int .i64 0, .int .i64 0] 25)).cell? ⟨w.heap.size, 2, none⟩ = some (.int .u64 300) := cell_of_row _ _ 2 _ _ _ r1
  have q2 : (W7.alloc (.cells #[.int .u8 0, .int .i64 0, .int .u64 0, .int .u64 0, .int .i64 0, .int .i64 0] 25)).cell? ⟨n3, 2, none⟩ = some (.int .u64 300) := cell_of_row _ _ 2 _ _ _ r2
  have p3 : (W7.alloc (.cells #[.int .u8 0, .int .i64 0, .int .u64 0, .int .u64 0, .int .i64 0, .int .i64 0] 25)).cell? ⟨w.heap.size, 3, none⟩ = some (.int .u64 0) := cell_of_row _ _ 3 _ _ _ r1
  have q3 : (W7.alloc (.cells #[.int .u8 0, .int .i64 0, .int .u64 0, .int .u64 0, .int .i64 0, .int .i64 0] 25)).cell? ⟨n3, 3, none⟩ = some (.int .u64 0) := cell_of_row _ _ 3 _ _ _ r2
  have p4 : (W7.alloc (.cells #[.int .u8 0, .int .i64 0, .int .u64 0, .int .u64 0, .int .i64 0, .int .i64 0] 25)).cell? ⟨w.heap.size, 4, none⟩ = some (.int .i64 0) := cell_of_row _ _ 4 _ _ _ r1
  have q4 : (W7.alloc (.cells #[.int .u8 0, .int .i64 0, .int .u64 0, .int .u64 0, .int .i64 0, .int .i64 0] 25)).cell? ⟨n3, 4, none⟩ = some (.int .i64 0) := cell_of_row _ _ 4 _ _ _ r2
  have p5 : (W7.alloc (.cells #[.int .u8 0, .int .i64 0, .int .u64 0, .int .u64 0, .int .i64 0, .int .i64 0] 25)).cell? ⟨w.heap.size, 5, none⟩ = some (.int .i64 1) := cell_of_row _ _ 5 _ _ _ r1
  have q5 : (W7.alloc (.cells #[.int .u8 0, .int .i64 0, .int .u64 0, .int .u64 0, .int .i64 0, .int .i64 0] 25)).cell? ⟨n3, 5, none⟩ = some (.int .i64 1) := cell_of_row _ _ 5 _ _ _ r2
  clear r1 r2
  go_wp2_with fail
  refine (num_any 0 _).mono ?_
  rintro e w' ⟨rfl, rfl⟩
  generalize (W7.alloc (.cells #[.int .u8 0, .int .i64 0, .int .u64 0, .int .u64 0, .int .i64 0, .int .i64 0] 25)) = W8 at *
  go_wp2_with fail
  refine (Valid_is ⟨1, 0, 0, 0, 0, 1⟩ false (.agg #[.int .u8 1, .int .i64 0, .int .u64 0, .int .u64 0, .int .i64 0, .int .i64 1]) rfl ⟨by decide, by decide, by decide, by decide, by decide, by decide, by decide, by decide, by decide⟩ (by decide) _).mono ?_
  rintro e W9 ⟨rfl, hb⟩
  have HB9 := Lib.hid (below_step HB7.out hb); clear hb p0 p1 p2 p3 p4 p5 q0 q1 q2 q3 q4 q5
  go_wp2_with fail
  refine (Valid_is ⟨2, 0, 5, 4, 0, 1⟩ true (.agg #[.int .u8 2, .int .i64 0, .int .u64 5, .int .u64 4, .int .i64 0, .int .i64 1]) rfl ⟨by decide, by decide, by decide, by decide, by decide, by decide, by decide, by decide, by decide⟩ (by decide) _).mono ?_
  rintro e W10 ⟨rfl, hb⟩
  have HB10 := Lib.hid (below_step HB9.out hb); clear hb
  go_wp2_with fail
  refine (Valid_is ⟨2, 0, 5, 4, 1, 2⟩ false (.agg #[.int .u8 2, .int .i64 0, .int .u64 5, .int .u64 4, .int .i64 1, .int .i64 2]) rfl ⟨by decide, by decide, by decide, by decide, by decide, by decide, by decide, by decide, by decide⟩ (by decide) _).mono ?_
  rintro e W11 ⟨rfl, hb⟩
  have HB11 := Lib.hid (below_step HB10.out hb); clear hb
  go_wp2
  go_ret
  exact ⟨rfl, HB11.out⟩
end Go.Proofs.YtcebockdfkjoiaaDoor
