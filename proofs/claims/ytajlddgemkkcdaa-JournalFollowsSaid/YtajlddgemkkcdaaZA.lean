/- works. Conditions stand in each theorem. -/
import Derived.Test.YtajlddgemkkcdaaZB
namespace Go.Proofs.Ytajlddgemkkcdaa
open Go.RowKit
set_option linter.unusedVariables false
set_option maxHeartbeats 4000000
set_option maxRecDepth 100000
attribute [local go_sem ↓ 100000] builtin_appX
theorem encE_a : encE 20 [(7, 2)] = 0 := by decide
theorem encE_b : encE 20 [(7, -1)] = 0 := by decide
theorem encL_a : encL 20 [(7, 2)] = [1, 0, 0, 0, 7, 0, 0, 0, 3, 0, 0, 0, 0, 0, 0, 0, 0, 0, 0, 0] := by decide
theorem encL_b : encL 20 [(7, -1)] = [1, 0, 0, 0, 7, 0, 0, 0, 0, 0, 0, 0, 0, 0, 0, 0, 0, 0, 0, 0] := by decide
theorem ent_one (w : World) (a b : Int) : Ent (w.alloc (.cells #[.int .i64 a, .int .i64 b] 40)) (.slice (some ⟨w.heap.size, 0, none⟩) 1 1) [(a, b)] := by
  refine ⟨_, 1, rfl, Nat.le_refl _, fun _ => ⟨w.heap.size, 0, rfl, by simp, fun j hj => ?_⟩⟩
  obtain rfl : j = 0 := by simp at hj; omega
  have h := heap_alloc_new w (.cells #[.int .i64 a, .int .i64 b] 40)
  exact ⟨(cell_of_row _ _ 0 _ 40 (0, 0) h).trans rfl, (cell_of_row _ _ 1 _ 40 (0, 0) h).trans rfl⟩
def En1 (w : World) (b : List UInt8) (e : Ending) (w' : World) : Prop := (∃ A c, e = .returned (.tuple #[.slice A 20 c, .int .i64 0]) ∧ Byt w' (.slice A 20 c) b) ∧ Below w.heap.size w w'
theorem enc_a (w : World) : Calls Try.prog 8 #[.int .i64 20, .slice (some ⟨w.heap.size, 0, none⟩) 1 1] (w.alloc (.cells #[.int .i64 7, .int .i64 2] 40)) (En1 (w.alloc (.cells #[.int .i64 7, .int .i64 2] 40)) [1, 0, 0, 0, 7, 0, 0, 0, 3, 0, 0, 0, 0, 0, 0, 0, 0, 0, 0, 0]) := by
  have h := encode_any 20 _ [(7, 2)] _ (ent_one w 7 2) (by decide)
  rw [encE_a, encL_a] at h
  refine h.mono ?_
  rintro e w' ⟨⟨v, rfl, ho⟩, hb⟩
  obtain ⟨A, c, rfl⟩ := own_form8 ho
  exact ⟨⟨A, c, rfl, Byt.of_own ho⟩, hb⟩
theorem enc_b (w : World) : Calls Try.prog 8 #[.int .i64 20, .slice (some ⟨w.heap.size, 0, none⟩) 1 1] (w.alloc (.cells #[.int .i64 7, .int .i64 (-1)] 40)) (En1 (w.alloc (.cells #[.int .i64 7, .int .i64 (-1)] 40)) [1, 0, 0, 0, 7, 0, 0, 0, 0, 0, 0, 0, 0, 0, 0, 0, 0, 0, 0, 0]) := by
  have h := encode_any 20 _ [(7, -1)] _ (ent_one w 7 (-1)) (by decide)
  rw [encE_b, encL_b] at h
  refine h.mono ?_
  rintro e w' ⟨⟨v, rfl, ho⟩, hb⟩
  obtain ⟨A, c, rfl⟩ := own_form8 ho
  exact ⟨⟨A, c, rfl, Byt.of_own ho⟩, hb⟩
theorem info5y : (Try.prog.info? 5).map (fun i => (i.zero, i.size, i.bytes)) = some (some (.int .u8 0), 1, 1) := by kernel_rfl
/-- Bytes of one row are appended to another. -/
theorem app_byt {W : World} {base g z n m c cz : Nat} {xs ys : List UInt8} (hown : W.ownsRow base 5 1 (.slice (some ⟨g, 0, none⟩) n c) n (bv xs)) (hz : ∀ j (h : j < ys.length), W.cell? ⟨z, j, none⟩ = some (.int .u8 (ys[j].toNat : Int))) (hm : m = ys.length) (hx : n = xs.length) (hn : n + m ≤ 1000) (hbase : base ≤ W.heap.size) :
    ∃ B d W', (appX #[24, 24] 24 #[.slice (some ⟨g, 0, none⟩) n c, .slice (some ⟨z, 0, none⟩) m cz]).run Try.prog W = .ok (.value (.slice B (n + m) d)) W' ∧ Byt W' (.slice B (n + m) d) (xs ++ ys) ∧ W.grownBy W' (some g) := by
  obtain ⟨i0, hi0, hz0, hz1, hz2⟩ := info_parts8 info5y
  obtain ⟨B, d, W', h1, h2, h3, _⟩ := app_src (m := m) (n := n) (A := some ⟨z, 0, none⟩) (c := cz) (news := bv ys) (v := .slice (some ⟨g, 0, none⟩) n c) (xs := bv xs) (W := W) (base := base) Try.underlying24 hi0 hz0 hz1 hz2 rfl (by decide) hown (fun h => by
    have : ys = [] := List.eq_nil_of_length_eq_zero (by omega)
    subst this
    rfl) (fun h => ⟨_, rfl, fun j u hu => by
      have hj : j < ys.length := by rw [← bv_length]; exact (List.getElem?_eq_some_iff.1 hu).1
      rw [add_plain, Nat.zero_add, hz j hj, ← bv_get hj, hu]⟩) (by rw [bv_length]; omega) (bv_one ys) (by unfold maxLen; omega) (by omega) hbase
  refine ⟨B, d, W', h1, ?_, h3⟩
  rw [← bv_append] at h2
  exact Byt.of_own h2
theorem works_any (w : World) : Calls Try.prog 7 #[] w (fun e w' => e = .returned (.bool true) ∧ Below w.heap.size w w') := by
  have k11 : Hid (∀ W, Calls Try.prog 11 #[.int .i64 11] W (Ret W (.int .i64 0))) := Lib.hid (fun W => cap_any 11 W)
  have k12 : Hid (∀ W, Calls Try.prog 11 #[.int .i64 12] W (Ret W (.int .i64 1))) := Lib.hid (fun W => cap_any 12 W)
  have k27 : Hid (∀ W, Calls Try.prog 11 #[.int .i64 27] W (Ret W (.int .i64 2))) := Lib.hid (fun W => cap_any 27 W)
  have k28 : Hid (∀ W, Calls Try.prog 11 #[.int .i64 28] W (Ret W (.int .i64 3))) := Lib.hid (fun W => cap_any 28 W)
  have p7 : Hid (∀ W, Calls Try.prog 13 #[.int .i64 28, .int .i64 7] W (Ret W (.int .i64 3))) := Lib.hid (fun W => pages_any 28 7 (by unfold I64; omega) W)
  have p0 : Hid (∀ W, Calls Try.prog 13 #[.int .i64 28, .int .i64 0] W (Ret W (.int .i64 1))) := Lib.hid (fun W => pages_any 28 0 (by unfold I64; omega) W)
  have hmk : ∀ W : World, (Instr.makeSlice 24 (.int .i64 12) (.int .i64 12)).run Try.prog W = .ok (.slice (some ⟨W.heap.size, 0, none⟩) 12 12) (W.alloc (.cells (bv (List.replicate 12 0)).toArray 5)) := fun W => make_bytes 12 (by decide) W
  go_enter Try.func7, Try.ntmps7
  go_upto_region 6 with (first
    | ((go_at_call 8; with_reducible refine (enc_a _).mono ?_); rintro e w1 ⟨⟨A1, c1, rfl, ho1⟩, hb1⟩; have HO1 := Lib.hid ho1; have HB1 := Lib.hid hb1; clear ho1 hb1)
    | ((go_at_call 8; with_reducible refine (enc_b _).mono ?_); rintro e w2 ⟨⟨A2, c2, rfl, ho2⟩, hb2⟩; have HO2 := Lib.hid ho2; have HB2 := Lib.hid hb2; clear ho2 hb2)
    | ((go_at_call 11; with_reducible refine (k11.out _).mono ?_); rintro e w3 ⟨rfl, hg⟩; have HB3 := Lib.hid hg.below; clear hg)
    | ((go_at_call 11; with_reducible refine (k12.out _).mono ?_); rintro e w4 ⟨rfl, hg⟩; have HB4 := Lib.hid hg.below; clear hg)
    | ((go_at_call 11; with_reducible refine (k27.out _).mono ?_); rintro e w5 ⟨rfl, hg⟩; have HB5 := Lib.hid hg.below; clear hg)
    | ((go_at_call 11; with_reducible refine (k28.out _).mono ?_); rintro e w6 ⟨rfl, hg⟩; have HB6 := Lib.hid hg.below; clear hg)
    | ((go_at_call 13; with_reducible refine (p7.out _).mono ?_); rintro e w7 ⟨rfl, hg⟩; have HB7 := Lib.hid hg.below; clear hg)
    | ((go_at_call 13; with_reducible refine (p0.out _).mono ?_); rintro e w8 ⟨rfl, hg⟩; have HB8 := Lib.hid hg.below; clear hg)
    | ((go_at_call 10; with_reducible refine (num_any _ _).mono ?_); rintro e w9 ⟨rfl, hg⟩; first | (have HB10 := Lib.hid (HB9.out.trans (hg.below.mono HB9.out.size)); clear hg) | (have HB9 := Lib.hid hg.below; clear hg)))
  obtain ⟨gz, hgz⟩ : ∃ gz, gz = w9.heap.size := ⟨_, rfl⟩
  have hX0 : (w9.alloc (.cells (bv (List.replicate 12 0)).toArray 5)).heap[gz]? = some (.cells (bv (List.replicate 12 0)).toArray 5 (0, 0)) := by rw [hgz]; exact heap_alloc_new w9 _
  have hXb : Below w9.heap.size w9 (w9.alloc (.cells (bv (List.replicate 12 0)).toArray 5)) := (Below.refl _ _).alloc (Nat.le_refl _) _
  have hb29 : Below w2.heap.size w2 (w9.alloc (.cells (bv (List.replicate 12 0)).toArray 5)) := by
    have a3 := HB3.out
    have a4 := a3.trans (HB4.out.mono a3.size)
    have a5 := a4.trans (HB5.out.mono a4.size)
    have a6 := a5.trans (HB6.out.mono a5.size)
    have a7 := a6.trans (HB7.out.mono a6.size)
    have a8 := a7.trans (HB8.out.mono a7.size)
    have a9 := a8.trans (HB10.out.mono a8.size)
    exact a9.trans (hXb.mono a9.size)
  have hb1 : Below w1.heap.size w1 w2 := ((Below.refl w1.heap.size w1).alloc (Nat.le_refl _) _).trans (HB2.out.mono (by simp))
  have hb0 : Below w.heap.size w w1 := ((Below.refl w.heap.size w).alloc (Nat.le_refl _) _).trans (HB1.out.mono (by simp))
  have hoa := HO1.out.below (hb1.trans (hb29.mono hb1.size))
  have hob := HO2.out.below hb29
  rw [← hgz]
  obtain ⟨X, hX⟩ : ∃ X, X = w9.alloc (.cells (bv (List.replicate 12 0)).toArray 5) := ⟨_, rfl⟩
  have hX2 : X = w9.alloc (.cells (bv [0, 0, 0, 0, 0, 0, 0, 0, 0, 0, 0, 0]).toArray 5) := hX
  rw [← hX] at hX0 hb29 hoa hob
  rw [← hX2]
  have hbX : Below w.heap.size w X := hb0.trans ((hb1.trans (hb29.mono hb1.size)).mono hb0.size)
  clear hX hX2 hXb hmk HB1 HB2 HB3 HB4 HB5 HB6 HB7 HB8 HB9 HB10 HO1 HO2 hb0 hb1 hb29 k11 k12 k27 k28 p7 p0
  have hz : ∀ W', Below X.heap.size X W' → ∀ j, j < 12 → W'.cell? ⟨gz, j, none⟩ = some (.int .u8 0) := fun W' hb j hj => by
    have h1 := (hb.block gz (Array.getElem?_eq_some_iff.1 hX0).1).trans hX0
    rw [cell_of_row _ _ j _ 5 (0, 0) h1]
    have : j = 0 ∨ j = 1 ∨ j = 2 ∨ j = 3 ∨ j = 4 ∨ j = 5 ∨ j = 6 ∨ j = 7 ∨ j = 8 ∨ j = 9 ∨ j = 10 ∨ j = 11 := by omega
    rcases this with rfl | rfl | rfl | rfl | rfl | rfl | rfl | rfl | rfl | rfl | rfl | rfl <;> rfl
  -- the first append
  have hby1 : Below X.heap.size X (X.alloc (.cells #[.int .u8 1, .int .u8 0, .int .u8 0, .int .u8 0, .int .u8 7, .int .u8 0, .int .u8 0, .int .u8 0, .int .u8 3, .int .u8 0, .int .u8 0, .int .u8 0] 5)).drew := ((Below.refl _ _).alloc (Nat.le_refl _) _).drew
  have hown1 : (X.alloc (.cells #[.int .u8 1, .int .u8 0, .int .u8 0, .int .u8 0, .int .u8 7, .int .u8 0, .int .u8 0, .int .u8 0, .int .u8 3, .int .u8 0, .int .u8 0, .int .u8 0] 5)).drew.ownsRow X.heap.size 5 1 (.slice (some ⟨X.heap.size, 0, none⟩) 12 12) 12 (bv [1, 0, 0, 0, 7, 0, 0, 0, 3, 0, 0, 0]) :=
    ⟨rfl, .inr ⟨X.heap.size, 12, _, rfl, Nat.le_refl _, heap_alloc_new X _, Nat.le_refl _, by unfold maxLen; omega, rfl, rfl⟩⟩
  obtain ⟨B1, d1, W2, hrun1, hst1, hgr1⟩ := app_byt (z := gz) (m := 8) (cz := 12) (ys := List.replicate 8 0) hown1 (fun j hj => by
    have hj' : j < 8 := by simpa using hj
    rw [hz _ hby1 j (by omega), List.getElem_replicate]
    rfl) (by simp) rfl (by omega) hby1.size
  have hbw2 : Below X.heap.size X W2 := hby1.grown hgr1 hby1.size (fun j hj => by cases hj; exact Nat.le_refl _)
  -- the second append
  have hby2 : Below X.heap.size X (W2.alloc (.cells #[.int .u8 1, .int .u8 0, .int .u8 0, .int .u8 0, .int .u8 7, .int .u8 0, .int .u8 0, .int .u8 0] 5)) := hbw2.alloc hbw2.size _
  have hown2 : (W2.alloc (.cells #[.int .u8 1, .int .u8 0, .int .u8 0, .int .u8 0, .int .u8 7, .int .u8 0, .int .u8 0, .int .u8 0] 5)).ownsRow W2.heap.size 5 1 (.slice (some ⟨W2.heap.size, 0, none⟩) 8 8) 8 (bv [1, 0, 0, 0, 7, 0, 0, 0]) :=
    ⟨rfl, .inr ⟨W2.heap.size, 8, _, rfl, Nat.le_refl _, heap_alloc_new W2 _, Nat.le_refl _, by unfold maxLen; omega, rfl, rfl⟩⟩
  obtain ⟨B2, d2, W3, hrun2, hst2, hgr2⟩ := app_byt (z := gz) (m := 12) (cz := 12) (ys := List.replicate 12 0) hown2 (fun j hj => by
    have hj' : j < 12 := by simpa using hj
    rw [hz _ hby2 j (by omega), List.getElem_replicate]
    rfl) (by simp) rfl (by omega) (by simp)
  have hbw3 : Below X.heap.size X W3 := hby2.grown hgr2 hby2.size (fun j hj => by cases hj; exact hbw2.size)
  obtain ⟨sa, hsa⟩ : ∃ sa : ByteArray, sa = ⟨([1, 0, 0, 0, 7, 0, 0, 0, 3, 0, 0, 0, 0, 0, 0, 0, 0, 0, 0, 0] : List UInt8).toArray⟩ := ⟨_, rfl⟩
  obtain ⟨sb, hsb⟩ : ∃ sb : ByteArray, sb = ⟨([1, 0, 0, 0, 7, 0, 0, 0, 0, 0, 0, 0, 0, 0, 0, 0, 0, 0, 0, 0] : List UInt8).toArray⟩ := ⟨_, rfl⟩
  have hca : ∀ W', Below X.heap.size X W' → (convert 24 9 (.slice A1 20 c1)).run Try.prog W' = .ok (.string sa) W' := fun W' hb => by rw [hsa]; exact run_string 24 9 5 Try.underlying24 Try.underlying5 Try.underlying9 (hoa.below hb)
  have hcb : ∀ W', Below X.heap.size X W' → (convert 24 9 (.slice A2 20 c2)).run Try.prog W' = .ok (.string sb) W' := fun W' hb => by rw [hsb]; exact run_string 24 9 5 Try.underlying24 Try.underlying5 Try.underlying9 (hob.below hb)
  have ca1 := hca _ (Below.refl _ X).drew
  have ca2 := hca _ hby1
  have ca3 := hca _ hbw2
  have cb1 := hcb _ hbw2
  have cb2 := hcb _ hby2
  have cb3 := hcb _ hbw3
  have cc1 : (convert 24 9 (.slice B1 20 d1)).run Try.prog W2 = .ok (.string sa) W2 := by rw [hsa]; exact run_string 24 9 5 Try.underlying24 Try.underlying5 Try.underlying9 hst1
  have cc2 : (convert 24 9 (.slice B2 20 d2)).run Try.prog W3 = .ok (.string sb) W3 := by rw [hsb]; exact run_string 24 9 5 Try.underlying24 Try.underlying5 Try.underlying9 hst2
  have HBX := Lib.hid hbX
  have HBW3 := Lib.hid hbw3
  have hr1 : (appX #[24, 24] 24 #[.slice (some ⟨X.heap.size, 0, none⟩) 12 12, .slice (some ⟨gz, 0, none⟩) 8 12]).run Try.prog (X.alloc (.cells #[.int .u8 1, .int .u8 0, .int .u8 0, .int .u8 0, .int .u8 7, .int .u8 0, .int .u8 0, .int .u8 0, .int .u8 3, .int .u8 0, .int .u8 0, .int .u8 0] 5)).drew = .ok (.value (.slice B1 20 d1)) W2 := hrun1
  have hr2 : (appX #[24, 24] 24 #[.slice (some ⟨W2.heap.size, 0, none⟩) 8 8, .slice (some ⟨gz, 0, none⟩) 12 12]).run Try.prog (W2.alloc (.cells #[.int .u8 1, .int .u8 0, .int .u8 0, .int .u8 0, .int .u8 7, .int .u8 0, .int .u8 0, .int .u8 0] 5)) = .ok (.value (.slice B2 20 d2)) W3 := hrun2
  clear hrun1 hrun2 hca hcb hz hX0 hoa hob hby1 hby2 hown1 hown2 hst1 hst2 hgr1 hgr2 hbw2 hbw3 hsa hsb hbX hgz
  go_region
  all_goals
    clear ca1 ca2 ca3 cb1 cb2 cb3 cc1 cc2 hr1 hr2
    have HB3W : Hid (Below w.heap.size w W3) := Lib.hid (HBX.out.trans (HBW3.out.mono HBX.out.size))
    clear HBX HBW3
    go_upto_region 9 with (first
      | ((go_at_call 22; with_reducible refine (delta_any 1 0 0 1 5 _).mono ?_); rintro e u1 ⟨g1, rfl, he1, hb1⟩; have HE1 := Lib.hid he1; have HU1 := Lib.hid hb1; clear he1 hb1)
      | ((go_at_call 22; with_reducible refine (delta_any 3 1 0 1 6 _).mono ?_); rintro e u2 ⟨g2, rfl, he2, hb2⟩; have HE2 := Lib.hid he2; have HU2 := Lib.hid hb2; clear he2 hb2)
      | ((go_at_call 22; with_reducible refine (delta_any 2 1 0 2 7 _).mono ?_); rintro e u3 ⟨g3, rfl, he3, hb3⟩; have HE3 := Lib.hid he3; have HU3 := Lib.hid hb3; have he1' := (HE1.out.below HU2.out).below hb3; have he2' := HE2.out.below hb3; have HFC := Lib.hid (follow_call g1 g2 g3 _ he1' he2' he3); clear he3 hb3 he1' he2')
      | ((go_at_call 19; with_reducible refine HFC.out.mono ?_); rintro e u4 ⟨⟨A5, c5, B5, d5, rfl, hen, hpl⟩, hb4⟩; have HEN := Lib.hid hen; have HPL := Lib.hid hpl; have HU4 := Lib.hid hb4; clear hen hpl hb4))
    have hbl : Below u4.heap.size u4 (((u4.alloc (.cells #[.slice A5 2 c5, .int .u64 3, .slice B5 2 d5] 52)).alloc (.cells #[.int .i64 1, .int .i64 5, .int .i64 1, .int .i64 6] 40)).alloc (.cells #[.int .i64 0, .int .i64 1] 3)) := (((Below.refl _ _).alloc (Nat.le_refl _) _).alloc (by simp) _).alloc (by simp; omega) _
    have hg2 : (((u4.alloc (.cells #[.slice A5 2 c5, .int .u64 3, .slice B5 2 d5] 52)).alloc (.cells #[.int .i64 1, .int .i64 5, .int .i64 1, .int .i64 6] 40)).alloc (.cells #[.int .i64 0, .int .i64 1] 3)).heap[u4.heap.size + 1]? = some (.cells #[.int .i64 1, .int .i64 5, .int .i64 1, .int .i64 6] 40 (0, 0)) :=
      (heap_alloc_old _ _ (by simp)).trans (heap_alloc2_new u4 _ _)
    have hg3 : (((u4.alloc (.cells #[.slice A5 2 c5, .int .u64 3, .slice B5 2 d5] 52)).alloc (.cells #[.int .i64 1, .int .i64 5, .int .i64 1, .int .i64 6] 40)).alloc (.cells #[.int .i64 0, .int .i64 1] 3)).heap[u4.heap.size + 2]? = some (.cells #[.int .i64 0, .int .i64 1] 3 (0, 0)) := by
      have h1 := heap_alloc_new ((u4.alloc (.cells #[.slice A5 2 c5, .int .u64 3, .slice B5 2 d5] 52)).alloc (.cells #[.int .i64 1, .int .i64 5, .int .i64 1, .int .i64 6] 40)) (.cells #[.int .i64 0, .int .i64 1] 3)
      simpa using h1
    have hAL := alike_yes _ (.slice A5 2 c5) (.slice B5 2 d5) (.slice (some ⟨u4.heap.size + 1, 0, none⟩) 2 2) (.slice (some ⟨u4.heap.size + 2, 0, none⟩) 2 2) 3 [(1, 5), (1, 6)] [0, 1] (HEN.out.below hbl) (HPL.out.below hbl)
      ⟨_, 2, rfl, Nat.le_refl _, fun _ => ⟨u4.heap.size + 1, 0, rfl, by simp, fun j hj => by
        have : j = 0 ∨ j = 1 := by simp at hj; omega
        rcases this with rfl | rfl <;> exact ⟨(cell_of_row _ _ _ _ 40 (0, 0) hg2).trans rfl, (cell_of_row _ _ _ _ 40 (0, 0) hg2).trans rfl⟩⟩⟩
      ⟨_, 2, rfl, Nat.le_refl _, fun _ => ⟨u4.heap.size + 2, _, rfl, hg3, fun j hj => by
        have : j = 0 ∨ j = 1 := by simp at hj; omega
        rcases this with rfl | rfl <;> rfl⟩⟩ (by decide) (by decide)
    have HAL := Lib.hid hAL
    have hbz : Below w.heap.size w u4 := by
      have a1 := HB3W.out.trans (HU1.out.mono HB3W.out.size)
      have a2 := a1.trans (HU2.out.mono a1.size)
      have a3 := a2.trans (HU3.out.mono a2.size)
      have a4 := a3.alloc (o := .cells #[.int .u8 2, .int .i64 0, .int .u64 1, .int .u64 0, .int .i64 0, .int .i64 1, .slice (some ⟨g1, 0, none⟩) 1 1, .int .u8 2, .int .i64 0, .int .u64 3, .int .u64 1, .int .i64 0, .int .i64 1, .slice (some ⟨g2, 0, none⟩) 1 1, .int .u8 2, .int .i64 0, .int .u64 2, .int .u64 1, .int .i64 0, .int .i64 2, .slice (some ⟨g3, 0, none⟩) 1 1] 46) a3.size
      exact a4.trans (HU4.out.mono a4.size)
    have HBZ := Lib.hid (hbz.trans (hbl.mono hbz.size))
    clear hbl hg2 hg3 hAL hbz HU1 HU2 HU3 HU4 HEN HPL HFC HE1 HE2 HE3 HB3W
    go_wp2_with ((go_at_call 18; with_reducible refine HAL.out.mono ?_); rintro e u5 ⟨rfl, hb5⟩; have HU5 := Lib.hid hb5; clear hb5)
    go_ret
    exact ⟨rfl, HBZ.out.trans (HU5.out.mono HBZ.out.size)⟩
end Go.Proofs.Ytajlddgemkkcdaa
