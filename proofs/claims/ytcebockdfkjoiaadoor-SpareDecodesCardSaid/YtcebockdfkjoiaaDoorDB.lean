/- The contracts of bytes.Equal, Blank and the reference's Decode. Conditions stand in each theorem. -/
import Derived.Test.YtcebockdfkjoiaaDoorDA
import Derived.Test.YtcebockdfkjoiaaDoorRC
import Derived.Test.YtcebockdfkjoiaaDoorR
import Derived.Deep.RegionLaw
import Derived.Deep.RegionHeld3
import Derived.Deep.RegionWith
import Derived.Deep.QuietTactic
import Derived.BigQuiet
import Derived.Deep.DeepCutAuto
namespace Go.Proofs.YtcebockdfkjoiaaDoor
open Go.RowKit
set_option linter.unusedVariables false
set_option maxHeartbeats 4000000
set_option maxRecDepth 100000

/-- A world in which at most new blocks lie. -/
structure Gx (w : World) where
  W : World
  h : Below w.heap.size w W
theorem gx_of {P : Program} {f : Nat} {args : Array Value} {w : World} {v : Value} (p : Gx w) (h : Calls P f args p.W fun e w' => e = .returned v ∧ Below p.W.heap.size p.W w') : Calls P f args p.W fun e w'' => e = .returned v ∧ ∃ q : Gx w, w'' = q.W :=
  h.mono fun e w' ⟨a, b⟩ => ⟨a, ⟨w', p.h.trans (b.mono p.h.size)⟩, rfl⟩
theorem gx_same {P : Program} {f : Nat} {args : Array Value} {w : World} {v : Value} (p : Gx w) (h : Calls P f args p.W fun e w' => e = .returned v ∧ p.W = w') : Calls P f args p.W fun e w'' => e = .returned v ∧ ∃ q : Gx w, w'' = q.W :=
  h.mono fun e w' ⟨a, b⟩ => ⟨a, p, b.symm⟩
theorem gx_ne (w : World) : Nonempty (Gx w) := ⟨⟨w, Below.refl _ _⟩⟩
/-- A drawn region that reads and calls, and the calls may lay blocks. -/
theorem wp_region_gx {P : Program} {id : Nat} {Q : Exit → Act → World → Prop} {a : Act} {w : World} {l : List Oper} (hm : P.follows .mixedOrders = true) (hB : Region.lexB .any l.toArray = true)
    (h : wpQuiet P l.toArray (fun W => ∃ p : Gx w, W = p.W) (fun a' => ∀ w', (∃ p : Gx w, w' = p.W) → Q .normal a' w') l a) : (Code.region id l.toArray true).wp P Q a w :=
  wp_region_quiet (C := fun W => ∃ p : Gx w, W = p.W) hm hB ⟨⟨w.drew, (Below.refl _ _).drew⟩, rfl⟩ (by simpa using h)
theorem wpQuiet_atx {P : Program} {ops : Array Oper} {C : World → Prop} {Q : Act → Prop} {l : List Oper} {a : Act} (h : ∀ K : Act → Prop, (∀ b, wpQuiet P ops C Q l b → K b) → K a) : wpQuiet P ops C Q l a := h _ fun _ x => x
theorem Equal_any (v1 v2 : Value) (l1 l2 : List UInt8) (w : World) (h1 : Byt w v1 l1) (h2 : Byt w v2 l2) : Calls Tryd.prog 31 #[v1, v2] w fun e w' => e = .returned (.bool (decide (l1 = l2))) ∧ w = w' := by
  have r1 := run_string 26 9 5 Tryd.underlying26 Tryd.underlying5 Tryd.underlying9 h1
  have r2 := run_string 26 9 5 Tryd.underlying26 Tryd.underlying5 Tryd.underlying9 h2
  clear h1 h2
  by_cases h : l1 = l2
  · subst h
    simp only [decide_true]
    go_enter Tryd.func31, Tryd.ntmps31
    go_wp2
    go_ret
    exact ⟨rfl, rfl⟩
  · simp only [decide_eq_false h]
    have H := Lib.hid h; clear h
    have hne : (l1 == l2) = false := by simpa using H.out
    go_enter Tryd.func31, Tryd.ntmps31
    go_wp2
    go_ret
    exact ⟨ret_bool (by first | rfl | assumption), rfl⟩
theorem Blank_any (v : Value) (l : List UInt8) (w : World) (h : Byt w v l) : Calls Tryd.prog 18 #[v] w fun e w' => e = .returned (.bool (decide (l = List.replicate 64 255))) ∧ Below w.heap.size w w' := by
  have b0 := below_alloc w (.cells #[.int .u8 255] 5)
  have HB0 := Lib.hid b0
  have H := Lib.hid (h.below b0)
  have hc : (w.alloc (.cells #[.int .u8 255] 5)).cell? ⟨w.heap.size, 0, none⟩ = some (.int .u8 255) := cell_of_row _ _ 0 _ _ _ (heap_alloc_new w _)
  have HR := Lib.hid (repeat_any w.heap.size 64 (w.alloc (.cells #[.int .u8 255] 5)) (by omega) (by omega) (by simp) hc)
  obtain ⟨A, c, rfl, -⟩ := h
  clear b0 hc
  go_enter Tryd.func18, Tryd.ntmps18
  go_wp2_with fail
  refine HR.out.mono ?_
  rintro e w1 ⟨⟨r, rfl, hr⟩, hb⟩
  have H1 := Lib.hid (H.out.below hb); have HR1 := Lib.hid hr; have HB1 := Lib.hid (below_step HB0.out hb); clear hr hb
  obtain ⟨A1, c1, hv, -, -⟩ := HR1.out
  subst hv
  go_wp2_with fail
  refine (Equal_any _ _ l _ w1 H1.out HR1.out).mono ?_
  rintro e w2 ⟨rfl, rfl⟩
  go_wp2
  go_ret
  exact ⟨rfl, HB1.out⟩
theorem rDecode_len (v1 v2 : Value) (b data : List UInt8) (w : World) (h : Byt w v1 b) (hb : b.length ≤ maxLen) (hl : b.length ≠ 64) : Calls Tryd.prog 17 #[v1, v2] w (DecPost w b data) := by
  have He := Lib.hid (dec_len b data hl)
  obtain ⟨A, c, rfl, -, -⟩ := h
  unfold maxLen at hb
  have hl2 : ¬ (b.length : Int) = 64 := by omega
  generalize b.length = n at *
  clear hl
  go_enter Tryd.func17, Tryd.ntmps17
  go_wp2
  (try simp only [Exit.inBlock, Exit.then])
  refine bodyPost_ret (results_row1 (a := 4) (b := 5) (ty := 25) rfl _ _ w.heap.size 25 #[.int .u8 0, .int .i64 0, .int .u64 0, .int .u64 0, .int .i64 0, .int .i64 0] (0, 0) _ rfl ?_ Tryd.underlying25 rfl info25) rfl ?_
  · exact heap_alloc_new w _
  · exact ⟨by rw [He.out]; rfl, below_alloc w _⟩
theorem raw_kind (b : List UInt8) (h : 4 < b.length) : (Sp.raw b).kind = b[4].toNat := by
  unfold Sp.raw
  simp only
  rw [List.drop_eq_getElem_cons h, List.take_succ_cons, List.take_zero]
  simp [getV]
theorem get_bel {w : World} {v : Value} {b : List UInt8} (hB : Byt w v b) (hl : b.length = 64) (a n : Nat) (A N z : Int) (hA : A = a) (hN : N = n) (hz : z = (getV ((b.drop a).take n) : Nat)) (ha : a + n ≤ 64) (hn : n ≤ 8) (W : World) (hW : Bel w W) :
    Calls Tryd.prog 30 #[v, .int .i64 A, .int .i64 N] W fun e w' => e = .returned (.int .u64 z) ∧ W = w' := by
  subst hz
  exact get_any v b a n A N W hA hN (hB.below hW) hn (by omega) (by omega)
theorem getV_cut (b : List UInt8) (hl : b.length = 64) (a n : Nat) (ha : a + n ≤ 64) : getV ((b.drop a).take n) < 256 ^ n := by
  have := getV_lt ((b.drop a).take n)
  rwa [show ((b.drop a).take n).length = n by rw [List.length_take, List.length_drop]; omega] at this
theorem bel_alloc {w W : World} (h : Bel w W) (o : Obj) : Bel w (W.alloc o).drew := (Bel.alloc h o).drew
theorem rDecode_64 (v1 v2 : Value) (b data : List UInt8) (w : World) (h : Byt w v1 b) (h2 : Byt w v2 data) (hn : data.length ≤ 300) (hl : b.length = 64) : Calls Tryd.prog 17 #[v1, v2] w (DecPost w b data) := by
  obtain ⟨A, c, rfl, hc, hr⟩ := h
  have hB : Byt w (.slice A b.length c) b := ⟨A, c, rfl, hc, hr⟩
  obtain ⟨V2, e2, h3⟩ := slice_h (hi := 60) hB (by omega) hc
  have l60 : (b.take 60).length = 60 := by rw [List.length_take]; omega
  rw [hl] at e2 hB hc ⊢
  replace e2 : ∀ W : World, (Instr.slice 26 (.slice A 64 c) none (some (.int .i64 60)) none).run Tryd.prog W = .ok V2 W := e2
  obtain ⟨Z, hZ⟩ : ∃ Z : Obj, Z = .cells #[.int .u8 0, .int .i64 0, .int .u64 0, .int .u64 0, .int .i64 0, .int .i64 0] 25 := ⟨_, rfl⟩
  have b0 := below_alloc w Z
  have b1 : Below w.heap.size w (w.alloc Z).drew := b0.drew
  obtain ⟨va, wa, vb, wb, hr1, hr2, ho, hbb⟩ := two_appends (w.alloc Z).drew v2 V2 data (b.take 60) (h2.below b1) (h3.below b1) (by omega) (by omega)
  have HB := Lib.hid (Byt.of_own ho)
  have hlen : (data ++ b.take 60).length = data.length + 60 := by rw [List.length_append, l60]
  have b2 : Below w.heap.size w ((w.alloc Z).alloc (.cells #[] 5)).drew := (b0.alloc b0.size _).drew
  have b3 : Below w.heap.size w wa := by
    obtain ⟨va', wa', hra, hoa, hba⟩ := one_append (w.alloc Z).drew v2 data (h2.below b1) (by omega)
    have e := hr1.symm.trans hra
    cases e
    exact b1.trans (hba.mono b1.size)
  have hz : Below (w.alloc Z).heap.size (w.alloc Z) wb := (Below.refl _ _).drew.trans hbb
  have Hbb := Lib.hid (show Below w.heap.size w wb from b0.trans (hz.mono (by simp)))
  have hlt := crc32_lt (data ++ b.take 60)
  obtain ⟨q, hq⟩ : ∃ q, q = crc32 (data ++ b.take 60) := ⟨_, rfl⟩
  have HC := Lib.hid (refCRC32 vb _ wb HB.out (by rw [hlen]; unfold maxLen; omega))
  rw [← hq] at HC hlt
  have hx := getV_lt (b.drop 60)
  rw [List.length_drop, hl] at hx
  obtain ⟨x, hxe⟩ : ∃ x, x = getV (b.drop 60) := ⟨_, rfl⟩
  have HG := Lib.hid (fun (W : World) (hW : Bel w W) => (show Calls Tryd.prog 30 #[.slice A 64 c, .int .i64 60, .int .i64 4] W fun e w' => e = .returned (.int .u64 (x : Int)) ∧ W = w' from by
    have := get_any (.slice A 64 c) b 60 4 60 4 W rfl rfl (hB.below hW) (by omega) (by omega) (by omega)
    rw [List.take_of_length_le (by rw [List.length_drop]; omega), ← hxe] at this
    exact this))
  rw [← hxe] at hx
  have HBx := Lib.hid hB
  have HDt := Lib.hid h2
  obtain ⟨A0, c0, rfl, -, -⟩ := h2
  obtain ⟨A1, c1, hvb, -, -⟩ := HB.out
  subst hvb
  have hrow : wb.heap[w.heap.size]? = some (.cells #[.int .u8 0, .int .i64 0, .int .u64 0, .int .u64 0, .int .i64 0, .int .i64 0] 25 (0, 0)) := by
    rw [hZ] at hz; exact zero_row hz
  rw [hZ] at hr1
  have Hr1 := Lib.hid (show (Builtin.append_ #[26, 26] 26 #[.slice (some ⟨w.heap.size + 1, 0, none⟩) 0 0, .slice A0 data.length c0]).run Tryd.prog ((w.alloc (.cells #[.int .u8 0, .int .i64 0, .int .u64 0, .int .u64 0, .int .i64 0, .int .i64 0] 25)).alloc (.cells #[] 5)).drew = .ok va wa from by
    have e : ((w.alloc (.cells #[.int .u8 0, .int .i64 0, .int .u64 0, .int .u64 0, .int .i64 0, .int .i64 0] 25)).drew).heap.size = w.heap.size + 1 := by simp
    rw [e] at hr1
    exact hr1)
  have Hr2 := Lib.hid hr2
  have hwr : IntKind.u64.wrap (q : Int) = (q : Int) := by rw [IntKind.wrap_u64]; omega
  have HD := Lib.hid b1
  have HD2 := Lib.hid b2
  have HD3 := Lib.hid b3
  rw [hZ] at HD HD2
  have Hrow := Lib.hid hrow
  have HX := Lib.hid hxe
  have HQ := Lib.hid hq
  have Hl := Lib.hid hl
  clear hr1 hr2 ho hbb hz hrow hlen b1 b0 b2 b3 l60 h3 hB hr hc hxe hq hl hZ
  have hfin : ∀ R, Sp.dec b data = R → ∀ w', Below w.heap.size w w' → DecPost w b data (.returned (.tuple #[R.1.val, .int .i64 R.2])) w' := fun R hR w' hb => ⟨by rw [hR], hb⟩
  have Hfin := Lib.hid hfin; clear hfin
  generalize DecPost w b data = D at *
  have Hx := Lib.hid hx
  clear hx
  by_cases hxq : x = q
  · have t1 : ((x : Int) != (q : Int)) = false := by rw [bne_eq_false_iff_eq]; exact_mod_cast hxq
    have t2 : ((x : Int) == (q : Int)) = true := by rw [beq_iff_eq]; exact_mod_cast hxq
    have HXQ := Lib.hid hxq
    clear hxq
    go_enter Tryd.func17, Tryd.ntmps17
    go_wp2
    go_cut [21] from 11 to 21 (fun t wx => t = .bool false ∧ wx = wb)
    case first =>
      go_region_law (first | (refine step_app rfl (.tmp 13) (.tmp 14) 26 rfl _ _ va wa rfl rfl Hr1.out ?_) | (refine step_app rfl (.tmp 15) (.tmp 17) 26 rfl _ _ _ wb rfl rfl Hr2.out ?_) | (refine step_call (f := 26) rfl _ _ rfl HC.out (by go_simp) ?_; rintro e w' ⟨rfl, rfl⟩; refine ⟨_, rfl, ?_⟩) | (refine step_call (f := 30) rfl _ _ rfl (HG.out _ (by first | exact HD.out | exact HD2.out | exact HD3.out | exact Hbb.out)) (by go_simp) ?_; rintro e w' ⟨rfl, rfl⟩; refine ⟨_, rfl, ?_⟩))
      all_goals
        go_wp2
        go_meet
        case rel => exact ⟨rfl, rfl⟩
    case rest =>
      obtain ⟨rfl, rfl⟩ := hcut
      clear t1 t2 Hr1 Hr2 HC HG HB HD HD2 HD3 hwr hlt e2
      obtain ⟨W1, hW1⟩ : ∃ W1, W1 = wc := ⟨_, rfl⟩
      subst hW1
      have h64 := Hl.out
      have HB1 := Lib.hid (HBx.out.below Hbb.out)
      obtain ⟨A', c', e, -, hcell⟩ := HB1.out
      simp only [Value.slice.injEq] at e
      obtain ⟨rfl, -, rfl⟩ := e
      obtain ⟨g, o, rfl, hg, hc4⟩ := hcell (by omega)
      have k4 := hc4 4 (by omega)
      clear hcell hc4
      obtain ⟨s, hs⟩ : ∃ s, s = Sp.raw b := ⟨_, rfl⟩
      rw [show ((b[4].toNat : Nat) : Int) = (s.kind : Int) by rw [hs, raw_kind]] at k4
      have y24 := getV_cut b h64 24 4 (by omega)
      have y28 := getV_cut b h64 28 4 (by omega)
      have y32 := getV_cut b h64 32 4 (by omega)
      have x24 : 0 ≤ s.sector ∧ s.sector ≤ 4294967295 := by rw [hs]; simp only [Sp.raw]; omega
      have x28 : 0 ≤ s.index ∧ s.index ≤ 4294967295 := by rw [hs]; simp only [Sp.raw]; omega
      have x32 : 0 ≤ s.length ∧ s.length ≤ 4294967295 := by rw [hs]; simp only [Sp.raw]; omega
      clear y24 y28 y32
      have G24 := Lib.hid (fun W (hW : Bel W1 W ∧ W.cell? ⟨g, o + 4, none⟩ = some (.int .u8 (s.kind : Int))) => (show Calls Tryd.prog 30 #[.slice (some ⟨g, o, none⟩) 64 c, .int .i64 24, .int .i64 4] W fun e w' => e = .returned (.int .u64 s.sector) ∧ W = w' from get_bel HB1.out h64 24 4 24 4 _ rfl rfl (by rw [hs]; rfl) (by omega) (by omega) W hW.1))
      have G8 := Lib.hid (fun W (hW : Bel W1 W ∧ W.cell? ⟨g, o + 4, none⟩ = some (.int .u8 (s.kind : Int))) => (show Calls Tryd.prog 30 #[.slice (some ⟨g, o, none⟩) 64 c, .int .i64 8, .int .i64 8] W fun e w' => e = .returned (.int .u64 (s.seq : Int)) ∧ W = w' from get_bel HB1.out h64 8 8 8 8 _ rfl rfl (by rw [hs]; rfl) (by omega) (by omega) W hW.1))
      have G16 := Lib.hid (fun W (hW : Bel W1 W ∧ W.cell? ⟨g, o + 4, none⟩ = some (.int .u8 (s.kind : Int))) => (show Calls Tryd.prog 30 #[.slice (some ⟨g, o, none⟩) 64 c, .int .i64 16, .int .i64 8] W fun e w' => e = .returned (.int .u64 (s.prev : Int)) ∧ W = w' from get_bel HB1.out h64 16 8 16 8 _ rfl rfl (by rw [hs]; rfl) (by omega) (by omega) W hW.1))
      have G28 := Lib.hid (fun W (hW : Bel W1 W ∧ W.cell? ⟨g, o + 4, none⟩ = some (.int .u8 (s.kind : Int))) => (show Calls Tryd.prog 30 #[.slice (some ⟨g, o, none⟩) 64 c, .int .i64 28, .int .i64 4] W fun e w' => e = .returned (.int .u64 s.index) ∧ W = w' from get_bel HB1.out h64 28 4 28 4 _ rfl rfl (by rw [hs]; rfl) (by omega) (by omega) W hW.1))
      have G32 := Lib.hid (fun W (hW : Bel W1 W ∧ W.cell? ⟨g, o + 4, none⟩ = some (.int .u8 (s.kind : Int))) => (show Calls Tryd.prog 30 #[.slice (some ⟨g, o, none⟩) 64 c, .int .i64 32, .int .i64 4] W fun e w' => e = .returned (.int .u64 s.length) ∧ W = w' from get_bel HB1.out h64 32 4 32 4 _ rfl rfl (by rw [hs]; rfl) (by omega) (by omega) W hW.1))
      have K0 := Lib.hid (show Bel W1 W1.drew ∧ W1.drew.cell? ⟨g, o + 4, none⟩ = some (.int .u8 (s.kind : Int)) from ⟨(Bel.refl W1).drew, k4⟩)
      have K1 := Lib.hid (fun ob : Obj => (show Bel W1 (W1.alloc ob).drew ∧ (W1.alloc ob).drew.cell? ⟨g, o + 4, none⟩ = some (.int .u8 (s.kind : Int)) from ⟨bel_alloc (Bel.refl W1) ob, ((bel_alloc (Bel.refl W1) ob).cell (p := ⟨g, o + 4, none⟩) hg).trans k4⟩))
      have v24 : IntKind.i64.wrap s.sector = s.sector := by rw [IntKind.wrap_i64]; omega
      have v28 : IntKind.i64.wrap s.index = s.index := by rw [IntKind.wrap_i64]; omega
      have v32 : IntKind.i64.wrap s.length = s.length := by rw [IntKind.wrap_i64]; omega
      have Hs := Lib.hid hs
      have Hk4 := Lib.hid k4
      have Hg := Lib.hid hg
      clear hs h64 hg k4
      go_upto_region 5 with fail
      go_cut [6] from 23 to 39 (fun t wx => t = .pointer (some ⟨W1.heap.size, 0, none⟩) ∧ wx = (W1.alloc (.cells #[.int .u8 (s.kind : Int), .int .i64 s.sector, .int .u64 (s.seq : Int), .int .u64 (s.prev : Int), .int .i64 s.index, .int .i64 s.length] 25)).drew)
      case first =>
        go_region_held3 (fun W => Bel W1 W ∧ W.cell? ⟨g, o + 4, none⟩ = some (.int .u8 (s.kind : Int))) (first | assumption | exact K0.out | exact K1.out _)
          (first
            | ((go_at_call 30; with_reducible refine (G24.out _ (by assumption)).mono ?_); rintro e w' ⟨rfl, rfl⟩)
            | ((go_at_call 30; with_reducible refine (G8.out _ (by assumption)).mono ?_); rintro e w' ⟨rfl, rfl⟩)
            | ((go_at_call 30; with_reducible refine (G16.out _ (by assumption)).mono ?_); rintro e w' ⟨rfl, rfl⟩)
            | ((go_at_call 30; with_reducible refine (G28.out _ (by assumption)).mono ?_); rintro e w' ⟨rfl, rfl⟩)
            | ((go_at_call 30; with_reducible refine (G32.out _ (by assumption)).mono ?_); rintro e w' ⟨rfl, rfl⟩))
        all_goals
          go_wp2
          go_meet
          case rel => exact ⟨rfl, rfl⟩
      case rest =>
        obtain ⟨rfl, hw5⟩ := hcut
        obtain ⟨W5, hW5⟩ : ∃ W5, W5 = wc := ⟨_, rfl⟩
        subst hW5
        have b5 : Bel W1 W5 := by rw [hw5]; exact bel_alloc (Bel.refl W1) _
        have r5 : W5.heap[W1.heap.size]? = some (.cells #[.int .u8 (s.kind : Int), .int .i64 s.sector, .int .u64 (s.seq : Int), .int .u64 (s.prev : Int), .int .i64 s.index, .int .i64 s.length] 25 (0, 0)) := by rw [hw5]; exact heap_alloc_new W1 _
        have z5 : W5.heap[w.heap.size]? = some (.cells #[.int .u8 0, .int .i64 0, .int .u64 0, .int .u64 0, .int .i64 0, .int .i64 0] 25 (0, 0)) := row_later Hrow.out b5
        have B5 := Lib.hid (below_step Hbb.out b5)
        have HB5 := Lib.hid (HB1.out.below b5)
        have Hw := Lib.hid (show s.wf by rw [Hs.out]; exact raw_wf' b Hl.out)
        have HR5 := Lib.hid r5
        have HZ5 := Lib.hid z5
        have HSUM := Lib.hid (show getV (b.drop 60) = crc32 (data ++ b.take 60) by rw [← HX.out, ← HQ.out]; exact HXQ.out)
        clear hw5 b5 r5 z5 K0 K1 G24 G8 G16 G28 G32 v24 v28 v32 Hk4 Hg x24 x28 x32
        by_cases hok : s.ok
        · have Hok := Lib.hid hok
          have HWk : Hid (∀ W, Bel W5 W → Bel W5 W ∧ W.cell? ⟨W1.heap.size, 0, none⟩ = some (.int .u8 (s.kind : Int)) ∧ W.cell? ⟨W1.heap.size, 1, none⟩ = some (.int .i64 s.sector) ∧ W.cell? ⟨W1.heap.size, 2, none⟩ = some (.int .u64 (s.seq : Int)) ∧ W.cell? ⟨W1.heap.size, 3, none⟩ = some (.int .u64 (s.prev : Int)) ∧ W.cell? ⟨W1.heap.size, 4, none⟩ = some (.int .i64 s.index) ∧ W.cell? ⟨W1.heap.size, 5, none⟩ = some (.int .i64 s.length)) := Lib.hid fun W hW => ⟨hW, sp_cells (row_later HR5.out hW)⟩
          have HCB := Lib.hid (fun (W : World) (hW : Bel W5 W) => run_string 26 9 5 Tryd.underlying26 Tryd.underlying5 Tryd.underlying9 (HB5.out.below hW))
          have hcb5 := HCB.out _ (Bel.refl W5).drew
          have HV := Lib.hid (fun (W : World) (hW : Bel W5 W ∧ W.cell? ⟨W1.heap.size, 0, none⟩ = some (.int .u8 (s.kind : Int)) ∧ W.cell? ⟨W1.heap.size, 1, none⟩ = some (.int .i64 s.sector) ∧ W.cell? ⟨W1.heap.size, 2, none⟩ = some (.int .u64 (s.seq : Int)) ∧ W.cell? ⟨W1.heap.size, 3, none⟩ = some (.int .u64 (s.prev : Int)) ∧ W.cell? ⟨W1.heap.size, 4, none⟩ = some (.int .i64 s.index) ∧ W.cell? ⟨W1.heap.size, 5, none⟩ = some (.int .i64 s.length)) => (show Calls Tryd.prog 14 #[.agg #[.int .u8 (s.kind : Int), .int .i64 s.sector, .int .u64 (s.seq : Int), .int .u64 (s.prev : Int), .int .i64 s.index, .int .i64 s.length]] W fun e w' => e = .returned (.bool true) ∧ Bel W5 w' ∧ w'.cell? ⟨W1.heap.size, 0, none⟩ = some (.int .u8 (s.kind : Int)) ∧ w'.cell? ⟨W1.heap.size, 1, none⟩ = some (.int .i64 s.sector) ∧ w'.cell? ⟨W1.heap.size, 2, none⟩ = some (.int .u64 (s.seq : Int)) ∧ w'.cell? ⟨W1.heap.size, 3, none⟩ = some (.int .u64 (s.prev : Int)) ∧ w'.cell? ⟨W1.heap.size, 4, none⟩ = some (.int .i64 s.index) ∧ w'.cell? ⟨W1.heap.size, 5, none⟩ = some (.int .i64 s.length) from ((by have := rValid_any s Hw.out W; rwa [decide_eq_true hok] at this) : Calls Tryd.prog 14 #[s.val] W fun e w' => e = .returned (.bool true) ∧ Below W.heap.size W w').mono fun e w' ⟨h1, h2⟩ => ⟨h1, HWk.out w' (Bel.step hW.1 h2)⟩))
          by_cases henc : s.enc data = b
          · have HRW := Lib.hid (fun (W : World) (hW : Bel W5 W ∧ W.cell? ⟨W1.heap.size, 0, none⟩ = some (.int .u8 (s.kind : Int)) ∧ W.cell? ⟨W1.heap.size, 1, none⟩ = some (.int .i64 s.sector) ∧ W.cell? ⟨W1.heap.size, 2, none⟩ = some (.int .u64 (s.seq : Int)) ∧ W.cell? ⟨W1.heap.size, 3, none⟩ = some (.int .u64 (s.prev : Int)) ∧ W.cell? ⟨W1.heap.size, 4, none⟩ = some (.int .i64 s.index) ∧ W.cell? ⟨W1.heap.size, 5, none⟩ = some (.int .i64 s.length)) => (show Calls Tryd.prog 22 #[.agg #[.int .u8 (s.kind : Int), .int .i64 s.sector, .int .u64 (s.seq : Int), .int .u64 (s.prev : Int), .int .i64 s.index, .int .i64 s.length], .slice A0 data.length c0] W fun e w' => ∃ r, e = .returned r ∧ Byt w' r b ∧ Bel W5 w' ∧ w'.cell? ⟨W1.heap.size, 0, none⟩ = some (.int .u8 (s.kind : Int)) ∧ w'.cell? ⟨W1.heap.size, 1, none⟩ = some (.int .i64 s.sector) ∧ w'.cell? ⟨W1.heap.size, 2, none⟩ = some (.int .u64 (s.seq : Int)) ∧ w'.cell? ⟨W1.heap.size, 3, none⟩ = some (.int .u64 (s.prev : Int)) ∧ w'.cell? ⟨W1.heap.size, 4, none⟩ = some (.int .i64 s.index) ∧ w'.cell? ⟨W1.heap.size, 5, none⟩ = some (.int .i64 s.length) from (Raw_any s _ data W (HDt.out.below (below_step B5.out hW.1)) hn Hw.out Hok.out).mono fun e w' ⟨⟨r, h1, h2, _⟩, h3⟩ => ⟨r, h1, by rw [henc] at h2; exact h2, HWk.out w' (Bel.step hW.1 h3)⟩))
            have Hne := Lib.hid (dec_good b data Hl.out HSUM.out (by rw [← Hs.out]; exact Hok.out) (by rw [← Hs.out]; exact henc))
            rw [← Hs.out] at Hne
            clear hok henc
            go_upto_region 6 with fail
            obtain ⟨-, p0, p1, p2, p3, p4, p5⟩ := HWk.out _ (Bel.refl W5).drew
            go_region_with (first
            | ((go_at_call 14; with_reducible refine (HV.out _ (HWk.out _ (Bel.refl W5).drew)).mono ?_); rintro e w6 ⟨rfl, hw6⟩; have hcb6 := HCB.out _ hw6.1; have HW6 := Lib.hid hw6; obtain ⟨-, p0, p1, p2, p3, p4, p5⟩ := hw6)
            | ((go_at_call 22; with_reducible refine (HRW.out _ HW6.out).mono ?_); rintro e w7 ⟨r, rfl, hr7, hw7⟩; have hcb7 := HCB.out _ hw7.1; have hcr7 := run_string 26 9 5 Tryd.underlying26 Tryd.underlying5 Tryd.underlying9 hr7; clear hr7))
            all_goals
              have Hz7 := Lib.hid (row_later HZ5.out hw7.1)
              have Hb7 := Lib.hid (below_step B5.out hw7.1)
              have hz7 := Hz7.out
              obtain ⟨-, q0, q1, q2, q3, q4, q5⟩ := hw7
              have c0 : w7.cell? ⟨w.heap.size, 0, none⟩ = some (.int .u8 0) := cell_of_row w7 w.heap.size 0 _ 25 (0, 0) hz7
              have f0 : w7.frozen? ⟨w.heap.size, 0, none⟩ = false := frozen_of_row w7 w.heap.size 0 _ 25 hz7
              have c1 : w7.cell? ⟨w.heap.size, 1, none⟩ = some (.int .i64 0) := cell_of_row w7 w.heap.size 1 _ 25 (0, 0) hz7
              have f1 : w7.frozen? ⟨w.heap.size, 1, none⟩ = false := frozen_of_row w7 w.heap.size 1 _ 25 hz7
              have c2 : w7.cell? ⟨w.heap.size, 2, none⟩ = some (.int .u64 0) := cell_of_row w7 w.heap.size 2 _ 25 (0, 0) hz7
              have f2 : w7.frozen? ⟨w.heap.size, 2, none⟩ = false := frozen_of_row w7 w.heap.size 2 _ 25 hz7
              have c3 : w7.cell? ⟨w.heap.size, 3, none⟩ = some (.int .u64 0) := cell_of_row w7 w.heap.size 3 _ 25 (0, 0) hz7
              have f3 : w7.frozen? ⟨w.heap.size, 3, none⟩ = false := frozen_of_row w7 w.heap.size 3 _ 25 hz7
              have c4 : w7.cell? ⟨w.heap.size, 4, none⟩ = some (.int .i64 0) := cell_of_row w7 w.heap.size 4 _ 25 (0, 0) hz7
              have f4 : w7.frozen? ⟨w.heap.size, 4, none⟩ = false := frozen_of_row w7 w.heap.size 4 _ 25 hz7
              have c5 : w7.cell? ⟨w.heap.size, 5, none⟩ = some (.int .i64 0) := cell_of_row w7 w.heap.size 5 _ 25 (0, 0) hz7
              have f5 : w7.frozen? ⟨w.heap.size, 5, none⟩ = false := frozen_of_row w7 w.heap.size 5 _ 25 hz7
              clear hz7 HW6 p0 p1 p2 p3 p4 p5 hcb6 hcb7 hcr7 hcb5 HRW HV HCB HWk
              go_wp2
              (try simp only [Exit.inBlock, Exit.then])
              refine bodyPost_ret (results_row1 (a := 4) (b := 5) (ty := 25) rfl _ _ w.heap.size 25 #[.int .u8 (s.kind : Int), .int .i64 s.sector, .int .u64 (s.seq : Int), .int .u64 (s.prev : Int), .int .i64 s.index, .int .i64 s.length] (0, 0) _ rfl (store_six _ _ _ _ _ _ Hz7.out) Tryd.underlying25 rfl info25) rfl ?_
              exact Hfin.out _ Hne.out _ (below_six (.int .u8 (s.kind : Int)) (.int .i64 s.sector) (.int .u64 (s.seq : Int)) (.int .u64 (s.prev : Int)) (.int .i64 s.index) (.int .i64 s.length) Hb7.out)
          · have HRW := Lib.hid (fun (W : World) (hW : Bel W5 W ∧ W.cell? ⟨W1.heap.size, 0, none⟩ = some (.int .u8 (s.kind : Int)) ∧ W.cell? ⟨W1.heap.size, 1, none⟩ = some (.int .i64 s.sector) ∧ W.cell? ⟨W1.heap.size, 2, none⟩ = some (.int .u64 (s.seq : Int)) ∧ W.cell? ⟨W1.heap.size, 3, none⟩ = some (.int .u64 (s.prev : Int)) ∧ W.cell? ⟨W1.heap.size, 4, none⟩ = some (.int .i64 s.index) ∧ W.cell? ⟨W1.heap.size, 5, none⟩ = some (.int .i64 s.length)) => (show Calls Tryd.prog 22 #[.agg #[.int .u8 (s.kind : Int), .int .i64 s.sector, .int .u64 (s.seq : Int), .int .u64 (s.prev : Int), .int .i64 s.index, .int .i64 s.length], .slice A0 data.length c0] W fun e w' => ∃ r, e = .returned r ∧ Byt w' r (s.enc data) ∧ Bel W5 w' ∧ w'.cell? ⟨W1.heap.size, 0, none⟩ = some (.int .u8 (s.kind : Int)) ∧ w'.cell? ⟨W1.heap.size, 1, none⟩ = some (.int .i64 s.sector) ∧ w'.cell? ⟨W1.heap.size, 2, none⟩ = some (.int .u64 (s.seq : Int)) ∧ w'.cell? ⟨W1.heap.size, 3, none⟩ = some (.int .u64 (s.prev : Int)) ∧ w'.cell? ⟨W1.heap.size, 4, none⟩ = some (.int .i64 s.index) ∧ w'.cell? ⟨W1.heap.size, 5, none⟩ = some (.int .i64 s.length) from (Raw_any s _ data W (HDt.out.below (below_step B5.out hW.1)) hn Hw.out Hok.out).mono fun e w' ⟨⟨r, h1, h2, _⟩, h3⟩ => ⟨r, h1, h2, HWk.out w' (Bel.step hW.1 h3)⟩))
            have Hne := Lib.hid (dec_bad b data Hl.out HSUM.out (fun h => henc (by rw [Hs.out]; exact h.2)))
            have e1 : (s.enc data == b) = false := by rw [beq_eq_false_iff_ne]; exact henc
            have e2 : (s.enc data != b) = true := by rw [bne_iff_ne]; exact henc
            generalize s.enc data = E at *
            clear hok
            go_upto_region 6 with fail
            obtain ⟨-, p0, p1, p2, p3, p4, p5⟩ := HWk.out _ (Bel.refl W5).drew
            go_region_with (first
            | ((go_at_call 14; with_reducible refine (HV.out _ (HWk.out _ (Bel.refl W5).drew)).mono ?_); rintro e w6 ⟨rfl, hw6⟩; have hcb6 := HCB.out _ hw6.1; have HW6 := Lib.hid hw6; obtain ⟨-, p0, p1, p2, p3, p4, p5⟩ := hw6)
            | ((go_at_call 22; with_reducible refine (HRW.out _ HW6.out).mono ?_); rintro e w7 ⟨r, rfl, hr7, hw7⟩; have hcb7 := HCB.out _ hw7.1; have hcr7 := run_string 26 9 5 Tryd.underlying26 Tryd.underlying5 Tryd.underlying9 hr7; clear hr7))
            all_goals
              have Hz7 := Lib.hid (row_later HZ5.out hw7.1)
              have Hb7 := Lib.hid (below_step B5.out hw7.1)
              have hz7 := Hz7.out
              obtain ⟨-, q0, q1, q2, q3, q4, q5⟩ := hw7
              have c0 : w7.cell? ⟨w.heap.size, 0, none⟩ = some (.int .u8 0) := cell_of_row w7 w.heap.size 0 _ 25 (0, 0) hz7
              have f0 : w7.frozen? ⟨w.heap.size, 0, none⟩ = false := frozen_of_row w7 w.heap.size 0 _ 25 hz7
              have c1 : w7.cell? ⟨w.heap.size, 1, none⟩ = some (.int .i64 0) := cell_of_row w7 w.heap.size 1 _ 25 (0, 0) hz7
              have f1 : w7.frozen? ⟨w.heap.size, 1, none⟩ = false := frozen_of_row w7 w.heap.size 1 _ 25 hz7
              have c2 : w7.cell? ⟨w.heap.size, 2, none⟩ = some (.int .u64 0) := cell_of_row w7 w.heap.size 2 _ 25 (0, 0) hz7
              have f2 : w7.frozen? ⟨w.heap.size, 2, none⟩ = false := frozen_of_row w7 w.heap.size 2 _ 25 hz7
              have c3 : w7.cell? ⟨w.heap.size, 3, none⟩ = some (.int .u64 0) := cell_of_row w7 w.heap.size 3 _ 25 (0, 0) hz7
              have f3 : w7.frozen? ⟨w.heap.size, 3, none⟩ = false := frozen_of_row w7 w.heap.size 3 _ 25 hz7
              have c4 : w7.cell? ⟨w.heap.size, 4, none⟩ = some (.int .i64 0) := cell_of_row w7 w.heap.size 4 _ 25 (0, 0) hz7
              have f4 : w7.frozen? ⟨w.heap.size, 4, none⟩ = false := frozen_of_row w7 w.heap.size 4 _ 25 hz7
              have c5 : w7.cell? ⟨w.heap.size, 5, none⟩ = some (.int .i64 0) := cell_of_row w7 w.heap.size 5 _ 25 (0, 0) hz7
              have f5 : w7.frozen? ⟨w.heap.size, 5, none⟩ = false := frozen_of_row w7 w.heap.size 5 _ 25 hz7
              clear hz7 HW6 p0 p1 p2 p3 p4 p5 hcb6 hcb7 hcr7 hcb5 HRW HV HCB HWk
              go_wp2
              (try simp only [Exit.inBlock, Exit.then])
              refine bodyPost_ret (results_row1 (a := 4) (b := 5) (ty := 25) rfl _ _ w.heap.size 25 #[.int .u8 0, .int .i64 0, .int .u64 0, .int .u64 0, .int .i64 0, .int .i64 0] (0, 0) _ rfl (store_six _ _ _ _ _ _ Hz7.out) Tryd.underlying25 rfl info25) rfl ?_
              exact Hfin.out _ Hne.out _ (below_six (.int .u8 0) (.int .i64 0) (.int .u64 0) (.int .u64 0) (.int .i64 0) (.int .i64 0) Hb7.out)
        · have HV := Lib.hid (fun W => (show Calls Tryd.prog 14 #[.agg #[.int .u8 (s.kind : Int), .int .i64 s.sector, .int .u64 (s.seq : Int), .int .u64 (s.prev : Int), .int .i64 s.index, .int .i64 s.length]] W fun e w' => e = .returned (.bool false) ∧ Below W.heap.size W w' from by have := rValid_any s Hw.out W; rwa [decide_eq_false hok] at this))
          have k0 := fun p : Gx W5 => (sp_cells (row_later HR5.out p.h)).1
          have k1 := fun p : Gx W5 => (sp_cells (row_later HR5.out p.h)).2.1
          have k2 := fun p : Gx W5 => (sp_cells (row_later HR5.out p.h)).2.2.1
          have k3 := fun p : Gx W5 => (sp_cells (row_later HR5.out p.h)).2.2.2.1
          have k4 := fun p : Gx W5 => (sp_cells (row_later HR5.out p.h)).2.2.2.2.1
          have k5 := fun p : Gx W5 => (sp_cells (row_later HR5.out p.h)).2.2.2.2.2
          have hne := gx_ne W5
          have Hne := Lib.hid (dec_bad b data Hl.out HSUM.out (fun h => hok (by rw [Hs.out]; exact h.1)))
          clear hok
          go_upto_region 6 with fail
          refine wp_region_gx (by kernel_rfl) (by kernel_rfl) ?_
          repeat (go_big_quiet_step ((go_at_call 14; exact gx_of _ (HV.out _))))
          refine wpQuiet_nil ?_
          rintro w7 ⟨⟨_, hb7⟩, rfl⟩
          have Hz7 := Lib.hid (row_later HZ5.out hb7)
          have Hb7 := Lib.hid (below_step B5.out hb7)
          have hz7 := Hz7.out
          have c0 : w7.cell? ⟨w.heap.size, 0, none⟩ = some (.int .u8 0) := cell_of_row w7 w.heap.size 0 _ 25 (0, 0) hz7
          have f0 : w7.frozen? ⟨w.heap.size, 0, none⟩ = false := frozen_of_row w7 w.heap.size 0 _ 25 hz7
          have c1 : w7.cell? ⟨w.heap.size, 1, none⟩ = some (.int .i64 0) := cell_of_row w7 w.heap.size 1 _ 25 (0, 0) hz7
          have f1 : w7.frozen? ⟨w.heap.size, 1, none⟩ = false := frozen_of_row w7 w.heap.size 1 _ 25 hz7
          have c2 : w7.cell? ⟨w.heap.size, 2, none⟩ = some (.int .u64 0) := cell_of_row w7 w.heap.size 2 _ 25 (0, 0) hz7
          have f2 : w7.frozen? ⟨w.heap.size, 2, none⟩ = false := frozen_of_row w7 w.heap.size 2 _ 25 hz7
          have c3 : w7.cell? ⟨w.heap.size, 3, none⟩ = some (.int .u64 0) := cell_of_row w7 w.heap.size 3 _ 25 (0, 0) hz7
          have f3 : w7.frozen? ⟨w.heap.size, 3, none⟩ = false := frozen_of_row w7 w.heap.size 3 _ 25 hz7
          have c4 : w7.cell? ⟨w.heap.size, 4, none⟩ = some (.int .i64 0) := cell_of_row w7 w.heap.size 4 _ 25 (0, 0) hz7
          have f4 : w7.frozen? ⟨w.heap.size, 4, none⟩ = false := frozen_of_row w7 w.heap.size 4 _ 25 hz7
          have c5 : w7.cell? ⟨w.heap.size, 5, none⟩ = some (.int .i64 0) := cell_of_row w7 w.heap.size 5 _ 25 (0, 0) hz7
          have f5 : w7.frozen? ⟨w.heap.size, 5, none⟩ = false := frozen_of_row w7 w.heap.size 5 _ 25 hz7
          clear hz7 hb7 k0 k1 k2 k3 k4 k5 HV
          go_wp2
          (try simp only [Exit.inBlock, Exit.then])
          refine bodyPost_ret (results_row1 (a := 4) (b := 5) (ty := 25) rfl _ _ w.heap.size 25 #[.int .u8 0, .int .i64 0, .int .u64 0, .int .u64 0, .int .i64 0, .int .i64 0] (0, 0) _ rfl (store_six _ _ _ _ _ _ Hz7.out) Tryd.underlying25 rfl info25) rfl ?_
          exact Hfin.out _ Hne.out _ (below_six (.int .u8 0) (.int .i64 0) (.int .u64 0) (.int .u64 0) (.int .i64 0) (.int .i64 0) Hb7.out)
  · have t1 : ((x : Int) != (q : Int)) = true := by rw [bne_iff_ne]; exact_mod_cast hxq
    have t2 : ((x : Int) == (q : Int)) = false := by rw [beq_eq_false_iff_ne]; exact_mod_cast hxq
    have HXQ := Lib.hid hxq
    clear hxq
    go_enter Tryd.func17, Tryd.ntmps17
    go_wp2
    go_cut [21] from 11 to 21 (fun t wx => t = .bool true ∧ wx = wb)
    case first =>
      go_region_law (first | (refine step_app rfl (.tmp 13) (.tmp 14) 26 rfl _ _ va wa rfl rfl Hr1.out ?_) | (refine step_app rfl (.tmp 15) (.tmp 17) 26 rfl _ _ _ wb rfl rfl Hr2.out ?_) | (refine step_call (f := 26) rfl _ _ rfl HC.out (by go_simp) ?_; rintro e w' ⟨rfl, rfl⟩; refine ⟨_, rfl, ?_⟩) | (refine step_call (f := 30) rfl _ _ rfl (HG.out _ (by first | exact HD.out | exact HD2.out | exact HD3.out | exact Hbb.out)) (by go_simp) ?_; rintro e w' ⟨rfl, rfl⟩; refine ⟨_, rfl, ?_⟩))
      all_goals
        go_wp2
        go_meet
        case rel => exact ⟨rfl, rfl⟩
    case rest =>
      obtain ⟨rfl, rfl⟩ := hcut
      have hrow := Hrow.out
      have c0 : wc.cell? ⟨w.heap.size, 0, none⟩ = some (.int .u8 0) := cell_of_row wc w.heap.size 0 _ 25 (0, 0) hrow
      have f0 : wc.frozen? ⟨w.heap.size, 0, none⟩ = false := frozen_of_row wc w.heap.size 0 _ 25 hrow
      have c1 : wc.cell? ⟨w.heap.size, 1, none⟩ = some (.int .i64 0) := cell_of_row wc w.heap.size 1 _ 25 (0, 0) hrow
      have f1 : wc.frozen? ⟨w.heap.size, 1, none⟩ = false := frozen_of_row wc w.heap.size 1 _ 25 hrow
      have c2 : wc.cell? ⟨w.heap.size, 2, none⟩ = some (.int .u64 0) := cell_of_row wc w.heap.size 2 _ 25 (0, 0) hrow
      have f2 : wc.frozen? ⟨w.heap.size, 2, none⟩ = false := frozen_of_row wc w.heap.size 2 _ 25 hrow
      have c3 : wc.cell? ⟨w.heap.size, 3, none⟩ = some (.int .u64 0) := cell_of_row wc w.heap.size 3 _ 25 (0, 0) hrow
      have f3 : wc.frozen? ⟨w.heap.size, 3, none⟩ = false := frozen_of_row wc w.heap.size 3 _ 25 hrow
      have c4 : wc.cell? ⟨w.heap.size, 4, none⟩ = some (.int .i64 0) := cell_of_row wc w.heap.size 4 _ 25 (0, 0) hrow
      have f4 : wc.frozen? ⟨w.heap.size, 4, none⟩ = false := frozen_of_row wc w.heap.size 4 _ 25 hrow
      have c5 : wc.cell? ⟨w.heap.size, 5, none⟩ = some (.int .i64 0) := cell_of_row wc w.heap.size 5 _ 25 (0, 0) hrow
      have f5 : wc.frozen? ⟨w.heap.size, 5, none⟩ = false := frozen_of_row wc w.heap.size 5 _ 25 hrow
      clear t1 t2 Hr1 Hr2 HC HG HB HD HD2 HD3 hwr hlt e2 hrow
      have Hne := Lib.hid (dec_sum b data Hl.out (by rw [← HX.out, ← HQ.out]; exact HXQ.out))
      go_wp2
      (try simp only [Exit.inBlock, Exit.then])
      refine bodyPost_ret (results_row1 (a := 4) (b := 5) (ty := 25) rfl _ _ w.heap.size 25 #[.int .u8 0, .int .i64 0, .int .u64 0, .int .u64 0, .int .i64 0, .int .i64 0] (0, 0) _ rfl (store_six _ _ _ _ _ _ Hrow.out) Tryd.underlying25 rfl info25) rfl ?_
      exact Hfin.out _ Hne.out _ (below_six (.int .u8 0) (.int .i64 0) (.int .u64 0) (.int .u64 0) (.int .i64 0) (.int .i64 0) Hbb.out)
theorem rDecode_any (v1 v2 : Value) (b data : List UInt8) (w : World) (h : Byt w v1 b) (h2 : Byt w v2 data) (hb : b.length ≤ maxLen) (hn : data.length ≤ 300) : Calls Tryd.prog 17 #[v1, v2] w (DecPost w b data) := by
  by_cases hl : b.length = 64
  · exact rDecode_64 v1 v2 b data w h h2 hn hl
  · exact rDecode_len v1 v2 b data w h hb hl
end Go.Proofs.YtcebockdfkjoiaaDoor
