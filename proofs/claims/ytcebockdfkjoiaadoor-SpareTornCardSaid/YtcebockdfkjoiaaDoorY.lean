/- The walk of SpareTorn. Condition: the table lies as the program's text lays it. -/
import Derived.Test.YtcebockdfkjoiaaDoorX
import Derived.Test.YtcebockdfkjoiaaDoorTa
import Derived.Test.YtcebockdfkjoiaaDoorRC
import Derived.Deep.RegionLaw
import Derived.Deep.QuietTactic
import Derived.BigQuiet
namespace Go.Proofs.YtcebockdfkjoiaaDoor
open Go.RowKit
set_option linter.unusedVariables false
set_option maxHeartbeats 8000000
set_option maxRecDepth 100000

/-- A world in which at most new blocks lie. -/
structure Gw (w : World) where
  W : World
  h : Below w.heap.size w W
theorem gw_of {P : Program} {f : Nat} {args : Array Value} {w : World} {v : Value} (p : Gw w) (h : Calls P f args p.W fun e w' => e = .returned v ∧ Below p.W.heap.size p.W w') : Calls P f args p.W fun e w'' => e = .returned v ∧ ∃ q : Gw w, w'' = q.W :=
  h.mono fun e w' ⟨a, b⟩ => ⟨a, ⟨w', p.h.trans (b.mono p.h.size)⟩, rfl⟩
theorem gw_same {P : Program} {f : Nat} {args : Array Value} {w : World} {v : Value} (p : Gw w) (h : Calls P f args p.W fun e w' => e = .returned v ∧ p.W = w') : Calls P f args p.W fun e w'' => e = .returned v ∧ ∃ q : Gw w, w'' = q.W :=
  h.mono fun e w' ⟨a, b⟩ => ⟨a, p, b.symm⟩
theorem gw_ne (w : World) : Nonempty (Gw w) := ⟨⟨w, Below.refl _ _⟩⟩
/-- A drawn region that reads and calls, and the calls may lay blocks. -/
theorem wp_region_gw {P : Program} {id : Nat} {Q : Exit → Act → World → Prop} {a : Act} {w : World} {l : List Oper} (hm : P.follows .mixedOrders = true) (hB : Region.lexB .any l.toArray = true)
    (h : wpQuiet P l.toArray (fun W => ∃ p : Gw w, W = p.W) (fun a' => ∀ w', (∃ p : Gw w, w' = p.W) → Q .normal a' w') l a) : (Code.region id l.toArray true).wp P Q a w :=
  wp_region_quiet (C := fun W => ∃ p : Gw w, W = p.W) hm hB ⟨⟨w.drew, (Below.refl _ _).drew⟩, rfl⟩ (by simpa using h)
theorem wpQuiet_at {P : Program} {ops : Array Oper} {C : World → Prop} {Q : Act → Prop} {l : List Oper} {a : Act} (h : ∀ K : Act → Prop, (∀ b, wpQuiet P ops C Q l b → K b) → K a) : wpQuiet P ops C Q l a := h _ fun _ x => x
theorem gwb {wr W6 : World} (h : Bel wr W6) (p : Gw W6) : Bel wr p.W := h.step p.h
theorem gww {w W6 : World} (h : Below w.heap.size w W6) (p : Gw W6) : Below w.heap.size w p.W := h.trans (p.h.mono h.size)


theorem torn_early (s : Sp) (v : Value) (data : List UInt8) (at_ : Int) (w : World) (hT : Tabs w) (h : Byt w v data) (hn : data.length ≤ maxLen) (hw : s.wf) (hat : -9223372036854775808 ≤ at_) (hat2 : at_ ≤ 9223372036854775807) (hc : 300 < data.length ∨ at_ < 0 ∨ (data.length : Int) + 64 < at_) :
    Calls Tryd.prog 6 #[s.val, v, .int .i64 at_] w fun e w' => e = .returned (.bool true) ∧ Below w.heap.size w w' := by
  unfold maxLen at hn
  have HB0 := Lib.hid (below_alloc w (.cells #[.int .u8 (s.kind : Int), .int .i64 s.sector, .int .u64 (s.seq : Int), .int .u64 (s.prev : Int), .int .i64 s.index, .int .i64 s.length] 25))
  have HT := Lib.hid hT; clear hT
  obtain ⟨A, c, rfl, -, -⟩ := h
  unfold Sp.val
  by_cases h1 : 300 < data.length
  · have g1 : (300 : Int) < data.length := by omega
    clear hc
    go_enter Tryd.func6, Tryd.ntmps6
    go_wp2_with fail
    refine (works_any _ (HT.out.below HB0.out)).mono ?_
    rintro e w3 ⟨rfl, hb3⟩
    have Hb3 := Lib.hid (below_step HB0.out hb3); clear hb3
    go_wp2
    go_ret
    exact ⟨rfl, Hb3.out⟩
  by_cases h2 : at_ < 0
  · have g1 : decide ((300 : Int) < data.length) = false := decide_eq_false (by omega)
    clear hc
    go_enter Tryd.func6, Tryd.ntmps6
    go_wp2_with fail
    refine (works_any _ (HT.out.below HB0.out)).mono ?_
    rintro e w3 ⟨rfl, hb3⟩
    have Hb3 := Lib.hid (below_step HB0.out hb3); clear hb3
    go_wp2
    go_ret
    exact ⟨rfl, Hb3.out⟩
  · have g1 : decide ((300 : Int) < data.length) = false := decide_eq_false (by omega)
    have g2 : decide (at_ < 0) = false := decide_eq_false (by omega)
    have g3 : (data.length : Int) + 64 < at_ := by omega
    clear hc
    go_enter Tryd.func6, Tryd.ntmps6
    go_wp2_with fail
    refine (works_any _ (HT.out.below HB0.out)).mono ?_
    rintro e w3 ⟨rfl, hb3⟩
    have Hb3 := Lib.hid (below_step HB0.out hb3); clear hb3
    go_wp2
    go_ret
    exact ⟨rfl, Hb3.out⟩
theorem torn_invalid (s : Sp) (v : Value) (data : List UInt8) (a : Nat) (w : World) (hT : Tabs w) (h : Byt w v data) (hn : data.length ≤ 300) (ha : a ≤ data.length + 64) (hw : s.wf) (hok : ¬ s.ok) :
    Calls Tryd.prog 6 #[s.val, v, .int .i64 (a : Int)] w fun e w' => e = .returned (.bool true) ∧ Below w.heap.size w w' := by
  have HB0 := Lib.hid (below_alloc w (.cells #[.int .u8 (s.kind : Int), .int .i64 s.sector, .int .u64 (s.seq : Int), .int .u64 (s.prev : Int), .int .i64 s.index, .int .i64 s.length] 25))
  have HE := Lib.hid (Encode_no s v data (w.alloc (.cells #[.int .u8 (s.kind : Int), .int .i64 s.sector, .int .u64 (s.seq : Int), .int .u64 (s.prev : Int), .int .i64 s.index, .int .i64 s.length] 25)) hw hok)
  have HT := Lib.hid hT; clear hT hw hok
  obtain ⟨A, c, rfl, -, -⟩ := h
  unfold Sp.val at *
  have g1 : decide ((300 : Int) < data.length) = false := decide_eq_false (by omega)
  have g2 : decide ((a : Int) < 0) = false := decide_eq_false (by omega)
  have g3 : decide ((data.length : Int) + 64 < a) = false := decide_eq_false (by omega)
  go_enter Tryd.func6, Tryd.ntmps6
  go_wp2_with fail
  refine HE.out.mono ?_
  rintro e w1 ⟨⟨r, rfl, -⟩, hb⟩
  have Hb := Lib.hid (below_step HB0.out hb); clear hb HE
  go_wp2_with fail
  refine (num_any 2 _).mono ?_
  rintro e w' ⟨rfl, rfl⟩
  go_wp2_with fail
  refine (works_any _ (HT.out.below Hb.out)).mono ?_
  rintro e w3 ⟨rfl, hb3⟩
  have Hb3 := Lib.hid (below_step Hb.out hb3); clear hb3
  go_wp2
  go_ret
  exact ⟨rfl, Hb3.out⟩
/-- The state between two rounds: the page of which the bytes from a on, as far as k, are FF. -/
structure TS (w W0 wr : World) (g : Nat) (L : List UInt8) (a k : Nat) : Prop where
  below : Below w.heap.size w wr
  keep : Below W0.heap.size W0 wr
  row : RowAt wr g (fill L a k)
  lt : g < wr.heap.size
  ge : W0.heap.size ≤ g
theorem TS.set {w W0 wr : World} {g : Nat} {L : List UInt8} {a k : Nat} (h : TS w W0 wr g L a k) (h0 : w.heap.size ≤ W0.heap.size) (ha : a ≤ k) (hk : k < L.length) : TS w W0 (wr.setCell ⟨g, k, none⟩ (.int .u8 255)) g L a (k + 1) := by
  have hge := h.ge
  have hl := fill_length L a k ha (by omega)
  refine ⟨h.below.setCell (p := ⟨g, _, none⟩) (by show _ ≤ g; omega) _, h.keep.setCell (p := ⟨g, _, none⟩) hge _, ?_, by simpa [World.setCell] using h.lt, hge⟩
  rw [fill_step L a k ha hk]
  exact h.row.set (by omega) 255
/-- The state behind the last call of Decode. -/
theorem below_drewn {w W : World} (h : Below w.heap.size w W) : Below w.heap.size w W.drew := h.drew
theorem torn_main (s : Sp) (v : Value) (data : List UInt8) (a : Nat) (w : World) (hT : Tabs w) (h : Byt w v data) (hn : data.length ≤ 300) (ha : a ≤ data.length + 64) (hw : s.wf) (hok : s.ok) :
    Calls Tryd.prog 6 #[s.val, v, .int .i64 (a : Int)] w fun e w' => e = .returned (.bool true) ∧ Below w.heap.size w w' := by
  have b0 := below_alloc w (.cells #[.int .u8 (s.kind : Int), .int .i64 s.sector, .int .u64 (s.seq : Int), .int .u64 (s.prev : Int), .int .i64 s.index, .int .i64 s.length] 25)
  have HE := Lib.hid (Encode_yes s v data (w.alloc (.cells #[.int .u8 (s.kind : Int), .int .i64 s.sector, .int .u64 (s.seq : Int), .int .u64 (s.prev : Int), .int .i64 s.index, .int .i64 s.length] 25)) (hT.below b0) (h.below b0) (by unfold maxLen; omega) hw hok)
  have HB0 := Lib.hid b0
  have H := Lib.hid h
  have HT := Lib.hid hT; have Hw := Lib.hid hw; have Hok := Lib.hid hok; clear hT hw hok b0
  obtain ⟨A0, cA, rfl, -, -⟩ := h
  unfold Sp.val at HE ⊢
  have g1 : decide ((300 : Int) < data.length) = false := decide_eq_false (by omega)
  have g2 : decide ((a : Int) < 0) = false := decide_eq_false (by omega)
  have g3 : decide ((data.length : Int) + 64 < a) = false := decide_eq_false (by omega)
  go_enter Tryd.func6, Tryd.ntmps6
  go_wp2_with fail
  refine HE.out.mono ?_
  rintro e W1 ⟨⟨r, rfl, hr, -⟩, hb⟩
  have HB3 := Lib.hid (below_step HB0.out hb); have HBr3 := Lib.hid hr
  clear hb hr HE HB0
  have Hl := Lib.hid (s.enc_length data)
  obtain ⟨r', cr, hv, -, -⟩ := HBr3.out
  rw [Hl.out] at hv
  subst hv
  go_wp2_with fail
  refine (num_any 0 _).mono ?_
  rintro e w' ⟨rfl, rfl⟩
  obtain ⟨va, wa, vb, wb, hr1, hr2, ho, hbb⟩ := two_appends W1 _ _ data (s.enc data) (H.out.below HB3.out) HBr3.out (by omega) (by rw [Hl.out]; decide)
  have Hr1 := Lib.hid hr1; have Hr2 := Lib.hid hr2; have Ho := Lib.hid ho; have Hbb := Lib.hid hbb; clear hr1 hr2 ho hbb
  obtain ⟨g, cg, rfl, hcg, hg0, hgl, hrow⟩ := rowAt_own Ho.out (by rw [List.length_append, Hl.out]; omega)
  have hlen : (data ++ s.enc data).length = data.length + 64 := by rw [List.length_append, Hl.out]
  rw [hlen] at hcg Hr2
  obtain ⟨L, hL⟩ : ∃ L, L = data ++ s.enc data := ⟨_, rfl⟩
  rw [← hL] at hrow hlen
  have HST0 := Lib.hid (show TS w W1 wb g L a a from ⟨below_step HB3.out Hbb.out, Hbb.out, by rw [fill_start]; exact hrow, hgl, hg0⟩)
  have HL := Lib.hid hL; have HLl := Lib.hid hlen
  clear hL hlen hrow hg0 hgl Ho Hbb
  go_wp2_with (at_builtin; first | refine wpList_append_run rfl (.tmp 41) (.tmp 42) 26 26 rfl _ _ va wa rfl rfl Hr1.out ?_ | refine wpList_append_run rfl (.tmp 43) (.tmp 44) 26 26 rfl _ _ _ wb rfl rfl Hr2.out ?_)
  clear Hr1 Hr2
  go_loopw [10] (fun i wr => ∃ k : Nat, a ≤ k ∧ k ≤ data.length + 64 ∧ i = .int .i64 k ∧ Hid (TS w W1 wr g L a k)) (fun i _ => data.length + 64 - (intOf i).toNat)
  case atStart => exact ⟨a, Nat.le_refl _, ha, rfl, HST0⟩
  case round =>
    clear HST0
    obtain ⟨k, hak, hk, rfl, HI⟩ := hrel
    by_cases hlt : k < data.length + 64
    · have HN := Lib.hid (HI.out.set HB3.out.size hak (by rw [HLl.out]; exact hlt))
      have hbk : k < (fill L a k).length := by rw [fill_length L a k hak (by rw [HLl.out]; omega), HLl.out]; exact hlt
      have hc1 := (HI.out.row k hbk).1
      have hf1 := (HI.out.row k hbk).2
      obtain ⟨x, hx⟩ : ∃ x : Int, x = ((fill L a k)[k].toNat : Int) := ⟨_, rfl⟩
      rw [← hx] at hc1
      have hk0 : (0 : Int) ≤ k := by omega
      have hk1 : (k : Int) < data.length + 64 := by omega
      clear hbk hx
      go_wp2
      go_roundw
      case rel => exact ⟨k + 1, by omega, by omega, by go_num, HN⟩
      case measure => simp [intOf]; omega
    · have hk4 : k = data.length + 64 := by omega
      subst hk4
      have hst := HI.out
      obtain ⟨L', hL'⟩ : ∃ L', L' = fill L a (data.length + 64) := ⟨_, rfl⟩
      have hlen : L'.length = data.length + 64 := by rw [hL', fill_length L a _ hak (by rw [HLl.out]; exact Nat.le_refl _), HLl.out]
      have hrow := hst.row
      rw [← hL'] at hrow
      have hbyt := hrow.byt hst.lt (c := cg) (by rw [hlen]; exact hcg)
      obtain ⟨V1, e1, h1⟩ := slice_l (lo := data.length) hbyt (by omega) (by rw [hlen]; exact hcg)
      obtain ⟨V2, e2, h2⟩ := slice_h (hi := data.length) hbyt (by omega) (by rw [hlen]; exact hcg)
      rw [hlen] at e1 e2
      obtain ⟨-, -, c3', c4⟩ := cut_page L' data.length hlen
      have htorn := Sp.torn s data a Hw.out Hok.out ha L' (by rw [hL', HL.out, ← HL.out, HLl.out])
      obtain ⟨S, E, hSE⟩ : ∃ (S : Sp) (E : Int), Sp.dec (L'.drop data.length) (L'.take data.length) = (S, E) := ⟨_, _, rfl⟩
      rw [hSE] at htorn
      obtain ⟨u0, u1, u2, u3, u4, u5, hV⟩ : ∃ u0 u1 u2 u3 u4 u5 : Int, S.val = .agg #[.int .u8 u0, .int .i64 u1, .int .u64 u2, .int .u64 u3, .int .i64 u4, .int .i64 u5] := ⟨_, _, _, _, _, _, rfl⟩
      have HD := Lib.hid (fun (W' : World) (hW : Bel wr W') => (show Calls Tryd.prog 16 #[V1, V2] W' fun e w' => e = .returned (.tuple #[.agg #[.int .u8 u0, .int .i64 u1, .int .u64 u2, .int .u64 u3, .int .i64 u4, .int .i64 u5], .int .i64 E]) ∧ Below W'.heap.size W' w' from
        Decode_is V1 V2 _ _ S _ E W' hV hSE (HT.out.below (below_step hst.below hW)) (h1.below hW) (h2.below hW) (by rw [c3']; decide) (by rw [c4]; unfold maxLen; omega)))
      have HBw := Lib.hid hst.below
      have HS1 := Lib.hid (fun (W' : World) (hW : Bel wr W') => same_any V2 _ _ data W' (h2.below hW) (H.out.below (below_step hst.below hW)))
      have HS2 := Lib.hid (fun (W' : World) (hW : Bel wr W') => same_any V1 _ _ (s.enc data) W' (h1.below hW) (HBr3.out.below (Below.trans hst.keep (hW.mono hst.keep.size))))
      have Htorn := Lib.hid htorn
      clear hst hL' hlen hrow hbyt h1 h2 c3' c4 HI hSE htorn hV
      go_wp2
      go_region_with (first | (go_at_call 16; refine (HD.out wr.drew (Bel.refl _).drew).mono ?_; rintro e w5 ⟨rfl, hb5⟩) | (go_at_call 16; refine (HD.out ((wr.alloc (.cells #[.int .u8 0, .int .i64 0, .int .u64 0, .int .u64 0, .int .i64 0, .int .i64 0] 25)).drew) ((Bel.refl _).alloc _).drew).mono ?_; rintro e w5 ⟨rfl, hb5⟩; have hzr := zrow_later hb5; obtain ⟨z0, z1, z2, z3, z4, z5, y0, y1, y2, y3, y4, y5⟩ := hzr))
      rotate_left
      · have HBW := Lib.hid (show Bel wr _ from below_six (.int .u8 u0) (.int .i64 u1) (.int .u64 u2) (.int .u64 u3) (.int .i64 u4) (.int .i64 u5) (show Below wr.heap.size wr w5 from Bel.step ((Bel.refl wr).alloc _).drew hb5))
        clear hb5 z0 z1 z2 z3 z4 z5 y0 y1 y2 y3 y4 y5
        generalize ((((((w5.setCell ⟨wr.heap.size, 0, none⟩ (.int .u8 u0)).setCell ⟨wr.heap.size, 1, none⟩ (.int .i64 u1)).setCell ⟨wr.heap.size, 2, none⟩ (.int .u64 u2)).setCell ⟨wr.heap.size, 3, none⟩ (.int .u64 u3)).setCell ⟨wr.heap.size, 4, none⟩ (.int .i64 u4)).setCell ⟨wr.heap.size, 5, none⟩ (.int .i64 u5)) = W6 at HBW ⊢
        generalize wr.heap.size = n5
        have HBww := Lib.hid (below_step HBw.out HBW.out)
        by_cases hA : L'.take data.length = data
        · by_cases hB : L'.drop data.length = s.enc data
          · have HSa := Lib.hid (fun (W' : World) (hW : Bel wr W') => (show Calls Tryd.prog 11 #[V2, .slice A0 data.length cA] W' fun e w' => e = .returned (.bool true) ∧ W' = w' by have := HS1.out W' hW; rwa [decide_eq_true hA] at this))
            have HSb := Lib.hid (fun (W' : World) (hW : Bel wr W') => (show Calls Tryd.prog 11 #[V1, .slice r' 64 cr] W' fun e w' => e = .returned (.bool true) ∧ W' = w' by have := HS2.out W' hW; rwa [decide_eq_true hB] at this))
            have hE : E = 0 := Htorn.out.2 ⟨hA, hB⟩
            subst hE
            clear hA hB HS1 HS2 Htorn HD
            go_wp2
            have hne6 := gw_ne W6
            refine wp_region_gw (by kernel_rfl) (by kernel_rfl) ?_
            refine wpQuiet_at fun K hK => ?_
            go_simp
            refine hK _ ?_
            clear hK K
            repeat (go_big_quiet_step ((first | (go_at_call 12; exact gw_same _ (num_any _ _)) | (go_at_call 11; exact gw_same _ (HSa.out _ (gwb HBW.out _))) | (go_at_call 11; exact gw_same _ (HSb.out _ (gwb HBW.out _))) | (go_at_call 8; exact gw_of _ (works_any _ (HT.out.below (gww HBww.out _)))))))
            refine wpQuiet_nil ?_
            rintro w7 ⟨⟨_, hb7⟩, rfl⟩
            have Hb7 := Lib.hid (below_step HBww.out hb7)
            clear hb7
            go_wp2
            go_ret
            exact ⟨rfl, Hb7.out⟩
          · have HSa := Lib.hid (fun (W' : World) (hW : Bel wr W') => (show Calls Tryd.prog 11 #[V2, .slice A0 data.length cA] W' fun e w' => e = .returned (.bool true) ∧ W' = w' by have := HS1.out W' hW; rwa [decide_eq_true hA] at this))
            have HSb := Lib.hid (fun (W' : World) (hW : Bel wr W') => (show Calls Tryd.prog 11 #[V1, .slice r' 64 cr] W' fun e w' => e = .returned (.bool false) ∧ W' = w' by have := HS2.out W' hW; rwa [decide_eq_false hB] at this))
            have hE : ¬ E = 0 := fun h => hB (Htorn.out.1 h).2
            have hE2 : (E == 0) = false := by simpa using hE
            clear hA hB HS1 HS2 Htorn HD
            go_wp2
            have hne6 := gw_ne W6
            refine wp_region_gw (by kernel_rfl) (by kernel_rfl) ?_
            refine wpQuiet_at fun K hK => ?_
            go_simp
            refine hK _ ?_
            clear hK K
            repeat (go_big_quiet_step ((first | (go_at_call 12; exact gw_same _ (num_any _ _)) | (go_at_call 11; exact gw_same _ (HSa.out _ (gwb HBW.out _))) | (go_at_call 11; exact gw_same _ (HSb.out _ (gwb HBW.out _))) | (go_at_call 8; exact gw_of _ (works_any _ (HT.out.below (gww HBww.out _)))))))
            refine wpQuiet_nil ?_
            rintro w7 ⟨⟨_, hb7⟩, rfl⟩
            have Hb7 := Lib.hid (below_step HBww.out hb7)
            clear hb7
            go_wp2
            go_ret
            exact ⟨rfl, Hb7.out⟩
        · have HSa := Lib.hid (fun (W' : World) (hW : Bel wr W') => (show Calls Tryd.prog 11 #[V2, .slice A0 data.length cA] W' fun e w' => e = .returned (.bool false) ∧ W' = w' by have := HS1.out W' hW; rwa [decide_eq_false hA] at this))
          have hE : ¬ E = 0 := fun h => hA (Htorn.out.1 h).1
          have hE2 : (E == 0) = false := by simpa using hE
          clear hA HS1 HS2 Htorn HD
          go_wp2
          have hne6 := gw_ne W6
          refine wp_region_gw (by kernel_rfl) (by kernel_rfl) ?_
          refine wpQuiet_at fun K hK => ?_
          go_simp
          refine hK _ ?_
          clear hK K
          repeat (go_big_quiet_step ((first | (go_at_call 12; exact gw_same _ (num_any _ _)) | (go_at_call 11; exact gw_same _ (HSa.out _ (gwb HBW.out _))) | (go_at_call 8; exact gw_of _ (works_any _ (HT.out.below (gww HBww.out _)))))))
          refine wpQuiet_nil ?_
          rintro w7 ⟨⟨_, hb7⟩, rfl⟩
          have Hb7 := Lib.hid (below_step HBww.out hb7)
          clear hb7
          go_wp2
          go_ret
          exact ⟨rfl, Hb7.out⟩
      · have HBW := Lib.hid (show Bel wr (w5.alloc (.cells #[.int .u8 u0, .int .i64 u1, .int .u64 u2, .int .u64 u3, .int .i64 u4, .int .i64 u5] 25)) from (Bel.step (Bel.refl wr).drew hb5).alloc _)
        clear hb5
        generalize w5.alloc (.cells #[.int .u8 u0, .int .i64 u1, .int .u64 u2, .int .u64 u3, .int .i64 u4, .int .i64 u5] 25) = W6 at HBW ⊢
        generalize w5.heap.size = n5
        have HBww := Lib.hid (below_step HBw.out HBW.out)
        by_cases hA : L'.take data.length = data
        · by_cases hB : L'.drop data.length = s.enc data
          · have HSa := Lib.hid (fun (W' : World) (hW : Bel wr W') => (show Calls Tryd.prog 11 #[V2, .slice A0 data.length cA] W' fun e w' => e = .returned (.bool true) ∧ W' = w' by have := HS1.out W' hW; rwa [decide_eq_true hA] at this))
            have HSb := Lib.hid (fun (W' : World) (hW : Bel wr W') => (show Calls Tryd.prog 11 #[V1, .slice r' 64 cr] W' fun e w' => e = .returned (.bool true) ∧ W' = w' by have := HS2.out W' hW; rwa [decide_eq_true hB] at this))
            have hE : E = 0 := Htorn.out.2 ⟨hA, hB⟩
            subst hE
            clear hA hB HS1 HS2 Htorn HD
            go_wp2
            have hne6 := gw_ne W6
            refine wp_region_gw (by kernel_rfl) (by kernel_rfl) ?_
            refine wpQuiet_at fun K hK => ?_
            go_simp
            refine hK _ ?_
            clear hK K
            repeat (go_big_quiet_step ((first | (go_at_call 12; exact gw_same _ (num_any _ _)) | (go_at_call 11; exact gw_same _ (HSa.out _ (gwb HBW.out _))) | (go_at_call 11; exact gw_same _ (HSb.out _ (gwb HBW.out _))) | (go_at_call 8; exact gw_of _ (works_any _ (HT.out.below (gww HBww.out _)))))))
            refine wpQuiet_nil ?_
            rintro w7 ⟨⟨_, hb7⟩, rfl⟩
            have Hb7 := Lib.hid (below_step HBww.out hb7)
            clear hb7
            go_wp2
            go_ret
            exact ⟨rfl, Hb7.out⟩
          · have HSa := Lib.hid (fun (W' : World) (hW : Bel wr W') => (show Calls Tryd.prog 11 #[V2, .slice A0 data.length cA] W' fun e w' => e = .returned (.bool true) ∧ W' = w' by have := HS1.out W' hW; rwa [decide_eq_true hA] at this))
            have HSb := Lib.hid (fun (W' : World) (hW : Bel wr W') => (show Calls Tryd.prog 11 #[V1, .slice r' 64 cr] W' fun e w' => e = .returned (.bool false) ∧ W' = w' by have := HS2.out W' hW; rwa [decide_eq_false hB] at this))
            have hE : ¬ E = 0 := fun h => hB (Htorn.out.1 h).2
            have hE2 : (E == 0) = false := by simpa using hE
            clear hA hB HS1 HS2 Htorn HD
            go_wp2
            have hne6 := gw_ne W6
            refine wp_region_gw (by kernel_rfl) (by kernel_rfl) ?_
            refine wpQuiet_at fun K hK => ?_
            go_simp
            refine hK _ ?_
            clear hK K
            repeat (go_big_quiet_step ((first | (go_at_call 12; exact gw_same _ (num_any _ _)) | (go_at_call 11; exact gw_same _ (HSa.out _ (gwb HBW.out _))) | (go_at_call 11; exact gw_same _ (HSb.out _ (gwb HBW.out _))) | (go_at_call 8; exact gw_of _ (works_any _ (HT.out.below (gww HBww.out _)))))))
            refine wpQuiet_nil ?_
            rintro w7 ⟨⟨_, hb7⟩, rfl⟩
            have Hb7 := Lib.hid (below_step HBww.out hb7)
            clear hb7
            go_wp2
            go_ret
            exact ⟨rfl, Hb7.out⟩
        · have HSa := Lib.hid (fun (W' : World) (hW : Bel wr W') => (show Calls Tryd.prog 11 #[V2, .slice A0 data.length cA] W' fun e w' => e = .returned (.bool false) ∧ W' = w' by have := HS1.out W' hW; rwa [decide_eq_false hA] at this))
          have hE : ¬ E = 0 := fun h => hA (Htorn.out.1 h).1
          have hE2 : (E == 0) = false := by simpa using hE
          clear hA HS1 HS2 Htorn HD
          go_wp2
          have hne6 := gw_ne W6
          refine wp_region_gw (by kernel_rfl) (by kernel_rfl) ?_
          refine wpQuiet_at fun K hK => ?_
          go_simp
          refine hK _ ?_
          clear hK K
          repeat (go_big_quiet_step ((first | (go_at_call 12; exact gw_same _ (num_any _ _)) | (go_at_call 11; exact gw_same _ (HSa.out _ (gwb HBW.out _))) | (go_at_call 8; exact gw_of _ (works_any _ (HT.out.below (gww HBww.out _)))))))
          refine wpQuiet_nil ?_
          rintro w7 ⟨⟨_, hb7⟩, rfl⟩
          have Hb7 := Lib.hid (below_step HBww.out hb7)
          clear hb7
          go_wp2
          go_ret
          exact ⟨rfl, Hb7.out⟩
end Go.Proofs.YtcebockdfkjoiaaDoor
