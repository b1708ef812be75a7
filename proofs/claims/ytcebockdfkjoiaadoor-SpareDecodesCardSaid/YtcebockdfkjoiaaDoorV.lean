/- The walk of SpareHolds. Condition: the table lies as the program's text lays it. -/
import Derived.Test.YtcebockdfkjoiaaDoorU
import Derived.Deep.RegionHeld3
import Derived.Deep.RegionWith
namespace Go.Proofs.YtcebockdfkjoiaaDoor
open Go.RowKit
set_option linter.unusedVariables false
set_option maxHeartbeats 4000000
set_option maxRecDepth 100000

theorem holds_early (s : Sp) (v : Value) (data : List UInt8) (at_ : Int) (c0 c1 c2 c3 : UInt8) (w : World) (hT : Tabs w) (h : Byt w v data) (hn : data.length ≤ maxLen) (hw : s.wf) (hat : -9223372036854775808 ≤ at_) (hat2 : at_ ≤ 9223372036854775807) (hc : 300 < data.length ∨ at_ < 0 ∨ (data.length : Int) + 60 < at_) :
    Calls Tryd.prog 7 #[s.val, v, .int .i64 at_, .agg #[.int .u8 (c0.toNat : Int), .int .u8 (c1.toNat : Int), .int .u8 (c2.toNat : Int), .int .u8 (c3.toNat : Int)]] w fun e w' => e = .returned (.bool true) ∧ Below w.heap.size w w' := by
  unfold maxLen at hn
  have HB0 := Lib.hid (below_step (below_alloc w (.cells #[.int .u8 (s.kind : Int), .int .i64 s.sector, .int .u64 (s.seq : Int), .int .u64 (s.prev : Int), .int .i64 s.index, .int .i64 s.length] 25)) (below_alloc _ (.cells #[.int .u8 (c0.toNat : Int), .int .u8 (c1.toNat : Int), .int .u8 (c2.toNat : Int), .int .u8 (c3.toNat : Int)] 47)))
  have HT := Lib.hid hT; clear hT
  obtain ⟨A, c, rfl, -, -⟩ := h
  unfold Sp.val
  by_cases h1 : 300 < data.length
  · have g1 : (300 : Int) < data.length := by omega
    clear hc
    go_enter Tryd.func7, Tryd.ntmps7
    go_wp2_with fail
    refine (works_any _ (HT.out.below HB0.out)).mono ?_
    rintro e w3 ⟨rfl, hb3⟩
    have Hb3 := Lib.hid (below_step HB0.out hb3); clear hb3
    go_wp2
    go_ret
    exact ⟨rfl, Hb3.out⟩
  by_cases h2 : at_ < 0
  · have g1 : decide ((300 : Int) < data.length) = false := decide_eq_false (by omega)
    clear hc
    go_enter Tryd.func7, Tryd.ntmps7
    go_wp2_with fail
    refine (works_any _ (HT.out.below HB0.out)).mono ?_
    rintro e w3 ⟨rfl, hb3⟩
    have Hb3 := Lib.hid (below_step HB0.out hb3); clear hb3
    go_wp2
    go_ret
    exact ⟨rfl, Hb3.out⟩
  · have g1 : decide ((300 : Int) < data.length) = false := decide_eq_false (by omega)
    have g2 : decide (at_ < 0) = false := decide_eq_false (by omega)
    have g3 : (data.length : Int) + 60 < at_ := by omega
    clear hc
    go_enter Tryd.func7, Tryd.ntmps7
    go_wp2_with fail
    refine (works_any _ (HT.out.below HB0.out)).mono ?_
    rintro e w3 ⟨rfl, hb3⟩
    have Hb3 := Lib.hid (below_step HB0.out hb3); clear hb3
    go_wp2
    go_ret
    exact ⟨rfl, Hb3.out⟩
theorem holds_invalid (s : Sp) (v : Value) (data : List UInt8) (a : Nat) (c0 c1 c2 c3 : UInt8) (w : World) (hT : Tabs w) (h : Byt w v data) (hn : data.length ≤ 300) (ha : a ≤ data.length + 60) (hw : s.wf) (hok : ¬ s.ok) :
    Calls Tryd.prog 7 #[s.val, v, .int .i64 (a : Int), .agg #[.int .u8 (c0.toNat : Int), .int .u8 (c1.toNat : Int), .int .u8 (c2.toNat : Int), .int .u8 (c3.toNat : Int)]] w fun e w' => e = .returned (.bool true) ∧ Below w.heap.size w w' := by
  have HB0 := Lib.hid (below_step (below_alloc w (.cells #[.int .u8 (s.kind : Int), .int .i64 s.sector, .int .u64 (s.seq : Int), .int .u64 (s.prev : Int), .int .i64 s.index, .int .i64 s.length] 25)) (below_alloc _ (.cells #[.int .u8 (c0.toNat : Int), .int .u8 (c1.toNat : Int), .int .u8 (c2.toNat : Int), .int .u8 (c3.toNat : Int)] 47)))
  have HE := Lib.hid (Encode_no s v data ((w.alloc (.cells #[.int .u8 (s.kind : Int), .int .i64 s.sector, .int .u64 (s.seq : Int), .int .u64 (s.prev : Int), .int .i64 s.index, .int .i64 s.length] 25)).alloc (.cells #[.int .u8 (c0.toNat : Int), .int .u8 (c1.toNat : Int), .int .u8 (c2.toNat : Int), .int .u8 (c3.toNat : Int)] 47)) hw hok)
  have HT := Lib.hid hT; clear hT hw hok
  obtain ⟨A, c, rfl, -, -⟩ := h
  unfold Sp.val at *
  have g1 : decide ((300 : Int) < data.length) = false := decide_eq_false (by omega)
  have g2 : decide ((a : Int) < 0) = false := decide_eq_false (by omega)
  have g3 : decide ((data.length : Int) + 60 < a) = false := decide_eq_false (by omega)
  go_enter Tryd.func7, Tryd.ntmps7
  go_wp2_with fail
  refine HE.out.mono ?_
  rintro e w1 ⟨⟨r, rfl, -⟩, hb⟩
  have Hb := Lib.hid (below_step HB0.out hb); clear hb HE
  go_wp2_with fail
  refine (num_any 2 _).mono ?_
  rintro e w' ⟨rfl, rfl⟩
  go_wp2_with fail
  refine (works_any _ (HT.out.below Hb.out)).mono ?_
  rintro e w3 ⟨rfl, hb3⟩
  have Hb3 := Lib.hid (below_step Hb.out hb3); clear hb3
  go_wp2
  go_ret
  exact ⟨rfl, Hb3.out⟩
end Go.Proofs.YtcebockdfkjoiaaDoor
