/- PrpHolds where there is nothing to do. Conditions stand in each theorem. -/
import Derived.Test.YtngaifokkkmmcaaHA
namespace Go.Proofs.Ytngaifokkkmmcaa
open Go.RowKit Go.Shelf
set_option linter.unusedVariables false
set_option maxHeartbeats 1000000
set_option maxRecDepth 100000
/-- The memory of PrpHolds. -/
def m20 : Mm := Mm.new 81920
theorem m20_len : m20.B.length = 81920 := by unfold m20 Mm.new; exact List.length_replicate
theorem m20_gm : Gm m20 := Gm.new (by omega) (by omega)
theorem new20 (w : World) : Calls Try.prog 19 #[.int .i64 20] w fun e w' => ∃ b d cap, e = .returned (.tuple #[.pointer (some ⟨b, 0, none⟩), .int .i64 0]) ∧ Kp w b d cap m20 w' := kp_new w 20 81920 (by decide) (by decide) (by decide)
theorem wrap64_nat (x : Nat) (h : x < 9223372036854775808) : wrap64 (x : Int) = (x : Int) := by unfold wrap64; omega
theorem i64_nat (x : Nat) (h : x < 9223372036854775808) : IntKind.i64.wrap (x : Int) = (x : Int) := by rw [IntKind.wrap_i64]; omega
theorem u64_nat (x : Nat) (h : x < 18446744073709551616) : IntKind.u64.wrap (x : Int) = (x : Int) := by rw [IntKind.wrap_u64]; omega
theorem tmod_nat (x y : Nat) : (x : Int).tmod (y : Int) = ((x % y : Nat) : Int) := by rw [Int.tmod_eq_emod_of_nonneg (by omega)]; rfl
/-- What the sums at the offset, at the start come to. -/
theorem sums_of (of : Nat) (hof : of < 65536) : ∃ X o : Nat, o = of % 1024 * 4 ∧ o < 4096 ∧ o % 4 = 0 ∧ (of : Int).tmod 1024 = (X : Int) ∧ IntKind.i64.wrap (of : Int) = (of : Int) ∧ wrap64 (of : Int) = (of : Int) ∧ IntKind.i64.wrap (X : Int) = (X : Int) ∧ wrap64 (X : Int) = (X : Int) ∧ IntKind.i64.wrap ((X : Int) * 4) = (o : Int) ∧ wrap64 ((X : Int) * 4) = (o : Int) ∧ IntKind.u64.wrap (o : Int) = (o : Int) := by
  have h1 : of < 9223372036854775808 := by omega
  have h2 : of % 1024 < 9223372036854775808 := by omega
  have h3 : of % 1024 * 4 < 9223372036854775808 := by omega
  have h4 : of % 1024 * 4 < 18446744073709551616 := by omega
  have h5 : ((of % 1024 : Nat) : Int) * 4 = ((of % 1024 * 4 : Nat) : Int) := by omega
  refine ⟨of % 1024, of % 1024 * 4, rfl, by omega, by omega, tmod_nat of 1024, i64_nat _ h1, wrap64_nat _ h1, i64_nat _ h2, wrap64_nat _ h2, ?_, ?_, u64_nat _ h4⟩
  · rw [h5]; exact i64_nat _ h3
  · rw [h5]; exact wrap64_nat _ h3
theorem sums_st (st : Nat) (hst : st < 65536) : ∃ X a : Nat, a = st % 512 * 8 ∧ a ≤ 4088 ∧ a % 8 = 0 ∧ (st : Int).tmod 512 = (X : Int) ∧ IntKind.u64.wrap (st : Int) = (st : Int) ∧ IntKind.u64.wrap (X : Int) = (X : Int) ∧ IntKind.u64.wrap ((X : Int) * 8) = (a : Int) := by
  have h1 : st < 18446744073709551616 := by omega
  have h2 : st % 512 < 18446744073709551616 := by omega
  have h3 : st % 512 * 8 < 18446744073709551616 := by omega
  have h5 : ((st % 512 : Nat) : Int) * 8 = ((st % 512 * 8 : Nat) : Int) := by omega
  refine ⟨st % 512, st % 512 * 8, rfl, by omega, by omega, tmod_nat st 512, u64_nat _ h1, u64_nat _ h2, ?_⟩
  rw [h5]; exact u64_nat _ h3
theorem holds_skip_a (v : Value) (l : List UInt8) (of st : Nat) (n : Int) (w : World) (hv : Byt w v l) (hof : of < 65536) (hst : st < 65536) (h1 : 30 < l.length) : Calls Try.prog 7 #[v, .int .u16 (of : Int), .int .u16 (st : Int), .int .i64 n] w (OkB w) := by
  obtain ⟨A0, c0, rfl, hcc, hrr⟩ := hv
  obtain ⟨X1, o, hO, ho, ho4, AB⟩ := sums_of of hof
  obtain ⟨X2, at', hAt, hat, hat8, BB⟩ := sums_st st hst
  have HAB := Lib.hid AB
  have HBB := Lib.hid BB
  clear AB BB
  have HN := Lib.hid (new20 w)
  have HWk := Lib.hid works_any
  have HM := Lib.hid (fun (W : World) (q : Int) => num_any q W)
  have HC := Lib.hid (fun W => Count_any o n W (by omega))
  have d1 : decide ((l.length : Int) > 30) = true := decide_eq_true (by omega)
  have d1b : decide ((30 : Int) < (l.length : Int)) = true := decide_eq_true (by omega)
  have d1c : decide (30 < l.length) = true := decide_eq_true (by omega)
  clear h1
  obtain ⟨a1, a2, a3, a4, a5, a6, a7, a8⟩ := HAB.out
  obtain ⟨b1, b2, b3, b4⟩ := HBB.out
  generalize cnt o n = CN at *
  clear hcc hrr hO hAt hof hst ho ho4 hat hat8 HAB HBB
  generalize (of : Int) = OF at *
  generalize (st : Int) = ST at *
  generalize (X1 : Int) = x1 at *
  generalize (X2 : Int) = x2 at *
  generalize (at' : Int) = AT at *
  generalize (o : Int) = oo at *
  go_enter Try.func7, Try.ntmps7
  go_wp2_with fail
  with_reducible refine HN.out.mono ?_
  rintro e w1 ⟨b, d, cap, rfl, hk⟩
  have HK := Lib.hid hk
  clear hk
  go_wp2_with (first
    | ((go_at_call 21; with_reducible refine (HC.out _).mono ?_); rintro e w' ⟨rfl, rfl⟩))
  with_reducible refine (HWk.out _).mono ?_
  rintro e w2 ⟨rfl, hb⟩
  have HB := Lib.hid (HK.out.2.trans (hb.mono HK.out.2.size))
  clear hb
  go_wp2
  go_ret
  exact ⟨rfl, HB.out⟩
theorem holds_skip_b (v : Value) (l : List UInt8) (of st : Nat) (n : Int) (w : World) (hv : Byt w v l) (hof : of < 65536) (hst : st < 65536) (h1 : l.length ≤ 30) (h2 : n < 0) : Calls Try.prog 7 #[v, .int .u16 (of : Int), .int .u16 (st : Int), .int .i64 n] w (OkB w) := by
  obtain ⟨A0, c0, rfl, hcc, hrr⟩ := hv
  obtain ⟨X1, o, hO, ho, ho4, AB⟩ := sums_of of hof
  obtain ⟨X2, at', hAt, hat, hat8, BB⟩ := sums_st st hst
  have HAB := Lib.hid AB
  have HBB := Lib.hid BB
  clear AB BB
  have HN := Lib.hid (new20 w)
  have HWk := Lib.hid works_any
  have HM := Lib.hid (fun (W : World) (q : Int) => num_any q W)
  have HC := Lib.hid (fun W => Count_any o n W (by omega))
  have d1 : decide ((l.length : Int) > 30) = false := decide_eq_false (by omega)
  have d1b : decide ((30 : Int) < (l.length : Int)) = false := decide_eq_false (by omega)
  have d1c : decide (30 < l.length) = false := decide_eq_false (by omega)
  have d2 : decide (n < 0) = true := decide_eq_true (by omega)
  clear h1 h2
  obtain ⟨a1, a2, a3, a4, a5, a6, a7, a8⟩ := HAB.out
  obtain ⟨b1, b2, b3, b4⟩ := HBB.out
  generalize cnt o n = CN at *
  clear hcc hrr hO hAt hof hst ho ho4 hat hat8 HAB HBB
  generalize (of : Int) = OF at *
  generalize (st : Int) = ST at *
  generalize (X1 : Int) = x1 at *
  generalize (X2 : Int) = x2 at *
  generalize (at' : Int) = AT at *
  generalize (o : Int) = oo at *
  go_enter Try.func7, Try.ntmps7
  go_wp2_with fail
  with_reducible refine HN.out.mono ?_
  rintro e w1 ⟨b, d, cap, rfl, hk⟩
  have HK := Lib.hid hk
  clear hk
  go_wp2_with (first
    | ((go_at_call 21; with_reducible refine (HC.out _).mono ?_); rintro e w' ⟨rfl, rfl⟩))
  with_reducible refine (HWk.out _).mono ?_
  rintro e w2 ⟨rfl, hb⟩
  have HB := Lib.hid (HK.out.2.trans (hb.mono HK.out.2.size))
  clear hb
  go_wp2
  go_ret
  exact ⟨rfl, HB.out⟩
theorem holds_skip_c (v : Value) (l : List UInt8) (of st : Nat) (n : Int) (w : World) (hv : Byt w v l) (hof : of < 65536) (hst : st < 65536) (h1 : l.length ≤ 30) (h2 : 0 ≤ n) (h3 : 200000 < n) : Calls Try.prog 7 #[v, .int .u16 (of : Int), .int .u16 (st : Int), .int .i64 n] w (OkB w) := by
  obtain ⟨A0, c0, rfl, hcc, hrr⟩ := hv
  obtain ⟨X1, o, hO, ho, ho4, AB⟩ := sums_of of hof
  obtain ⟨X2, at', hAt, hat, hat8, BB⟩ := sums_st st hst
  have HAB := Lib.hid AB
  have HBB := Lib.hid BB
  clear AB BB
  have HN := Lib.hid (new20 w)
  have HWk := Lib.hid works_any
  have HM := Lib.hid (fun (W : World) (q : Int) => num_any q W)
  have HC := Lib.hid (fun W => Count_any o n W (by omega))
  have d1 : decide ((l.length : Int) > 30) = false := decide_eq_false (by omega)
  have d1b : decide ((30 : Int) < (l.length : Int)) = false := decide_eq_false (by omega)
  have d1c : decide (30 < l.length) = false := decide_eq_false (by omega)
  have d2 : decide (n < 0) = false := decide_eq_false (by omega)
  have d3 : decide (n > 200000) = true := decide_eq_true (by omega)
  have d3b : decide (200000 < n) = true := decide_eq_true (by omega)
  clear h1 h2 h3
  obtain ⟨a1, a2, a3, a4, a5, a6, a7, a8⟩ := HAB.out
  obtain ⟨b1, b2, b3, b4⟩ := HBB.out
  generalize cnt o n = CN at *
  clear hcc hrr hO hAt hof hst ho ho4 hat hat8 HAB HBB
  generalize (of : Int) = OF at *
  generalize (st : Int) = ST at *
  generalize (X1 : Int) = x1 at *
  generalize (X2 : Int) = x2 at *
  generalize (at' : Int) = AT at *
  generalize (o : Int) = oo at *
  go_enter Try.func7, Try.ntmps7
  go_wp2_with fail
  with_reducible refine HN.out.mono ?_
  rintro e w1 ⟨b, d, cap, rfl, hk⟩
  have HK := Lib.hid hk
  clear hk
  go_wp2_with (first
    | ((go_at_call 21; with_reducible refine (HC.out _).mono ?_); rintro e w' ⟨rfl, rfl⟩))
  with_reducible refine (HWk.out _).mono ?_
  rintro e w2 ⟨rfl, hb⟩
  have HB := Lib.hid (HK.out.2.trans (hb.mono HK.out.2.size))
  clear hb
  go_wp2
  go_ret
  exact ⟨rfl, HB.out⟩
theorem holds_skip_d (v : Value) (l : List UInt8) (of st : Nat) (n : Int) (w : World) (hv : Byt w v l) (hof : of < 65536) (hst : st < 65536) (h1 : l.length ≤ 30) (h2 : 0 ≤ n) (h3 : n ≤ 200000) (h4 : l.length ≠ cnt (of % 1024 * 4) n) : Calls Try.prog 7 #[v, .int .u16 (of : Int), .int .u16 (st : Int), .int .i64 n] w (OkB w) := by
  obtain ⟨A0, c0, rfl, hcc, hrr⟩ := hv
  obtain ⟨X1, o, hO, ho, ho4, AB⟩ := sums_of of hof
  obtain ⟨X2, at', hAt, hat, hat8, BB⟩ := sums_st st hst
  have HAB := Lib.hid AB
  have HBB := Lib.hid BB
  clear AB BB
  have HN := Lib.hid (new20 w)
  have HWk := Lib.hid works_any
  have HM := Lib.hid (fun (W : World) (q : Int) => num_any q W)
  have HC := Lib.hid (fun W => Count_any o n W (by omega))
  have d1 : decide ((l.length : Int) > 30) = false := decide_eq_false (by omega)
  have d1b : decide ((30 : Int) < (l.length : Int)) = false := decide_eq_false (by omega)
  have d1c : decide (30 < l.length) = false := decide_eq_false (by omega)
  have d2 : decide (n < 0) = false := decide_eq_false (by omega)
  have d3 : decide (n > 200000) = false := decide_eq_false (by omega)
  have d3b : decide (200000 < n) = false := decide_eq_false (by omega)
  rw [← hO] at h4
  have d4 : ((l.length : Int) == ((cnt o n : Nat) : Int)) = false := beq_eq_false_iff_ne.2 (by omega)
  have d4b : ((l.length : Int) != ((cnt o n : Nat) : Int)) = true := by simp only [bne, d4]; rfl
  clear h1 h2 h3 h4
  obtain ⟨a1, a2, a3, a4, a5, a6, a7, a8⟩ := HAB.out
  obtain ⟨b1, b2, b3, b4⟩ := HBB.out
  generalize cnt o n = CN at *
  clear hcc hrr hO hAt hof hst ho ho4 hat hat8 HAB HBB
  generalize (of : Int) = OF at *
  generalize (st : Int) = ST at *
  generalize (X1 : Int) = x1 at *
  generalize (X2 : Int) = x2 at *
  generalize (at' : Int) = AT at *
  generalize (o : Int) = oo at *
  go_enter Try.func7, Try.ntmps7
  go_wp2_with fail
  with_reducible refine HN.out.mono ?_
  rintro e w1 ⟨b, d, cap, rfl, hk⟩
  have HK := Lib.hid hk
  clear hk
  go_wp2_with (first
    | ((go_at_call 21; with_reducible refine (HC.out _).mono ?_); rintro e w' ⟨rfl, rfl⟩))
  with_reducible refine (HWk.out _).mono ?_
  rintro e w2 ⟨rfl, hb⟩
  have HB := Lib.hid (HK.out.2.trans (hb.mono HK.out.2.size))
  clear hb
  go_wp2
  go_ret
  exact ⟨rfl, HB.out⟩
end Go.Proofs.Ytngaifokkkmmcaa
