/- The contracts of writeLists' closures, of divide at each of them. Conditions stand in each theorem. -/
import Derived.Test.YtngaifokkkmmcaaBB
namespace Go.Proofs.Ytngaifokkkmmcaa
open Go.RowKit
set_option linter.unusedVariables false
set_option maxHeartbeats 2000000
set_option maxRecDepth 100000
section
variable {W : World} {base b d cap : Nat} {m : Mm}
theorem put68_yes (h : Mem W base b d cap m) (hG : Gm m) (at' : Nat) (hat : at' < 18446744073709551616) (v : Value) (xs : List Nat) (q : Nat) (hq : W.cell? ⟨q, 0, none⟩ = some (.pointer (some ⟨b, 0, none⟩))) (hv : U64s W v xs) (hm : xs.length ≤ 100000) (hz : m.chk at' ((xs.length * 8 : Nat) : Int) = 0) :
    Calls Try.prog 68 #[.int .u64 (at' : Int), v, .pointer (some ⟨q, 0, none⟩)] W fun e w' => e = .returned (.tuple #[]) ∧ Below W.heap.size W w' := by
  have HC := Check_any h hG at' ((xs.length * 8 : Nat) : Int) hat (by omega)
  rw [hz] at HC
  have hmul : wrap64 ((xs.length : Int) * 8) = ((xs.length * 8 : Nat) : Int) := by unfold wrap64; omega
  have hmul2 : IntKind.i64.wrap ((xs.length : Int) * 8) = ((xs.length * 8 : Nat) : Int) := by rw [IntKind.wrap_i64]; omega
  have HC := Lib.hid HC
  have HO := Lib.hid requireOK_yes
  obtain ⟨A, c, rfl, -⟩ := hv
  clear h hG hat hm hz
  generalize ((xs.length * 8 : Nat) : Int) = L8 at *
  go_enter Try.func68, Try.ntmps68
  go_wp2_with (first
    | ((go_at_call 22; with_reducible refine HC.out.mono ?_); rintro e w1 ⟨rfl, hb⟩; have HB1 := Lib.hid hb; clear hb)
    | ((go_at_call 50; with_reducible refine (HO.out _).mono ?_); rintro e w2 ⟨rfl, hb⟩; have HB2 := Lib.hid (HB1.out.trans (hb.mono HB1.out.size)); clear hb))
  go_end0
  exact ⟨rfl, HB2.out⟩
theorem put68_no (h : Mem W base b d cap m) (hG : Gm m) (at' : Nat) (hat : at' < 18446744073709551616) (v : Value) (xs : List Nat) (q : Nat) (hq : W.cell? ⟨q, 0, none⟩ = some (.pointer (some ⟨b, 0, none⟩))) (hv : U64s W v xs) (hm : xs.length ≤ 100000) (hz : m.chk at' ((xs.length * 8 : Nat) : Int) ≠ 0) :
    Calls Try.prog 68 #[.int .u64 (at' : Int), v, .pointer (some ⟨q, 0, none⟩)] W fun e w' => e = Pan (m.chk at' ((xs.length * 8 : Nat) : Int)) ∧ Below W.heap.size W w' := by
  have HC := Lib.hid (Check_any h hG at' ((xs.length * 8 : Nat) : Int) hat (by omega))
  have hmul : wrap64 ((xs.length : Int) * 8) = ((xs.length * 8 : Nat) : Int) := by unfold wrap64; omega
  have hmul2 : IntKind.i64.wrap ((xs.length : Int) * 8) = ((xs.length * 8 : Nat) : Int) := by rw [IntKind.wrap_i64]; omega
  generalize m.chk at' ((xs.length * 8 : Nat) : Int) = z at *
  have HO := Lib.hid (fun w => requireOK_no z w hz)
  obtain ⟨A, c, rfl, -⟩ := hv
  clear h hG hat hm hz
  generalize ((xs.length * 8 : Nat) : Int) = L8 at *
  go_enter Try.func68, Try.ntmps68
  go_wp2_with (first
    | ((go_at_call 22; with_reducible refine HC.out.mono ?_); rintro e w1 ⟨rfl, hb⟩; have HB1 := Lib.hid hb; clear hb)
    | ((go_at_call 50; with_reducible refine (HO.out _).mono ?_); rintro e w2 ⟨rfl, hb⟩; have HB2 := Lib.hid (HB1.out.trans (hb.mono HB1.out.size)); clear hb))
  exact ⟨rfl, rfl, HB2.out⟩
theorem put69 (h : Mem W base b d cap m) (hG : Gm m) (at' : Nat) (hat : at' < 18446744073709551616) (v : Value) (xs : List Nat) (q : Nat) (hq : W.cell? ⟨q, 0, none⟩ = some (.pointer (some ⟨b, 0, none⟩))) (hqne : q ≠ b ∧ q ≠ d) (hv : U64s W v xs) (hm : xs.length ≤ 100000) :
    Calls Try.prog 69 #[.int .u64 (at' : Int), v, .pointer (some ⟨q, 0, none⟩)] W fun e w' => e = .returned (.tuple #[]) ∧ Mem w' base b d cap (m.ch at' ((enc xs).length : Int) (enc xs)) ∧ Chg (fun k => k = b ∨ k = d) W w' := by
  have hbd : Below W.heap.size W W.drew := (Below.refl _ _).drew
  have hql := World.block_lt_of_cell? W _ hq
  have HE := Lib.hid (encode_any v xs W.drew (hv.below hbd) hm)
  have HW : Hid (∀ w1 A c, Below W.heap.size W w1 → w1.ownsRow W.heap.size 5 1 (.slice A (xs.length * 8) c) (xs.length * 8) (bv (enc xs)) → Calls Try.prog 23 #[.pointer (some ⟨b, 0, none⟩), .int .u64 (at' : Int), .slice A (xs.length * 8) c] w1 fun e w' => (∃ z, e = .returned (.int .i64 z)) ∧ Mem w' base b d cap (m.ch at' ((enc xs).length : Int) (enc xs)) ∧ Chg (fun k => k = b ∨ k = d) W w') := Lib.hid fun w1 A c hb ho => by
    have hby : Byt w1 (.slice A (xs.length * 8) c) (enc xs) := Byt.of_own ho
    refine (Write_any (h.below hb) hG at' _ (enc xs) hat hby (fun h0 k hk hs => ?_) (by rw [enc_length]; omega)).mono fun e w' ⟨h1, h2, h3⟩ => ⟨⟨_, h1⟩, h2, (Chg.of_below hb).also h3⟩
    have := (ho.lt k hk).1
    have := h.dlt
    omega
  obtain ⟨A, c, rfl, -⟩ := hv
  clear h hG hat hm hbd
  go_enter Try.func69, Try.ntmps69
  go_region_held3 (fun w' => w'.cell? ⟨q, 0, none⟩ = some (.pointer (some ⟨b, 0, none⟩))) (first | assumption) (first
    | ((go_at_call 70; with_reducible refine HE.out.mono ?_); rintro e w1 ⟨⟨A1, c1, rfl, ho⟩, hb⟩; have HB1 := Lib.hid ((Below.refl W.heap.size W).drew.trans hb); have HO1 : Hid (w1.ownsRow W.heap.size 5 1 (.slice A1 (xs.length * 8) c1) (xs.length * 8) (bv (enc xs))) := Lib.hid ho; have e0 := (HB1.out.cell (p := ⟨q, 0, none⟩) hql).trans hq; clear ho hb)
    | ((go_at_call 23; with_reducible refine (HW.out _ _ _ HB1.out HO1.out).mono ?_); rintro e w2 ⟨⟨z, rfl⟩, hm2, hc2⟩; have HM2 := Lib.hid (And.intro hm2 hc2); have e1 : w2.cell? ⟨q, 0, none⟩ = some (.pointer (some ⟨b, 0, none⟩)) := (hc2.cell (p := ⟨q, 0, none⟩) hql (fun hs => hs.elim hqne.1 hqne.2)).trans hq; clear hm2 hc2))
  all_goals
    go_wp2
    go_end0
    exact ⟨rfl, HM2.out⟩
end
end Go.Proofs.Ytngaifokkkmmcaa
