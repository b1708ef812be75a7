/- The contracts of IndexFunc, ContainsFunc, accepts. Conditions stand in each theorem. -/
import Derived.Test.YtildofclgofjdaaE
namespace Go.Proofs.Ytildofclgofjdaa
open Go.RowKit
set_option linter.unusedVariables false
set_option maxHeartbeats 400000
set_option maxRecDepth 100000
def anyB (l : List (Int × Int)) : Bool := l.any fun p => decide (0 < p.2)
def IdxPost (w : World) (l : List (Int × Int)) (e : Ending) (w' : World) : Prop := (∃ r : Int, e = .returned (.int .i64 r) ∧ decide (0 ≤ r) = anyB l) ∧ Below w.heap.size w w'
theorem any_take_succ (l : List (Int × Int)) (k : Nat) (h : k < l.length) : anyB (l.take (k + 1)) = (anyB (l.take k) || decide (0 < l[k].2)) := by
  unfold anyB
  rw [List.take_succ_eq_append_getElem h, List.any_append]
  simp
theorem any_of_take {l : List (Int × Int)} {k : Nat} (h : k < l.length) (h1 : 0 < l[k].2) : anyB l = true := by
  unfold anyB
  rw [List.any_eq_true]
  exact ⟨l[k], List.getElem_mem h, by simpa using h1⟩
theorem Index_any (v : Value) (l : List (Int × Int)) (w : World) (h : Lds w v l) (hm : l.length ≤ 9000000000) : Calls Try.prog 47 #[v, .func (.func 34) #[] #[]] w (IdxPost w l) := by
  obtain ⟨A, c, rfl, hc, hr⟩ := h
  have HR := Lib.hid hr
  clear hr
  go_enter Try.func47, Try.ntmps47
  go_wp2
  go_loopw [8] (fun i wr => ∃ k : Nat, k ≤ l.length ∧ i = .int .i64 k ∧ Hid (anyB (l.take k) = false) ∧ Hid (Below w.heap.size w wr)) (fun i _ => l.length - (RowKit.intOf i).toNat)
  case atStart => exact ⟨0, Nat.zero_le _, rfl, rfl, Below.refl _ _⟩
  case round =>
    obtain ⟨k, hk, rfl, HA, HB⟩ := hrel
    by_cases hlt : k < l.length
    · obtain ⟨g, o, rfl, hg, hcell⟩ := HR.out (by omega)
      have c1 : wr.cell? ⟨g, o + k * 2, none⟩ = some (.int .i64 l[k].1) := (HB.out.cell (by exact hg)).trans (hcell k hlt).1
      have c2 : wr.cell? ⟨g, o + k * 2 + 1, none⟩ = some (.int .i64 l[k].2) := (HB.out.cell (by exact hg)).trans (hcell k hlt).2
      have HS := Lib.hid (any_take_succ l k hlt)
      have HT := Lib.hid (fun h1 => any_of_take (l := l) (k := k) hlt h1)
      generalize l[k].1 = q at *
      generalize l[k].2 = n at *
      clear hcell
      by_cases hn : 0 < n
      · go_wp2_with ((go_at_call 34; with_reducible refine (waits_any _ _ _).mono ?_); rintro e w1 ⟨rfl, hb⟩)
        go_ret
        exact ⟨⟨k, rfl, by rw [HT.out hn]; simp⟩, HB.out.trans (hb.mono HB.out.size)⟩
      · go_wp2_with ((go_at_call 34; with_reducible refine (waits_any _ _ _).mono ?_); rintro e w1 ⟨rfl, hb⟩)
        go_roundw
        case rel => exact ⟨k + 1, by omega, by go_num, Lib.hid (by rw [HS.out, HA.out]; simpa using hn), HB.out.trans (hb.mono HB.out.size)⟩
        case measure => simp [RowKit.intOf]; omega
    · go_wp2
      go_ret
      have hkl : k = l.length := by omega
      subst hkl
      have h1 := HA.out
      rw [List.take_length] at h1
      exact ⟨⟨-1, rfl, by rw [h1]; rfl⟩, HB.out⟩
theorem Contains_any (v : Value) (l : List (Int × Int)) (w : World) (h : Lds w v l) (hm : l.length ≤ 9000000000) : Calls Try.prog 33 #[v, .func (.func 34) #[] #[]] w fun e w' => e = .returned (.bool (anyB l)) ∧ Below w.heap.size w w' := by
  have HI := Lib.hid (Index_any v l w h hm)
  clear h
  go_enter Try.func33, Try.ntmps33
  go_wp2_with ((go_at_call 47; with_reducible refine HI.out.mono ?_); rintro e w1 ⟨⟨r, rfl, hr⟩, hb⟩; have HB := Lib.hid hb; have HR := Lib.hid hr; clear hb hr)
  go_ret
  exact ⟨by rw [HR.out]; rfl, HB.out⟩
end Go.Proofs.Ytildofclgofjdaa
