/- The contracts of the reference's class and waits. Conditions stand in each theorem. -/
import Derived.Test.YtildofclgofjdaaZD
namespace Go.Proofs.Ytildofclgofjdaa
open Go.RowKit Go.Shelf
set_option linter.unusedVariables false
set_option maxHeartbeats 4000000
set_option maxRecDepth 100000
theorem cls_at {s : St} (hs : Srt s.L) {k : Nat} (hk : k < s.L.length) : s.cls s.L[k].1 = if s.wt then s.L[k].2 else 0 := by
  unfold St.cls
  split
  · exact look_at_j hs k hk
  · rfl
theorem rclass_any (s : St) (v : Value) (k : Nat) (w : World) (hl : Lds w v s.L) (hs : Srt s.L) (hk : k < s.L.length) :
    Calls Try.prog 46 #[.agg (RC s v), .int .i64 k] w fun e w' => e = .returned (.int .i64 (s.cls s.L[k].1)) ∧ Below w.heap.size w w' := by
  rw [cls_at hs hk]
  obtain ⟨g, o, c, rfl, c1, c2⟩ := hl.at_ hk
  have hg := World.block_lt_of_cell? w _ c1
  have hng : g ≠ w.heap.size := by intro e; simp at hg; omega
  have hb := below_alloc w (.cells (RC s (.slice (some ⟨g, o, none⟩) s.L.length c)) 35)
  have c3 := (hb.cell (p := ⟨g, o + k * 2 + 1, none⟩) hg).trans c2
  have HB := Lib.hid hb
  generalize s.L[k].2 = y at *
  clear c1 c2 hb hl hs
  unfold RC at HB c3 ⊢
  cases hw : s.wt
  · rw [hw] at HB c3
    go_enter Try.func46, Try.ntmps46
    go_wp2
    go_ret
    exact ⟨rfl, HB.out⟩
  · rw [hw] at HB c3
    go_enter Try.func46, Try.ntmps46
    go_wp2
    go_ret
    exact ⟨rfl, HB.out⟩
/-- A class has waiting commands. -/
def waB (s : St) (ns : List Int) (c : Int) : Bool := (List.range s.L.length).any fun j => decide (0 < ns.getD j 0) && decide (s.cls (s.L.getD j (0, 0)).1 = c)
theorem waB_yes {s : St} {ns : List Int} {c : Int} {k : Nat} (hk : k < s.L.length) (h1 : 0 < ns.getD k 0) (h2 : s.cls s.L[k].1 = c) : waB s ns c = true := by
  unfold waB
  rw [List.any_eq_true]
  refine ⟨k, List.mem_range.2 hk, ?_⟩
  have e : s.L.getD k (0, 0) = s.L[k] := by simp [List.getD, hk]
  rw [e, decide_eq_true h1, decide_eq_true h2]
  rfl
theorem waB_no {s : St} {ns : List Int} {c : Int} (h : ∀ k (hk : k < s.L.length), 0 < ns.getD k 0 → s.cls s.L[k].1 ≠ c) : waB s ns c = false := by
  unfold waB
  rw [List.any_eq_false]
  intro k hk
  have hk := List.mem_range.1 hk
  have e : s.L.getD k (0, 0) = s.L[k] := by simp [List.getD, hk]
  rw [e]
  have := h k hk
  simp only [Bool.and_eq_true, decide_eq_true_eq, not_and]
  exact this
attribute [local go_sem ↓ 100000] loadX_eq
theorem waits_ref (s : St) (v vn : Value) (ns : List Int) (c : Int) (w : World) (hl : Lds w v s.L) (hs : Srt s.L) (hn : Ints w vn ns) (he : ns.length = s.L.length) :
    Calls Try.prog 45 #[.agg (RC s v), vn, .int .i64 c] w fun e w' => e = .returned (.bool (waB s ns c)) ∧ Below w.heap.size w w' := by
  have HL := Lib.hid hl
  have HS := Lib.hid hs
  have hlen := hs.len
  obtain ⟨A, ca, rfl, _, _⟩ := hl
  obtain ⟨An, cn, rfl, _, hrn⟩ := hn
  have HN := Lib.hid hrn
  have hb := below_alloc w (.cells (RC s (.slice A s.L.length ca)) 35)
  have HB := Lib.hid hb
  have HR := Lib.hid (heap_alloc_new w (.cells (RC s (.slice A s.L.length ca)) 35))
  have HZ := Lib.hid (World.size_alloc w (.cells (RC s (.slice A s.L.length ca)) 35))
  have HCL := Lib.hid (fun (k : Nat) (hk : k < s.L.length) (W : World) (hW : Below w.heap.size w W) => rclass_any s (.slice A s.L.length ca) k W (HL.out.below hW) HS.out hk)
  have c5 : (w.alloc (.cells (RC s (.slice A s.L.length ca)) 35)).cell? ⟨w.heap.size, 5, none⟩ = some (.slice A s.L.length ca) := (cell_of_row _ w.heap.size 5 _ 35 (0, 0) HR.out).trans rfl
  have HEQ := Lib.hid he
  clear hs hrn hb he
  go_enter Try.func45, Try.ntmps45
  obtain ⟨E, hE⟩ : ∃ E, E = w.alloc (.cells (RC s (.slice A s.L.length ca)) 35) := ⟨_, rfl⟩
  rw [← hE] at HB HR c5 HZ
  unfold RC at hE ⊢
  have hlen2 : (s.L.length : Int) ≤ 65536 := by omega
  go_upto_region 2 with fail
  rw [← hE]
  clear hE
  go_loopw [7] (fun i wr => ∃ (k : Nat), k ≤ s.L.length ∧ i = .int .i64 k ∧ Hid (Below E.heap.size E wr) ∧ Hid (∀ j (hj : j < s.L.length), j < k → 0 < ns.getD j 0 → s.cls s.L[j].1 ≠ c)) (fun i _ => s.L.length - (RowKit.intOf i).toNat)
  case atStart => exact ⟨0, Nat.zero_le _, rfl, Below.refl _ _, fun j hj h => absurd h (by omega)⟩
  case round =>
    obtain ⟨k, hk, rfl, HW, HNO⟩ := hrel
    have hrow := (HW.out.block w.heap.size (by rw [HZ.out]; omega)).trans HR.out
    have c6 : wr.cell? ⟨w.heap.size, 5, none⟩ = some (.slice A s.L.length ca) := (cell_of_row wr w.heap.size 5 _ 35 (0, 0) hrow).trans rfl
    have hld : (loadX ⟨w.heap.size, 0, none⟩).run Try.prog wr = .ok (.agg (RC s (.slice A s.L.length ca))) wr := run_loadVar_row wr w.heap.size 35 35 _ (0, 0) _ hrow Try.underlying35 rfl info35
    have HBW := Lib.hid (HB.out.trans (HW.out.mono (by rw [HZ.out]; omega)))
    by_cases hlt : k < s.L.length
    · have hkn : k < ns.length := by have := HEQ.out; omega
      obtain ⟨g, o, rfl, hg, hcell⟩ := HN.out (by omega)
      have c1 := (HBW.out.cell (p := ⟨g, o + k, none⟩) hg).trans (hcell k hkn)
      have hgd : ns.getD k 0 = ns[k] := getD_eq ns k hkn
      have HGD := Lib.hid hgd
      have HC := Lib.hid (HCL.out k hlt wr HBW.out)
      have HYES := Lib.hid (fun h1 h2 => waB_yes (s := s) (ns := ns) (c := c) hlt h1 h2)
      have HNX : Hid (¬ (0 < ns.getD k 0 ∧ s.cls s.L[k].1 = c) → ∀ j (hj : j < s.L.length), j < k + 1 → 0 < ns.getD j 0 → s.cls s.L[j].1 ≠ c) := Lib.hid (fun hne j hj hjk h1 h2 => by
        rcases Nat.lt_or_ge j k with h | h
        · exact HNO.out j hj h h1 h2
        · have : j = k := by omega
          subst this
          exact hne ⟨h1, h2⟩)
      rw [hgd] at HNX HYES
      generalize ns[k] = x at *
      generalize s.cls s.L[k].1 = y at *
      clear hgd hcell hrow hg
      by_cases hx : 0 < x
      · by_cases hy : y = c
        · go_wp2_with ((go_at_call 46; with_reducible refine HC.out.mono ?_); rintro e w3 ⟨rfl, hb3⟩; have HB3 := Lib.hid (HBW.out.trans (hb3.mono HBW.out.size)); clear hb3)
          go_ret
          exact ⟨by rw [HYES.out hx hy]; rfl, HB3.out⟩
        · go_wp2_with ((go_at_call 46; with_reducible refine HC.out.mono ?_); rintro e w3 ⟨rfl, hb3⟩; have HB3 := Lib.hid (HW.out.trans (hb3.mono HW.out.size)); clear hb3)
          go_roundw
          case rel => exact ⟨k + 1, by omega, by go_num, HB3, Lib.hid (HNX.out (fun h => hy h.2))⟩
          case measure => simp [RowKit.intOf]; omega
      · go_wp2
        go_roundw
        case rel => exact ⟨k + 1, by omega, by go_num, HW, Lib.hid (HNX.out (fun h => hx h.1))⟩
        case measure => simp [RowKit.intOf]; omega
    · clear hrow
      go_wp2
      go_ret
      exact ⟨by rw [waB_no (fun j hj => HNO.out j hj (by omega))]; rfl, HBW.out⟩
end Go.Proofs.Ytildofclgofjdaa
