/- The iterator over the logged writes. Conditions stand in each theorem. -/
import Derived.Test.YtmnlkejhhdbhlaaV
import Derived.Test.YtmnlkejhhdbhlaaH
import Derived.Lib.MinMax
namespace Go.Proofs.Ytmnlkejhhdbhlaa
open Go.RowKit Go.Shelf
attribute [local go_sem] Oper.semAt_some
set_option linter.unusedVariables false
set_option maxHeartbeats 2000000
set_option maxRecDepth 100000
/-- A copy of a log, in a box of its own. -/
def Lbx (W : World) (q : Nat) (L : List (Nat × Nat)) : Prop := ∃ c : Array Value, W.heap[q]? = some (.cells c 60 (0, 0)) ∧ c.size = 769 ∧ Lg c L
section
variable {S : Nat → Prop} {W W' : World} {q : Nat} {L : List (Nat × Nat)}
theorem Lbx.kc (h : Lbx W q L) (hk : Kc S W W') (hS : ¬ S q) : Lbx W' q L := by
  obtain ⟨c, h1, r⟩ := h
  exact ⟨c, hk.2 q _ h1 rfl hS, r⟩
theorem Lbx.below (h : Lbx W q L) (hb : Below W.heap.size W W') : Lbx W' q L := h.kc (S := fun _ => False) (Kc.of_below hb) (fun h => h)
theorem Lbx.lt (h : Lbx W q L) : q < W.heap.size := by
  obtain ⟨c, h1, _⟩ := h
  exact (Array.getElem?_eq_some_iff.1 h1).1
theorem Lbx.next (h : Lbx W q L) : W.cell? ⟨q, 768, none⟩ = some (.int .i64 (L.length : Int)) := by
  obtain ⟨c, h1, h2, h3⟩ := h
  rw [cell_of_row W q 768 c 60 (0, 0) h1, h3.next]
theorem Lbx.at (h : Lbx W q L) {i : Nat} (hi : i < L.length) (hw : L.length ≤ i + 256) : W.cell? ⟨q, i % 256 * 3, none⟩ = some (.int .u64 (L[i].1 : Int)) ∧ W.cell? ⟨q, i % 256 * 3 + 1, none⟩ = some (.int .i64 (L[i].2 : Int)) ∧ W.cell? ⟨q, i % 256 * 3 + 2, none⟩ = some (.bool false) := by
  obtain ⟨c, h1, h2, h3⟩ := h
  rw [cell_of_row W q _ c 60 (0, 0) h1, cell_of_row W q _ c 60 (0, 0) h1, cell_of_row W q _ c 60 (0, 0) h1]
  exact h3.ring i hi hw
theorem own_lbx {β : Type} (B : Nat) : OwnFrom B (fun (_ : β) W => Lbx W q L) := fun k X Y row hs hg hr => by
  obtain ⟨c, h1, r⟩ := hs
  refine ⟨c, (hg.block q (Array.getElem?_eq_some_iff.1 h1).1 (fun e => ?_)).trans h1, r⟩
  obtain ⟨o, ho, hc⟩ := (hr q e.symm).2
  rw [h1] at ho; cases ho; cases hc
end
/-- The number of the first write that is still logged. -/
def fr (L : List (Nat × Nat)) : Nat := L.length - 256
/-- The logged writes with their numbers. -/
def lgs (L : List (Nat × Nat)) : List ((Nat × Nat) × Nat) := (L.drop (fr L)).zipIdx (fr L)
theorem lgs_length (L : List (Nat × Nat)) : (lgs L).length = L.length - fr L := by simp [lgs]
theorem lgs_at {L : List (Nat × Nat)} {k : Nat} (h : k < (lgs L).length) : (lgs L)[k] = (L[fr L + k]'(by rw [lgs_length] at h; omega), fr L + k) := by
  simp [lgs]
abbrev le (x : (Nat × Nat) × Nat) : Array Value := #[.int .i64 (x.2 : Int), .agg #[.int .u64 (x.1.1 : Int), .int .i64 (x.1.2 : Int), .bool false]]
theorem writes1_in (S : Nat → Prop) (B' l0 q F : Nat) (L : List (Nat × Nat)) (hF : F = fr L) (hl : L.length ≤ 1000000) (hqS : ¬ S q) (J Jx : Nat → World → Prop) (W0 : World) (hJ : OwnFrom W0.heap.size J)
    (hY : ∀ k (hk : F + k < L.length) W1, J k W1 → Ynd Try.prog l0 #[.int .i64 ((F + k : Nat) : Int), .agg #[.int .u64 (L[F + k].1 : Int), .int .i64 (L[F + k].2 : Int), .bool false]] W1 fun e W' => (e = .returned (.bool true) ∧ J (k + 1) W' ∧ Kd S B' W1 W') ∨ (e = .returned (.bool false) ∧ Jx (k + 1) W' ∧ KeepsFrom B' W1 W'))
    (hr : Lbx W0 q L) (h0 : J 0 W0) :
    CallsIn Fence.wide 9 Try.prog 46 #[.func (.yield l0) #[] #[], .pointer (some ⟨q, 0, none⟩)] W0 fun e W' => (∃ v, e = .returned v) ∧ (J (lgs L).length W' ∨ ∃ k, k ≤ (lgs L).length ∧ Jx k W') := by
  have H0 := Lib.hid h0
  have HR := Lib.hid hr
  have HY := Lib.hid hY
  have HJ := Lib.hid hJ
  have cn := hr.next
  have hl2 : (L.length : Int) ≤ 1000000 := by omega
  have hF2 : F = L.length - 256 := hF
  have hmx : max (0 : Int) ((L.length : Int) - 256) = (F : Int) := by omega
  have HL : Hid ((lgs L).length = L.length - F) := Lib.hid (by rw [lgs_length, hF])
  have HF2 := Lib.hid hF2
  clear h0 hr hY hJ hF hF2
  refine callsIn_of_wp Try.func46 rfl trivial ?_ rfl
  simp only [Try.ntmps46, List.size_toArray, List.length_cons, List.length_nil, Nat.reduceAdd, Nat.reduceSub, Array.replicate_succ, Array.replicate_zero, List.push_toArray, List.append_toArray, List.nil_append, List.cons_append]
  gi_wp2
  refine wpIn_wide.2 (wp_scope_straight ((wpIn_wide (n := 9)).1 (wpIn_seq (wpIn_label ?_))))
  dsimp only [Exit.then]
  gi_wp2
  clear cn
  gi_loopw [3] (fun i wr => ∃ k : Nat, k ≤ L.length - F ∧ i = .int .i64 ((F + k : Nat) : Int) ∧ Hid (J k wr) ∧ Hid (Lbx wr q L)) (fun i _ => L.length - (RowKit.intOf i).toNat)
  case atStart => exact ⟨0, Nat.zero_le _, by rw [Nat.add_zero], H0, HR⟩
  case round =>
    obtain ⟨k, hk, rfl, HJk, HRk⟩ := hrel
    have cn := HRk.out.next
    by_cases hlt : k < L.length - F
    · have hN4 : F + k < L.length := by have := HF2.out; omega
      obtain ⟨c0, c1, c2⟩ := HRk.out.at (i := F + k) hN4 (by have := HF2.out; omega)
      have hJ2 := HJk.out
      obtain ⟨fn, tmps, assign, body, hy, hR⟩ := HY.out k hN4 _ hJ2
      have HRR := Lib.hid hR
      obtain ⟨r, hr⟩ : ∃ r, r = (F + k) % 256 := ⟨_, rfl⟩
      have hmod : (((F + k : Nat)) : Int).tmod 256 = (r : Int) := by rw [hr, Int.tmod_eq_emod_of_nonneg (by omega)]; omega
      have hr2 : (r : Int) < 256 := by omega
      rw [← hr] at c0 c1 c2
      have hNl : ((F + k : Nat) : Int) < (L.length : Int) := by omega
      have hN2 : ((F + k : Nat) : Int) + 1 ≤ 1000000 := by omega
      have hN0 : (0 : Int) ≤ ((F + k : Nat) : Int) := by omega
      have hN3 : ((F + k : Nat) : Int) + 1 = ((F + (k + 1) : Nat) : Int) := by omega
      have HN3 := Lib.hid hN3
      clear hR hJ2 hr hN3
      generalize L[F + k].1 = pa at *
      generalize L[F + k].2 = pn at *
      have HLT := Lib.hid hlt
      clear hlt hk hN4
      generalize ((F + k : Nat) : Int) = N at *
      gi_wp2
      refine (RoundIn.deep 8 HRR.out).mono ?_
      rintro e W3 (⟨rfl, hJ3, hk3⟩ | ⟨rfl, hJx3, hkx⟩)
      · have HJ3 := Lib.hid hJ3
        have HR3 := Lib.hid (HRk.out.kc hk3.1 hqS)
        clear hJ3 hk3
        gi_wp2
        go_roundw
        case rel => exact ⟨k + 1, by have := HLT.out; omega, by rw [← HN3.out], HJ3, HR3⟩
        case measure => simp [RowKit.intOf]; omega
      · have HJ3 := Lib.hid hJx3
        clear hJx3
        gi_wp2
        dsimp only [Exit.noGoto]
        go_end0
        exact ⟨⟨_, rfl⟩, .inr ⟨k + 1, by have := HLT.out; rw [HL.out]; omega, HJ3.out⟩⟩
    · have hkl : k = L.length - F := by omega
      have hd : decide (((F + k : Nat) : Int) < (L.length : Int)) = false := by have := HF2.out; simp; omega
      have HJ2 : Hid (J (lgs L).length wr) := Lib.hid (by rw [HL.out, ← hkl]; exact HJk.out)
      clear hkl
      gi_wp2
      dsimp only [Exit.noGoto]
      go_end0
      exact ⟨⟨_, rfl⟩, .inl HJ2.out⟩
theorem writes1_yields (S : Nat → Prop) (B' q : Nat) (L : List (Nat × Nat)) (w : World) (hl : L.length ≤ 1000000) (hqS : ¬ S q) (hr : Lbx w q L) : Yields Try.prog 46 #[.pointer (some ⟨q, 0, none⟩)] le S B' (lgs L) w := fun l0 J Jx W hW hB' hJ hJx hY h0 =>
  writes1_in S B' l0 q (fr L) L rfl hl hqS J Jx W hJ (fun k hk W1 h1 => by
    have hk2 : k < (lgs L).length := by rw [lgs_length]; omega
    have := hY k hk2 W1 h1
    rw [lgs_at hk2] at this
    exact this) (hr.below hW) h0
theorem writes_any (c : Array Value) (W : World) : Calls Try.prog 36 #[.agg c] W fun e W' => e = .returned (.func (.func 46) #[] #[.pointer (some ⟨W.heap.size, 0, none⟩)]) ∧ W' = W.alloc (.cells c 60) := by
  refine (callsIn_wide (n := 9)).1 ?_
  refine callsIn_of_wp_marks Try.func36 rfl trivial ?_ rfl
  simp only [Try.ntmps36, List.size_toArray, List.length_cons, List.length_nil, Nat.reduceAdd, Nat.reduceSub, Array.replicate_succ, Array.replicate_zero, List.push_toArray, List.append_toArray, List.nil_append, List.cons_append]
  gi_wp2
  exact ⟨_, results_tmp rfl _ _ _, rfl, rfl⟩
/-- What Writes leaves. -/
def WrPost (w : World) (L : List (Nat × Nat)) (e : Ending) (w' : World) : Prop := ∃ q, e = .returned (.func (.func 46) #[] #[.pointer (some ⟨q, 0, none⟩)]) ∧ w.heap.size ≤ q ∧ Lbx w' q L ∧ Below w.heap.size w w'
attribute [local go_sem ↓ 100000] loadL_eq storeL_eq
theorem lg_of {c : Array Value} {L : List (Nat × Nat)} (hs : c.size = 770) (h : Lg c L) : Lg (lgOf c) L :=
  ⟨by rw [lgOf_get (by decide)]; exact h.next, fun u hu => h.one u (lgOf_mem hu), fun i hi hw => by
    have hr : i % 256 < 256 := Nat.mod_lt _ (by decide)
    rw [lgOf_get (by omega), lgOf_get (by omega), lgOf_get (by omega)]
    exact h.ring i hi hw⟩
theorem Writes_any {w : World} {base b d cap : Nat} {m : Mm} (h : Mem w base b d cap m) (h0 : 0 < m.B.length) : Calls Try.prog 17 #[.pointer (some ⟨b, 0, none⟩)] w (WrPost w m.L) := by
  have HM := Lib.hid (missing_not h h0)
  obtain ⟨c, hc, hs, hl, hd⟩ := h.blk
  have hld := loadL_run hc hs
  have HW := Lib.hid (writes_any (lgOf c) w)
  have HP : Hid (WrPost w m.L (.returned (.func (.func 46) #[] #[.pointer (some ⟨w.heap.size, 0, none⟩)])) (w.alloc (.cells (lgOf c) 60))) := Lib.hid ⟨_, rfl, Nat.le_refl _, ⟨_, heap_alloc_new w _, lgOf_size hs, lg_of hs hl⟩, below_alloc _ _⟩
  generalize lgOf c = C at *
  clear h hc hs hl hd h0
  go_enter Try.func17, Try.ntmps17
  go_wp2_with (first
    | ((go_at_call 35; with_reducible refine HM.out.mono ?_); rintro e w' ⟨rfl, rfl⟩)
    | ((go_at_call 36; with_reducible refine HW.out.mono ?_); rintro e w1 ⟨rfl, rfl⟩))
  go_ret
  exact HP.out
end Go.Proofs.Ytmnlkejhhdbhlaa
