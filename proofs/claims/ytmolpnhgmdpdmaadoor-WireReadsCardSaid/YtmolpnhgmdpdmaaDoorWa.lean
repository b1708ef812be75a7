/- The Writer's methods where there is room, on all their ways; the reference's PutAll. Conditions stand in each theorem. -/
import Derived.Test.YtmolpnhgmdpdmaaDoorBm
import Derived.Test.YtmolpnhgmdpdmaaDoorWn
import Derived.Deep.RegionWith
namespace Go.Proofs.YtmolpnhgmdpdmaaDoor
open Go.RowKit
set_option linter.unusedVariables false
set_option maxHeartbeats 1000000

/-- The error of the first field that cannot be written; the bytes that are written. -/
def allE : List (Int × Int) → Int
  | [] => 0
  | f :: t => if putE f.1 f.2 ≠ 0 then putE f.1 f.2 else allE t
def allL (fs : List (Int × Int)) : List UInt8 := if allE fs = 0 then flat fs else []
theorem chk_allE : ∀ (fs : List (Int × Int)) (r : Int), 8 * fs.length ≤ r → chk r fs = allE fs
  | [], _, _ => rfl
  | f :: t, r, h => by
    rw [chk_cons]
    unfold allE
    by_cases he : putE f.1 f.2 = 0
    · have := putE_zero he
      simp only [List.length_cons] at h
      rw [if_neg (by simp [he]), if_neg (by omega), if_neg (by simp [he]), chk_allE t _ (by omega)]
    · rw [if_pos he, if_pos he]
theorem allE_take {fs : List (Int × Int)} {k : Nat} (h : k < fs.length) (hz : ∀ f ∈ fs.take k, putE f.1 f.2 = 0) (he : putE fs[k].1 fs[k].2 ≠ 0) : allE fs = putE fs[k].1 fs[k].2 := by
  induction fs generalizing k with
  | nil => simp at h
  | cons f t ih =>
    unfold allE
    cases k with
    | zero => exact if_pos (show putE f.1 f.2 ≠ 0 from he)
    | succ k =>
      have h0 := hz f (by simp)
      rw [if_neg (by simp [h0])]
      simp only [List.getElem_cons_succ] at he ⊢
      exact ih (by simpa using h) (fun g hg => hz g (by simp; exact .inr hg)) he
theorem allE_zero {fs : List (Int × Int)} (hz : ∀ f ∈ fs, putE f.1 f.2 = 0) : allE fs = 0 := by
  induction fs with
  | nil => rfl
  | cons f t ih =>
    unfold allE
    rw [if_neg (by simp [hz f List.mem_cons_self])]
    exact ih (fun g hg => hz g (List.mem_cons_of_mem _ hg))
theorem WPost.of_below {w w' : World} {g : Nat} {v : Value} {l : List UInt8} (h : Wr w g v l) (hb : Below w.heap.size w w') (k : Int) : WPost w g v l k (.returned (.int .i64 k)) w' := ⟨rfl, v, h.below hb, Chg.of_below hb, .inl rfl⟩
theorem WPost.behind {w w1 w' : World} {g : Nat} {v : Value} {l : List UInt8} {k : Int} {e : Ending} (hb : Below w.heap.size w w1) (h : WPost w1 g v l k e w') : WPost w g v l k e w' := by
  obtain ⟨he, v', hw, hc, ha⟩ := h
  refine ⟨he, v', hw, (Chg.of_below hb : Chg _ w w1).trans hc (fun i hi _ => hi), ?_⟩
  rcases ha with e | ⟨b, e, hb'⟩
  · exact .inl e
  · exact .inr ⟨b, e, Nat.le_trans hb.size hb'⟩
theorem Add_any (g : Nat) (v : Value) (V n : Int) (l : List UInt8) (w : World) (h : Wr w g v l) (hV : 0 ≤ V) (hl : l.length + 8 ≤ 1048576) :
    Calls Tryd.prog 40 #[.pointer (some ⟨g, 0, none⟩), .int .u64 V, .int .i64 n] w (WPost w g v (l ++ putL V n) (putE V n)) := by
  have hk : chk (1048576 - l.length) [(V, n)] = putE V n := by
    rw [chk_allE _ _ (by simp; omega)]
    unfold allE allE
    by_cases he : putE V n = 0 <;> simp [he]
  by_cases he : putE V n = 0
  · obtain ⟨h1, h8, hv⟩ := putE_zero he
    rw [he, (put_ok h1 h8 hv).1]
    exact Add_ok g v V n l w h hV (hk.trans he)
  · have hL : putL V n = [] := by
      rcases putE_cases he with ⟨h1, -⟩ | ⟨h1, h2, h3, -⟩
      · exact (put_size h1).1
      · exact (put_range h1 h2 h3).1
    rw [hL, List.append_nil]
    refine (Add_err g v V n l w h (by rw [hk]; exact he)).mono ?_
    rintro e w' ⟨rfl, hb⟩
    rw [hk]
    exact WPost.of_below h hb _
theorem AddAll_any (g : Nat) (v xv : Value) (l : List UInt8) (fs : List (Int × Int)) (w w0 : World) (h : Wr w g v l) (hx : Fl w xv fs) (hx0 : Fl w0 xv fs) (hg : w0.heap.size ≤ g) (hv : ∀ b, v.ownBlock = some b → w0.heap.size ≤ b) (hfs : ∀ f ∈ fs, 0 ≤ f.1) (hlen : fs.length ≤ 20) (hl : l.length + 160 ≤ 1048576) :
    Calls Tryd.prog 34 #[.pointer (some ⟨g, 0, none⟩), xv] w (WPost w g v (l ++ allL fs) (allE fs)) := by
  have hk : chk (1048576 - l.length) fs = allE fs := chk_allE _ _ (by omega)
  unfold allL
  by_cases he : allE fs = 0
  · rw [if_pos he, he]
    exact AddAll_fits g v xv l fs w w0 h hx hx0 hg hv hfs (by omega) (hk.trans he)
  · rw [if_neg he, List.append_nil]
    refine (AddAll_err g v xv l fs w h hx (by omega) (by rw [hk]; exact he)).mono ?_
    rintro e w' ⟨rfl, hb⟩
    rw [hk]
    exact WPost.of_below h hb _
theorem padE_cases (s : List UInt8) (n : Int) : padE s n = 0 ∨ (padE s n ≠ 0 ∧ padL s n = []) := by
  unfold padE padL
  by_cases h : n < 0 ∨ plainL s = false
  · simp [h]
  · rw [if_neg h, if_neg h]
    by_cases h2 : n < s.length ∨ 1048576 < n
    · simp [h2]
    · simp [h2]
set_option maxRecDepth 100000 in
theorem AddText_any (g : Nat) (v : Value) (l : List UInt8) (s : ByteArray) (n : Int) (w : World) (h : Wr w g v l) (hs : s.size ≤ 9223372036854775807) (hl : l.length + (padL s.data.toList n).length ≤ 1048576) :
    Calls Tryd.prog 39 #[.pointer (some ⟨g, 0, none⟩), .string s, .int .i64 n] w (WPost w g v (l ++ padL s.data.toList n) (padE s.data.toList n)) := by
  have hp := Pad_any s n w hs
  obtain ⟨L, hL⟩ : ∃ L, L = padL s.data.toList n := ⟨_, rfl⟩
  obtain ⟨E, hE⟩ : ∃ E, E = padE s.data.toList n := ⟨_, rfl⟩
  have hc := padE_cases s.data.toList n
  rw [← hL, ← hE] at hp hc ⊢
  rw [← hL] at hl
  have Hp := Lib.hid hp; have HW := Lib.hid h; have Hl := Lib.hid hl
  clear hp h hl hL hE
  rcases hc with hc | ⟨hc, hc2⟩
  · subst hc
    go_enter Tryd.func39, Tryd.ntmps39
    go_wp2_with fail
    refine Hp.out.mono ?_
    rintro e w1 ⟨v1, rfl, hB, hb⟩
    have HB := Lib.hid hB; have Hb := Lib.hid hb; clear hB hb
    go_wp2_with fail
    refine (AddBytes_ok g v v1 l L _ (HW.out.below Hb.out) HB.out Hl.out).mono ?_
    intro e w2 hpost
    have HQ := Lib.hid (WPost.behind Hb.out hpost)
    obtain ⟨rfl, -⟩ := hpost
    clear HB Hb
    go_wp2
    go_ret
    exact HQ.out
  · subst hc2
    go_enter Tryd.func39, Tryd.ntmps39
    go_wp2_with fail
    refine Hp.out.mono ?_
    rintro e w1 ⟨v1, rfl, hB, hb⟩
    have Hb := Lib.hid hb; clear hB hb
    go_wp2
    go_ret
    rw [List.append_nil]
    exact WPost.of_below HW.out Hb.out _
theorem own_below {w w' : World} {base n : Nat} {e : TypeId} {v : Value} {xs : List Value} (h : w.ownsRow base e 1 v n xs) (hb : Below w.heap.size w w') : w'.ownsRow base e 1 v n xs :=
  h.kept (row := none) ⟨hb.os, hb.tape, hb.output, hb.size, fun k hk _ => hb.block k hk⟩ (by cases v.ownBlock <;> simp)
theorem below_undrew {w w' : World} (h : Below w.drew.heap.size w.drew w') : Below w.heap.size w w' := ⟨h.os, h.tape, h.output, h.size, h.block⟩
theorem flat_len : ∀ (fs : List (Int × Int)), (∀ f ∈ fs, putE f.1 f.2 = 0) → (flat fs).length ≤ 8 * fs.length
  | [], _ => by simp [flat]
  | f :: t, h => by
    have := putE_zero (h f List.mem_cons_self)
    have := flat_len t (fun g hg => h g (List.mem_cons_of_mem _ hg))
    rw [flat_cons, List.length_append, putB_length, List.length_cons]
    omega
theorem putAll_step {w wr w1 w2 : World} {v v2 : Value} {fs : List (Int × Int)} {k : Nat} (hlt : k < fs.length) (he : putE fs[k].1 fs[k].2 = 0) (hO : wr.ownsRow w.heap.size 5 1 v (flat (fs.take k)).length (bv (flat (fs.take k)))) (hZ : ∀ f ∈ fs.take k, putE f.1 f.2 = 0) (hB : Below w.heap.size w wr) (hb : Below wr.heap.size wr w1)
    (h2 : w2.ownsRow w.heap.size 5 1 v2 ((flat (fs.take k)).length + (putL fs[k].1 fs[k].2).length) (bv (flat (fs.take k) ++ putL fs[k].1 fs[k].2))) (h3 : w1.grownBy w2 v.ownBlock) :
    w2.ownsRow w.heap.size 5 1 v2 (flat (fs.take (k + 1))).length (bv (flat (fs.take (k + 1)))) ∧ (∀ f ∈ fs.take (k + 1), putE f.1 f.2 = 0) ∧ Below w.heap.size w w2 := by
  obtain ⟨g1, g2, g3⟩ := putE_zero he
  rw [(put_ok g1 g2 g3).1] at h2
  refine ⟨?_, ?_, ?_⟩
  · rw [flat_take hlt, List.length_append]; exact h2
  · intro f hf
    rw [List.take_succ_eq_append_getElem hlt] at hf
    rcases List.mem_append.1 hf with hf | hf
    · exact hZ f hf
    · rw [List.mem_singleton.1 hf]; exact he
  · have b1 : Below w.heap.size w w1 := hB.trans (hb.mono hB.size)
    exact b1.grown h3 b1.size (own_row_ge hO)
set_option maxRecDepth 100000 in
theorem refPutAll_any (xv : Value) (fs : List (Int × Int)) (w : World) (hx : Fl w xv fs) (hfs : ∀ f ∈ fs, 0 ≤ f.1 ∧ f.1 ≤ 18446744073709551615) (hlen : fs.length ≤ 1048576) :
    Calls Tryd.prog 55 #[xv] w (BytNew w (allL fs) (allE fs)) := by
  have Hfs := Lib.hid hfs; clear hfs
  obtain ⟨A, c, rfl, hc, hr⟩ := hx
  have Hr := Lib.hid hr; clear hr
  go_enter Tryd.func55, Tryd.ntmps55
  go_wp2
  go_loopw [4, 5] (fun v i wr => ∃ k : Nat, k ≤ fs.length ∧ i = .int .i64 k ∧ Hid (wr.ownsRow w.heap.size 5 1 v (flat (fs.take k)).length (bv (flat (fs.take k)))) ∧ Hid (∀ f ∈ fs.take k, putE f.1 f.2 = 0) ∧ Hid (Below w.heap.size w wr)) (fun _ i _ => fs.length - (intOf i).toNat)
  case atStart => exact ⟨0, Nat.zero_le _, rfl, World.ownsRow_nil _ _ _ _, Lib.hid (by simp), Below.refl _ _⟩
  case round =>
    obtain ⟨k, hk, rfl, HO, HZ, HB⟩ := hrel
    by_cases hlt : k < fs.length
    · obtain ⟨b, o, rfl, hb, hcell⟩ := Hr.out (by omega)
      have hck : wr.cell? ⟨b, o + k * 2, none⟩ = some (.int .u64 fs[k].1) := (HB.out.cell (by exact hb)).trans (hcell k hlt).1
      have hck1 : wr.cell? ⟨b, o + k * 2 + 1, none⟩ = some (.int .i64 fs[k].2) := (HB.out.cell (by exact hb)).trans (hcell k hlt).2
      have i0 : (0 : Int) ≤ k := by omega
      have i1 : (k : Int) < fs.length := by omega
      obtain ⟨X, hX⟩ : ∃ X, X = fs[k].1 := ⟨_, rfl⟩
      obtain ⟨Y, hY⟩ : ∃ Y, Y = fs[k].2 := ⟨_, rfl⟩
      have hXb := Hfs.out fs[k] (List.getElem_mem hlt)
      rw [← hX] at hck hXb
      rw [← hY] at hck1
      obtain ⟨L, hL⟩ : ∃ L, L = putL X Y := ⟨_, rfl⟩
      obtain ⟨E, hE⟩ : ∃ E, E = putE X Y := ⟨_, rfl⟩
      have hput := fun W => refPut_new X Y W hXb.1 hXb.2
      rw [← hL, ← hE] at hput
      rw [hX, hY] at hL hE
      have Hput := Lib.hid hput; have HL := Lib.hid hL; have HE := Lib.hid hE
      have Hlen := Lib.hid (flat_len (fs.take k) HZ.out)
      clear hcell hX hY hb hXb Hfs hput hL hE
      go_wp2
      go_region_with (go_at_call 12; refine (Hput.out _).mono ?_; rintro e w1 ⟨bv1, rfl, hB1, -, hb1⟩; have HB1 := Lib.hid hB1; have Hb1 := Lib.hid (below_undrew hb1); clear hB1 hb1)
      all_goals
        by_cases he : E = 0
        · subst he
          have hsz : (flat (fs.take k)).length + L.length ≤ 1099511627776 := by
            have h1 := Hlen.out
            rw [List.length_take] at h1
            have h2 := putE_zero HE.out.symm
            rw [HL.out, (put_ok h2.1 h2.2.1 h2.2.2).1, putB_length]
            omega
          obtain ⟨v2, w2, hrun, h2, h3, -⟩ := run_append_own_src w1 w.heap.size _ _ bv1 _ L 23 (own_below HO.out Hb1.out) HB1.out hsz (Nat.le_trans HB.out.size Hb1.out.size)
          rw [HL.out] at h2
          have hst := putAll_step hlt HE.out.symm HO.out HZ.out HB.out Hb1.out h2 h3
          have Hrun := Lib.hid hrun; have H1 := Lib.hid hst.1; have H2 := Lib.hid hst.2.1; have H3 := Lib.hid hst.2.2
          clear hsz h2 h3 hst hrun HO HZ HB HB1 Hb1 Hlen HL HE Hput hck hck1
          go_wp2_with (at_builtin; refine wpList_append_run rfl (.tmp 31) (.tmp 32) 23 23 rfl _ _ _ w2 rfl rfl Hrun.out ?_)
          go_roundw
          case rel => exact ⟨k + 1, hlt, by go_num, H1, H2, H3⟩
          case measure => simp [intOf]; omega
        · clear Hput hck hck1 Hlen HB1
          go_wp2
          go_ret2
          have ha := allE_take hlt HZ.out (by rw [← HE.out]; exact he)
          refine ⟨.slice none 0 0, ?_, ?_, new_none _, HB.out.trans (Hb1.out.mono HB.out.size)⟩
          · rw [ha, ← HE.out]; rfl
          · unfold allL
            rw [if_neg (by rw [ha, ← HE.out]; exact he)]
            exact Byt.none _
    · have He := Lib.hid (show k = fs.length by omega)
      clear Hfs Hr
      go_wp2
      go_ret2
      have hz := HZ.out; have ho := HO.out
      rw [He.out, List.take_length] at hz ho
      have ha := allE_zero hz
      refine ⟨_, by rw [ha] <;> rfl, ?_, own_row_ge ho, HB.out⟩
      unfold allL
      rw [if_pos ha]
      exact Byt.of_own ho
end Go.Proofs.YtmolpnhgmdpdmaaDoor
