/- The contracts of the Writer's methods where they fail, and of nil writers and readers. Conditions stand in each theorem. -/
import Derived.Test.YtmolpnhgmdpdmaaDoorTn
namespace Go.Proofs.YtmolpnhgmdpdmaaDoor
open Go.RowKit
set_option linter.unusedVariables false
set_option maxHeartbeats 400000

theorem chk_cons (r : Int) (f : Int × Int) (t : List (Int × Int)) : chk r (f :: t) = if putE f.1 f.2 ≠ 0 then putE f.1 f.2 else if r < f.2 then 5 else chk (r - f.2) t := rfl
theorem chk_bad {r : Int} {f : Int × Int} {t : List (Int × Int)} (h : chk r (f :: t) ≠ 0) :
    (putE f.1 f.2 ≠ 0 ∧ chk r (f :: t) = putE f.1 f.2) ∨ (putE f.1 f.2 = 0 ∧ r < f.2 ∧ chk r (f :: t) = 5) ∨ (putE f.1 f.2 = 0 ∧ f.2 ≤ r ∧ chk (r - f.2) t ≠ 0 ∧ chk r (f :: t) = chk (r - f.2) t) := by
  rw [chk_cons] at h ⊢
  by_cases h1 : putE f.1 f.2 = 0
  · rw [if_neg (by omega)] at h ⊢
    by_cases h2 : r < f.2
    · rw [if_pos h2]; exact .inr (.inl ⟨h1, h2, rfl⟩)
    · rw [if_neg h2] at h ⊢
      exact .inr (.inr ⟨h1, by omega, h, rfl⟩)
  · rw [if_pos h1]; exact .inl ⟨h1, rfl⟩
theorem putE_cases {v n : Int} (h : putE v n ≠ 0) : ((n < 1 ∨ 8 < n) ∧ putE v n = 2) ∨ (1 ≤ n ∧ n ≤ 8 ∧ onesZ (8 * n).toNat < v ∧ putE v n = 3) := by
  by_cases h1 : n < 1 ∨ 8 < n
  · exact .inl ⟨h1, (put_size h1).2⟩
  · by_cases h2 : onesZ (8 * n).toNat < v
    · exact .inr ⟨by omega, by omega, h2, (put_range (by omega) (by omega) h2).2⟩
    · exact absurd (put_ok (v := v) (n := n) (by omega) (by omega) (by omega)).2 h
set_option maxRecDepth 100000 in
theorem AddAll_err (g : Nat) (v xv : Value) (l : List UInt8) (fs : List (Int × Int)) (w : World) (h : Wr w g v l) (hx : Fl w xv fs) (hlen : fs.length ≤ 1048576) (hk : chk (1048576 - l.length) fs ≠ 0) :
    Calls Tryd.prog 34 #[.pointer (some ⟨g, 0, none⟩), xv] w fun e w' => e = .returned (.int .i64 (chk (1048576 - l.length) fs)) ∧ Below w.heap.size w w' := by
  obtain ⟨E, hE⟩ : ∃ E, E = chk (1048576 - l.length) fs := ⟨_, rfl⟩
  rw [← hE] at hk ⊢
  have Hk := Lib.hid hk; clear hk
  have HE := Lib.hid hE; clear hE
  have hle := h.le
  have HW := Lib.hid h; clear h
  obtain ⟨A, c, rfl, hc, hr⟩ := hx
  have Hr := Lib.hid hr; clear hr
  go_enter Tryd.func34, Tryd.ntmps34
  go_wp2_with fail
  refine (room_any g v l _ HW.out).mono ?_
  rintro e w' ⟨rfl, rfl⟩
  go_wp2
  go_loopw [5, 17] (fun rm i wr => ∃ (k : Nat) (r : Int), k ≤ fs.length ∧ r ≤ 1048576 ∧ 0 ≤ r ∧ i = .int .i64 k ∧ rm = .int .i64 r ∧ Hid (E = chk r (fs.drop k)) ∧ Hid (Below w.heap.size w wr)) (fun _ i _ => fs.length - (intOf i).toNat)
  case atStart => exact ⟨0, _, Nat.zero_le _, by omega, by omega, rfl, rfl, HE, Below.refl _ _⟩
  case round =>
    obtain ⟨k, r, hkl, hr1, hr0, rfl, rfl, HK, HB⟩ := hrel
    by_cases hlt : k < fs.length
    · obtain ⟨b, o, rfl, hb, hcell⟩ := Hr.out (by omega)
      have hck : wr.cell? ⟨b, o + k * 2, none⟩ = some (.int .u64 fs[k].1) := (HB.out.cell (by exact hb)).trans (hcell k hlt).1
      have hck1 : wr.cell? ⟨b, o + k * 2 + 1, none⟩ = some (.int .i64 fs[k].2) := (HB.out.cell (by exact hb)).trans (hcell k hlt).2
      clear hcell
      have hst := HK.out
      rw [drop_cons hlt] at hst
      rcases chk_bad (by rw [← hst]; exact Hk.out) with ⟨hp, he⟩ | ⟨hp, hrr, he⟩ | ⟨hp, hrr, hne, he⟩
      · rw [he] at hst
        rcases putE_cases hp with ⟨hs, h2⟩ | ⟨hs1, hs8, hs, h3⟩
        · rw [h2] at hst
          have Hst := Lib.hid hst
          have Hs := Lib.hid hs
          clear hst he hp h2 hs HK
          go_wp2_with fail
          refine (checkField_size _ _ _ Hs.out).mono ?_
          rintro e w' ⟨rfl, rfl⟩
          go_wp2
          go_ret
          exact ⟨by rw [Hst.out]; rfl, HB.out.alloc HB.out.size _⟩
        · rw [h3] at hst
          have Hst := Lib.hid hst
          have Hs := Lib.hid hs
          clear hst he hp h3 hs HK
          go_wp2_with fail
          refine (checkField_range _ _ _ hs1 hs8 Hs.out).mono ?_
          rintro e w' ⟨rfl, rfl⟩
          go_wp2
          go_ret
          exact ⟨by rw [Hst.out]; rfl, HB.out.alloc HB.out.size _⟩
      · rw [he] at hst
        obtain ⟨hn1, hn8, hv⟩ := putE_zero hp
        have Hst := Lib.hid hst
        have HV := Lib.hid hv
        clear hst he hp hv HK
        go_wp2_with fail
        refine (checkField_ok _ _ _ hn1 hn8 HV.out).mono ?_
        rintro e w' ⟨rfl, rfl⟩
        go_wp2
        go_ret
        exact ⟨by rw [Hst.out]; rfl, HB.out.alloc HB.out.size _⟩
      · rw [he] at hst
        obtain ⟨hn1, hn8, hv⟩ := putE_zero hp
        have HR := Lib.hid hst
        have HV := Lib.hid hv
        clear hst he hp hv HK hne
        go_wp2_with fail
        refine (checkField_ok _ _ _ hn1 hn8 HV.out).mono ?_
        rintro e w' ⟨rfl, rfl⟩
        go_wp2
        go_roundw
        case rel => exact ⟨k + 1, _, by omega, by omega, by omega, by go_num, rfl, HR, HB.out.alloc HB.out.size _⟩
        case measure => simp [intOf]; omega
    · exfalso
      have h1 := HK.out
      rw [List.drop_eq_nil_of_le (by omega)] at h1
      exact Hk.out h1
set_option maxRecDepth 100000 in
theorem Add_err (g : Nat) (v : Value) (V n : Int) (l : List UInt8) (w : World) (h : Wr w g v l) (hk : chk (1048576 - l.length) [(V, n)] ≠ 0) :
    Calls Tryd.prog 40 #[.pointer (some ⟨g, 0, none⟩), .int .u64 V, .int .i64 n] w fun e w' => e = .returned (.int .i64 (chk (1048576 - l.length) [(V, n)])) ∧ Below w.heap.size w w' := by
  have hW1 : Wr (w.alloc (.cells #[.int .u64 V, .int .i64 n] 74)) g v l := h.below ((Below.refl _ _).alloc (Nat.le_refl _) _)
  have hF : Fl (w.alloc (.cells #[.int .u64 V, .int .i64 n] 74)) (.slice (some ⟨w.heap.size, 0, none⟩) 1 1) [(V, n)] := by
    refine ⟨_, 1, rfl, Nat.le_refl _, fun _ => ⟨w.heap.size, 0, rfl, by simp, fun j hj => ?_⟩⟩
    simp at hj
    subst hj
    exact ⟨by simp, by simp⟩
  have hcall := AddAll_err g v _ l [(V, n)] _ hW1 hF (by simp) hk
  obtain ⟨E, hE⟩ : ∃ E, E = chk (1048576 - l.length) [(V, n)] := ⟨_, rfl⟩
  rw [← hE] at hcall ⊢
  have Hcall := Lib.hid hcall
  clear hcall hF hW1 h hk hE
  go_enter Tryd.func40, Tryd.ntmps40
  go_wp2_with fail
  refine Hcall.out.mono ?_
  rintro e w' ⟨rfl, hb⟩
  have Hb := Lib.hid hb; clear hb
  go_wp2
  go_ret
  exact ⟨rfl, ((Below.refl _ _).alloc (Nat.le_refl _) _).trans (Hb.out.mono (by simp))⟩
theorem AddAll_nil (xv : Value) (w : World) : Calls Tryd.prog 34 #[.pointer none, xv] w fun e w' => e = .returned (.int .i64 1) ∧ w = w' := by
  go_enter Tryd.func34, Tryd.ntmps34
  go_wp2
  go_ret
  exact ⟨rfl, rfl⟩
theorem Add_nil (V n : Int) (w : World) : Calls Tryd.prog 40 #[.pointer none, .int .u64 V, .int .i64 n] w fun e w' => e = .returned (.int .i64 1) ∧ Below w.heap.size w w' := by
  go_enter Tryd.func40, Tryd.ntmps40
  go_wp2_with fail
  refine (AddAll_nil _ _).mono ?_
  rintro e w' ⟨rfl, rfl⟩
  go_wp2
  go_ret
  exact ⟨rfl, (Below.refl _ _).alloc (Nat.le_refl _) _⟩
theorem AddBytes_nil (xv : Value) (w : World) : Calls Tryd.prog 38 #[.pointer none, xv] w fun e w' => e = .returned (.int .i64 1) ∧ w = w' := by
  go_enter Tryd.func38, Tryd.ntmps38
  go_wp2
  go_ret
  exact ⟨rfl, rfl⟩
theorem AddText_nil (s : ByteArray) (n : Int) (w : World) : Calls Tryd.prog 39 #[.pointer none, .string s, .int .i64 n] w fun e w' => e = .returned (.int .i64 1) ∧ w = w' := by
  go_enter Tryd.func39, Tryd.ntmps39
  go_wp2
  go_ret
  exact ⟨rfl, rfl⟩
theorem Zero_nil (n : Int) (w : World) : Calls Tryd.prog 37 #[.pointer none, .int .i64 n] w fun e w' => e = .returned (.int .i64 1) ∧ w = w' := by
  go_enter Tryd.func37, Tryd.ntmps37
  go_wp2
  go_ret
  exact ⟨rfl, rfl⟩
theorem Len_nil (w : World) : Calls Tryd.prog 28 #[.pointer none] w fun e w' => e = .returned (.int .i64 0) ∧ w = w' := by
  go_enter Tryd.func28, Tryd.ntmps28
  go_wp2
  go_ret
  exact ⟨rfl, rfl⟩
theorem Bytes_nil (w : World) : Calls Tryd.prog 27 #[.pointer none] w fun e w' => e = .returned (.slice none 0 0) ∧ w = w' := by
  go_enter Tryd.func27, Tryd.ntmps27
  go_wp2
  go_ret
  exact ⟨rfl, rfl⟩
theorem rd_new (w : World) : Rd (w.alloc (.cells #[.slice none 0 0, .int .i64 0] 97)) w.heap.size (.slice none 0 0) [] 0 :=
  ⟨⟨97, heap_alloc_new w _⟩, Byt.none _, Nat.le_refl _, by simp, fun b hb => by simp [Value.ownBlock] at hb, fun b hb => by simp [Value.ownBlock] at hb⟩
theorem orEmpty_nil (w : World) : Calls Tryd.prog 59 #[.pointer none] w fun e w' => e = .returned (.pointer (some ⟨w.heap.size, 0, none⟩)) ∧ w.alloc (.cells #[.slice none 0 0, .int .i64 0] 97) = w' := by
  go_enter Tryd.func59, Tryd.ntmps59
  go_wp2
  go_ret
  exact ⟨rfl, rfl⟩
theorem alloc_below (w : World) (o : Obj) : Below w.heap.size w (w.alloc o) := (Below.refl _ _).alloc (Nat.le_refl _) o
theorem chg_new {w w' : World} {o : Obj} (h : Chg (· = w.heap.size) (w.alloc o) w') : Below w.heap.size w w' := (alloc_below w o).trans (h.below (by simp) (fun i hi => by omega))
theorem Next_nil (w : World) : Calls Tryd.prog 41 #[.pointer none, .int .i64 1] w fun e w' => e = .returned (.tuple #[.int .u64 0, .int .i64 4]) ∧ Below w.heap.size w w' := by
  have hf := field_short w.heap.size _ [] 0 1 _ (rd_new w) (by decide) (by decide) (by decide)
  have Hf := Lib.hid hf; clear hf
  go_enter Tryd.func41, Tryd.ntmps41
  go_wp2_with fail
  refine (orEmpty_nil _).mono ?_
  rintro e w' ⟨rfl, rfl⟩
  go_wp2_with fail
  refine Hf.out.mono ?_
  rintro e w1 ⟨rfl, -, h2⟩
  have H2 := Lib.hid h2; clear h2
  go_wp2
  go_ret2
  exact ⟨rfl, chg_new H2.out⟩
theorem Take_nil (w : World) : Calls Tryd.prog 42 #[.pointer none, .int .i64 0] w fun e w' => (∃ v, e = .returned (.tuple #[v, .int .i64 0]) ∧ Byt w' v []) ∧ Below w.heap.size w w' := by
  have hf := advance_ok w.heap.size _ [] 0 0 _ (rd_new w) (by decide)
  have Hf := Lib.hid hf; clear hf
  go_enter Tryd.func42, Tryd.ntmps42
  go_wp2_with fail
  refine (orEmpty_nil _).mono ?_
  rintro e w' ⟨rfl, rfl⟩
  go_wp2_with fail
  refine (show Calls Tryd.prog 65 #[.pointer (some ⟨w.heap.size, 0, none⟩), .int .i64 0] _ _ from Hf.out).mono ?_
  rintro e w1 ⟨⟨v, rfl, hB⟩, -, h2⟩
  have HB := Lib.hid hB; have H2 := Lib.hid (chg_new h2); clear hB h2
  go_wp2_with fail
  refine (Clone_any v [] _ HB.out (by decide)).mono ?_
  rintro e w2 ⟨⟨v', rfl, h1⟩, h3⟩
  have H1 := Lib.hid (Byt.of_own h1); have H3 := Lib.hid (H2.out.trans (h3.mono H2.out.size)); clear h1 h3
  go_wp2
  go_ret2
  exact ⟨⟨_, rfl, H1.out⟩, H3.out⟩
theorem Zeros_nil (w : World) : Calls Tryd.prog 43 #[.pointer none, .int .i64 1] w fun e w' => e = .returned (.int .i64 4) ∧ Below w.heap.size w w' := by
  have hf := advance_short (w.heap.size + 1) _ [] 0 1 _ (by simpa using (rd_new w).ahead 95) (by decide) (by decide)
  have Hf := Lib.hid hf; clear hf
  go_enter Tryd.func43, Tryd.ntmps43
  go_wp2_with fail
  refine (orEmpty_nil _).mono ?_
  rintro e w' ⟨rfl, rfl⟩
  go_wp2_with fail
  refine Hf.out.mono ?_
  rintro e w1 ⟨rfl, q, rfl⟩
  go_wp2
  go_ret
  exact ⟨rfl, below_drewN ((alloc_below w _).alloc (by simp) _) q⟩
theorem Skip_nil (w : World) : Calls Tryd.prog 44 #[.pointer none, .int .i64 0] w fun e w' => e = .returned (.int .i64 0) ∧ Below w.heap.size w w' := by
  have hf := advance_ok w.heap.size _ [] 0 0 _ (rd_new w) (by decide)
  have Hf := Lib.hid hf; clear hf
  go_enter Tryd.func44, Tryd.ntmps44
  go_wp2_with fail
  refine (orEmpty_nil _).mono ?_
  rintro e w' ⟨rfl, rfl⟩
  go_wp2_with fail
  refine (show Calls Tryd.prog 65 #[.pointer (some ⟨w.heap.size, 0, none⟩), .int .i64 0] _ _ from Hf.out).mono ?_
  rintro e w1 ⟨⟨v, rfl, hB⟩, -, h2⟩
  have H2 := Lib.hid (chg_new h2); clear hB h2
  go_wp2
  go_ret
  exact ⟨rfl, H2.out⟩
theorem Left_nil (w : World) : Calls Tryd.prog 33 #[.pointer none] w fun e w' => e = .returned (.int .i64 0) ∧ Below w.heap.size w w' := by
  have hf := left_any w.heap.size _ [] 0 _ (rd_new w)
  have Hf := Lib.hid hf; clear hf
  go_enter Tryd.func33, Tryd.ntmps33
  go_wp2_with fail
  refine (orEmpty_nil _).mono ?_
  rintro e w' ⟨rfl, rfl⟩
  go_wp2_with fail
  refine Hf.out.mono ?_
  rintro e w1 ⟨rfl, q, rfl⟩
  go_wp2
  go_ret
  exact ⟨rfl, below_drewN (alloc_below w _) q⟩
theorem At_nil (w : World) : Calls Tryd.prog 32 #[.pointer none] w fun e w' => e = .returned (.int .i64 0) ∧ Below w.heap.size w w' := by
  go_enter Tryd.func32, Tryd.ntmps32
  go_wp2_with fail
  refine (orEmpty_nil _).mono ?_
  rintro e w' ⟨rfl, rfl⟩
  go_wp2
  go_ret
  exact ⟨rfl, alloc_below w _⟩
theorem readEach_none (fv : Value) (w : World) : Calls Tryd.prog 62 #[.slice none 0 0, fv] w fun e w' => e = .returned (.tuple #[.slice none 0 0, .int .i64 0]) ∧ w = w' := by
  go_enter Tryd.func62, Tryd.ntmps62
  go_wp2
  refine wp_loop_rounds 1 ?_
  rw [rounds_succ]
  go_wp2
  go_ret2
  exact ⟨rfl, rfl⟩
theorem All_nil (w : World) : Calls Tryd.prog 35 #[.pointer none, .slice none 0 0] w fun e w' => e = .returned (.tuple #[.slice none 0 0, .int .i64 0]) ∧ Below w.heap.size w w' := by
  have hmf : ∀ (fn : Fn) (first cap : Array Value) (w : World), (Instr.makeFunc fn first cap).run Tryd.prog w = .ok (.func fn first cap) w := fun _ _ _ _ => rfl
  go_enter Tryd.func35, Tryd.ntmps35
  go_wp2_with fail
  refine (orEmpty_nil _).mono ?_
  rintro e w' ⟨rfl, rfl⟩
  go_wp2_with fail
  refine (readEach_none _ _).mono ?_
  rintro e w' ⟨rfl, rfl⟩
  go_wp2
  go_ret2
  exact ⟨rfl, (alloc_below w _).alloc (by simp) _⟩
theorem AddBytes_full (g : Nat) (v xv : Value) (l m : List UInt8) (w : World) (h : Wr w g v l) (hx : Byt w xv m) (hm : 1048576 < l.length + m.length) (hm2 : m.length ≤ 9223372036854775807) :
    Calls Tryd.prog 38 #[.pointer (some ⟨g, 0, none⟩), xv] w fun e w' => e = .returned (.int .i64 5) ∧ w = w' := by
  obtain ⟨B, d, rfl, -, -⟩ := hx
  have hle := h.le
  have HW := Lib.hid h; clear h
  go_enter Tryd.func38, Tryd.ntmps38
  go_wp2_with fail
  refine (room_any g v l _ HW.out).mono ?_
  rintro e w' ⟨rfl, rfl⟩
  go_wp2
  go_ret
  exact ⟨rfl, rfl⟩
theorem Zero_full (g : Nat) (n : Int) (v : Value) (l : List UInt8) (w : World) (h : Wr w g v l) (h0 : 0 ≤ n) (hn : 1048576 < l.length + n) :
    Calls Tryd.prog 37 #[.pointer (some ⟨g, 0, none⟩), .int .i64 n] w fun e w' => e = .returned (.int .i64 5) ∧ w = w' := by
  have HW := Lib.hid h; clear h
  go_enter Tryd.func37, Tryd.ntmps37
  go_wp2_with fail
  refine (room_any g v l _ HW.out).mono ?_
  rintro e w' ⟨rfl, rfl⟩
  go_wp2
  go_ret
  exact ⟨rfl, rfl⟩
theorem AddText_long (g : Nat) (v : Value) (l : List UInt8) (w : World) (h : Wr w g v l) (hl : l.length = 1048576) : Calls Tryd.prog 39 #[.pointer (some ⟨g, 0, none⟩), .string ⟨#[]⟩, .int .i64 1] w fun e w' => e = .returned (.int .i64 5) ∧ Below w.heap.size w w' := by
  have hp := Pad_any ⟨#[]⟩ 1 w (by decide)
  rw [show padL (⟨#[]⟩ : ByteArray).data.toList 1 = [32] by decide +kernel, show padE (⟨#[]⟩ : ByteArray).data.toList 1 = 0 by decide +kernel] at hp
  have Hp := Lib.hid hp
  have HW := Lib.hid h
  have Hl := Lib.hid hl
  clear hp h hl
  go_enter Tryd.func39, Tryd.ntmps39
  go_wp2_with fail
  refine Hp.out.mono ?_
  rintro e w1 ⟨v1, rfl, hB, hb⟩
  have HB := Lib.hid hB; have Hb := Lib.hid hb; clear hB hb
  go_wp2_with fail
  refine (AddBytes_full g v v1 l [32] _ (HW.out.below Hb.out) HB.out (by rw [Hl.out]; decide) (by decide)).mono ?_
  rintro e w2 ⟨rfl, rfl⟩
  go_wp2
  go_ret
  exact ⟨rfl, Hb.out⟩
end Go.Proofs.YtmolpnhgmdpdmaaDoor
