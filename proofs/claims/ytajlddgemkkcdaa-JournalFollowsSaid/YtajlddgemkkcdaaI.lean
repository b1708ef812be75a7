/- The contract of the reference's Encode. Conditions stand in each theorem. -/
import Derived.Test.YtajlddgemkkcdaaH
namespace Go.Proofs.Ytajlddgemkkcdaa
open Go.RowKit
set_option linter.unusedVariables false
set_option maxHeartbeats 4000000
set_option maxRecDepth 100000
theorem info5x : (Try.prog.info? 5).map (fun i => (i.zero, i.size, i.bytes)) = some (some (.int .u8 0), 1, 1) := by kernel_rfl
theorem make_bytes (n : Nat) (hn : n ≤ 1000000) (W : World) : (Instr.makeSlice 24 (.int .i64 (n : Int)) (.int .i64 (n : Int))).run Try.prog W = .ok (.slice (some ⟨W.heap.size, 0, none⟩) n n) (W.alloc (.cells (bv (List.replicate n 0)).toArray 5)) := by
  obtain ⟨i0, hi0, hz0, hz1, hz2⟩ := info_parts8 info5x
  have hr := run_makeSlice (P := Try.prog) W 24 5 i0 _ Try.underlying24 hi0 hz0 .i64 .i64 n n (by omega) (Int.le_refl _) (by rw [hz1]; omega) (by rw [hz2]; omega) (by omega)
  have e : madeCells #[.int .u8 0] n = (bv (List.replicate n 0)).toArray := by
    apply Array.ext
    · simp [size_madeCells, bv]
    · intro i h1 h2
      simp [bv, madeCells, Nat.mod_one]
  rw [hr, hz1]
  simp [Value.cells, e]
theorem put_at (g n : Nat) (p : List UInt8) (ki vi : Int) (w : World) (m : Nat) (h : Rw w g (p ++ List.replicate m 0)) (hki : ki = (p.length : Int)) (hn : p.length + m = n) (hm : 4 ≤ m) (hn2 : n ≤ 8192) (hv0 : 0 ≤ vi) (hv : vi ≤ 4294967295) :
    Calls Try.prog 27 #[.slice (some ⟨g, 0, none⟩) n n, .int .i64 ki, .int .i64 vi] w fun e w' => e = .returned (.tuple #[]) ∧ Rw w' g (p ++ putB vi.toNat 4 ++ List.replicate (m - 4) 0) ∧ Chg (fun b => b = g) w w' := by
  subst hki
  have hvn : vi = ((vi.toNat : Nat) : Int) := by omega
  have := put_any g n (p ++ List.replicate m 0) p.length vi.toNat w h (by simp; omega) (by omega) hn2 (by omega)
  rw [← hvn, set4_end p m vi.toNat hm] at this
  exact this
theorem Rw.byt {W : World} {g : Nat} {bs : List UInt8} (h : Rw W g bs) : Byt W (.slice (some ⟨g, 0, none⟩) bs.length bs.length) bs :=
  ⟨_, bs.length, rfl, Nat.le_refl _, fun _ => ⟨g, 0, rfl, h.lt, fun j hj => by rw [Nat.zero_add]; exact h.at hj⟩⟩
def BytPost (w : World) (b : List UInt8) (k : Int) (e : Ending) (w' : World) : Prop := (∃ v, e = .returned (.tuple #[v, .int .i64 k]) ∧ Byt w' v b) ∧ Below w.heap.size w w'
theorem rencode_any (n : Int) (v : Value) (l : List (Int × Int)) (w : World) (hv : Ent w v l) (hl : l.length ≤ 100000) :
    Calls Try.prog 9 #[.int .i64 n, v] w (BytPost w (encL n l) (encE n l)) := by
  have HV := Lib.hid hv
  have HC := Lib.hid (fun W => rcap_any n W)
  have HA := Lib.hid (fun (W : World) (hW : Below w.heap.size w W) => right_any v l W (hv.below hW) (by omega))
  have hli : (l.length : Int) ≤ 100000 := by omega
  obtain ⟨A, d, rfl, _, hr⟩ := hv
  have HR := Lib.hid hr
  clear hr
  by_cases hc : capF n = 0
  · have e1 : encE n l = 2 := by unfold encE; rw [if_pos (.inl hc)]
    have e2 : encL n l = [] := by unfold encL; rw [if_neg (by rw [e1]; decide)]
    rw [e1, e2]
    rw [hc] at HC
    clear e1 e2 hc HA
    go_enter Try.func9, Try.ntmps9
    go_wp2_with ((go_at_call 12; with_reducible refine (HC.out _).mono ?_); rintro e w1 ⟨rfl, hg⟩; have HG := Lib.hid hg; clear hg)
    go_ret2
    exact ⟨⟨_, rfl, Byt.none _⟩, HG.out.below⟩
  obtain ⟨n1, n2, hcn⟩ := capF_pos hc
  cases ha : allB l with
  | false =>
    have e1 : encE n l = 2 := by unfold encE; rw [if_pos (.inr ha)]
    have e2 : encL n l = [] := by unfold encL; rw [if_neg (by rw [e1]; decide)]
    rw [e1, e2]
    rw [ha] at HA
    have hcb : (capF n == 0) = false := by simpa using hc
    clear e1 e2 ha hcn
    generalize capF n = c at *
    go_enter Try.func9, Try.ntmps9
    go_wp2_with (first
      | ((go_at_call 12; with_reducible refine (HC.out _).mono ?_); rintro e w1 ⟨rfl, hg⟩; have HG := Lib.hid hg.below; clear hg)
      | ((go_at_call 26; with_reducible refine (HA.out _ HG.out).mono ?_); rintro e w2 ⟨rfl, hg⟩; have HG2 := Lib.hid (HG.out.trans (hg.below.mono HG.out.size)); clear hg))
    go_ret2
    exact ⟨⟨_, rfl, Byt.none _⟩, HG2.out⟩
  | true =>
    rw [ha] at HA
    have hcb : (capF n == 0) = false := by simpa using hc
    by_cases hlong : capF n < (l.length : Int)
    · have e1 : encE n l = 5 := by unfold encE; rw [if_neg (by simp [hc, ha]), if_pos hlong]
      have e2 : encL n l = [] := by unfold encL; rw [if_neg (by rw [e1]; decide)]
      rw [e1, e2]
      clear e1 e2 ha hcn
      generalize capF n = c at *
      go_enter Try.func9, Try.ntmps9
      go_wp2_with (first
        | ((go_at_call 12; with_reducible refine (HC.out _).mono ?_); rintro e w1 ⟨rfl, hg⟩; first | (have HG2 := Lib.hid (HG1.out.trans (hg.below.mono HG1.out.size)); clear hg) | (have HG := Lib.hid hg.below; clear hg))
        | ((go_at_call 26; with_reducible refine (HA.out _ HG.out).mono ?_); rintro e w2 ⟨rfl, hg⟩; have HG1 := Lib.hid (HG.out.trans (hg.below.mono HG.out.size)); clear hg))
      go_ret2
      exact ⟨⟨_, rfl, Byt.none _⟩, HG2.out⟩
    · have e1 : encE n l = 0 := by unfold encE; rw [if_neg (by simp [hc, ha]), if_neg hlong]
      have hln : ((l.length : Int) :: numsF l).length = 2 * l.length + 1 := by rw [List.length_cons, numsF_length]
      obtain ⟨N, hN⟩ : ∃ N : Nat, n = (N : Int) := ⟨n.toNat, by omega⟩
      subst hN
      have e2 : encL (N : Int) l = bytesF ((l.length : Int) :: numsF l) ++ List.replicate (N - 4 * (2 * l.length + 1)) 0 := by unfold encL; rw [if_pos e1, hln, Int.toNat_natCast]
      have HE2 := Lib.hid e2
      rw [e1]
      have HV2 := Lib.hid (allB_at ha)
      have hfit : 4 * (2 * l.length + 1) ≤ N := by omega
      have hN8 : N ≤ 8192 := by omega
      have hmk := make_bytes N (by omega)
      have HLB : Hid (∀ k, k ≤ l.length → (bytesF ((l.length : Int) :: numsF (l.take k))).length = 4 + 8 * k) := Lib.hid (fun k hk => by rw [bytesF_length, List.length_cons, numsF_length, List.length_take]; omega)
      have HSN : Hid (∀ k (hk : k < l.length), bytesF ((l.length : Int) :: numsF (l.take (k + 1))) = bytesF ((l.length : Int) :: numsF (l.take k)) ++ putB l[k].1.toNat 4 ++ putB (l[k].2 + 1).toNat 4) := Lib.hid (fun k hk => by
        rw [numsF_snoc l k hk]
        unfold bytesF
        simp)
      have HB0 : Hid (bytesF ((l.length : Int) :: numsF (l.take 0)) = putB l.length 4) := Lib.hid (by unfold bytesF numsF; simp)
      clear e1 e2 ha hcn hln
      generalize capF (N : Int) = c at *
      go_enter Try.func9, Try.ntmps9
      go_upto_region 5 with (first
        | ((go_at_call 12; with_reducible refine (HC.out _).mono ?_); rintro e w1 ⟨rfl, hg⟩; first | (have HG2 := Lib.hid (HG1.out.trans (hg.below.mono HG1.out.size)); clear hg) | (have HG := Lib.hid hg.below; clear hg))
        | ((go_at_call 26; with_reducible refine (HA.out _ HG.out).mono ?_); rintro e w2 ⟨rfl, hg⟩; have HG1 := Lib.hid (HG.out.trans (hg.below.mono HG.out.size)); clear hg))
      have hmk1 := hmk w1
      obtain ⟨g, hg⟩ : ∃ g, g = w1.heap.size := ⟨_, rfl⟩
      have hr0 : Rw (w1.alloc (.cells (bv (List.replicate N 0)).toArray 5)) g ([] ++ List.replicate N 0) := by rw [hg]; exact heap_alloc_new w1 _
      have hb0 : Below w.heap.size w (w1.alloc (.cells (bv (List.replicate N 0)).toArray 5)) := HG2.out.alloc HG2.out.size _
      have hgw : w.heap.size ≤ g := by rw [hg]; exact HG2.out.size
      have HP0 := Lib.hid (put_at g N [] 0 (l.length : Int) _ N hr0 rfl (by simp) (by omega) hN8 (by omega) (by omega))
      have HBB := Lib.hid hb0
      rw [← hg] at hmk1
      clear hr0 hb0 hmk hg HC HA
      go_upto_region 8 with ((go_at_call 27; with_reducible refine HP0.out.mono ?_); rintro e w3 ⟨rfl, hr3, hc3⟩; have HR3 := Lib.hid hr3; have HB3 := Lib.hid (HBB.out.trans (hc3.below HBB.out.size (fun i hi => by omega))); clear hr3 hc3)
      go_loopw [7] (fun i wr => ∃ (k : Nat), k ≤ l.length ∧ i = .int .i64 k ∧ Hid (Rw wr g (bytesF ((l.length : Int) :: numsF (l.take k)) ++ List.replicate (N - 4 * (2 * k + 1)) 0)) ∧ Hid (Below w.heap.size w wr)) (fun i _ => l.length - (RowKit.intOf i).toNat)
      case atStart =>
        refine ⟨0, Nat.zero_le _, rfl, Lib.hid ?_, HB3⟩
        rw [HB0.out]
        have := HR3.out
        simpa using this
      case round =>
        obtain ⟨k, hk, rfl, HRW, HB⟩ := hrel
        by_cases hlt : k < l.length
        · obtain ⟨g1, o1, rfl, hg1, hcell⟩ := HR.out (by omega)
          obtain ⟨y1, y2, y3, y4⟩ := (vldB_iff l[k]).1 (HV2.out k hlt)
          have c1 := (HB.out.cell (p := ⟨g1, o1 + k * 2, none⟩) hg1).trans (hcell k hlt).1
          have HC2 := Lib.hid ((hcell k hlt).2)
          have HG1' := Lib.hid hg1
          have hlb := HLB.out k hk
          have hsn := HSN.out k hlt
          have HSN2 := Lib.hid hsn
          have HP1 := Lib.hid (fun (i : Int) (hi : i = ((4 + 8 * k : Nat) : Int)) => put_at g N _ i l[k].1 wr _ HRW.out (by rw [hi, hlb]) (by rw [hlb]; omega) (by omega) hN8 y1 (by omega))
          have HP2 := Lib.hid (fun (W : World) (h : Rw W g (bytesF ((l.length : Int) :: numsF (l.take k)) ++ putB l[k].1.toNat 4 ++ List.replicate (N - 4 * (2 * k + 1) - 4) 0)) (i : Int) (hi : i = ((8 + 8 * k : Nat) : Int)) => put_at g N _ i (l[k].2 + 1) W _ h (by rw [hi, List.length_append, hlb, putB_length]; omega) (by rw [List.length_append, hlb, putB_length]; omega) (by omega) hN8 (by omega) (by omega))
          clear hsn hlb hcell
          generalize l[k].1 = x1 at *
          generalize l[k].2 = x2 at *
          have hk0 : (0 : Int) ≤ (k : Int) := by omega
          have hk1 : (k : Int) < (l.length : Int) := by omega
          have hkk : (k : Int) ≤ 100000 := by omega
          go_wp2_with (first
            | ((go_at_call 27; with_reducible refine (HP1.out _ (by omega)).mono ?_); rintro e w4 ⟨rfl, hr4, hc4⟩; have HR4 := Lib.hid hr4; have HB4 := Lib.hid (HB.out.trans (hc4.below HB.out.size (fun i hi => by omega))); have c2 := (HB4.out.cell (p := ⟨g1, o1 + k * 2 + 1, none⟩) HG1'.out).trans HC2.out; clear hr4 hc4 HP1)
            | ((go_at_call 27; with_reducible refine (HP2.out _ HR4.out _ (by omega)).mono ?_); rintro e w5 ⟨rfl, hr5, hc5⟩; have HR5 := Lib.hid hr5; have HB5 := Lib.hid (HB4.out.trans (hc5.below HB4.out.size (fun i hi => by omega))); clear hr5 hc5))
          go_roundw
          case rel =>
            refine ⟨k + 1, by omega, by go_num, Lib.hid ?_, HB5⟩
            rw [HSN2.out, show N - 4 * (2 * (k + 1) + 1) = N - 4 * (2 * k + 1) - 4 - 4 by omega]
            exact HR5.out
          case measure => simp [RowKit.intOf]; omega
        · obtain rfl : k = l.length := by omega
          have HRL : Hid (Rw wr g (encL (N : Int) l)) := Lib.hid (by rw [HE2.out]; have := HRW.out; rwa [List.take_length] at this)
          have HLN : Hid ((encL (N : Int) l).length = N) := Lib.hid (by rw [HE2.out, List.length_append, bytesF_length, List.length_replicate, List.length_cons, numsF_length]; omega)
          go_wp2
          go_ret2
          have hby := HRL.out.byt
          rw [HLN.out] at hby
          exact ⟨⟨_, rfl, hby⟩, HB.out⟩
end Go.Proofs.Ytajlddgemkkcdaa
