/- The law's function look for every call, and WireReads' walk. Conditions stand in each theorem. -/
import Derived.Test.YtmolpnhgmdpdmaaDoorRn
import Derived.Test.YtmolpnhgmdpdmaaDoorRo
import Derived.Test.YtmolpnhgmdpdmaaDoorRp
import Derived.Test.YtmolpnhgmdpdmaaDoorRr
import Derived.Test.YtmolpnhgmdpdmaaDoorRs
import Derived.Test.YtmolpnhgmdpdmaaDoorWe
namespace Go.Proofs.YtmolpnhgmdpdmaaDoor
open Go.RowKit
set_option linter.unusedVariables false
set_option maxHeartbeats 1000000

theorem look_any (g : Nat) (vd sv : Value) (A : Option Addr) (c : Nat) (l : List UInt8) (a : Nat) (K N : Int) (ns : List Int) (w : World) (h : Rd w g vd l a) (hB : BytX g w (.slice A l.length c) l) (hl : l.length ≤ 200) (hs : Ints .i64 w sv ns) (hsp : 0 < ns.length → ∀ b, sv.ownBlock = some b → b ≠ g) (hns : ns.length ≤ 20) :
    Calls Tryd.prog 31 #[.pointer (some ⟨g, 0, none⟩), .slice A l.length c, .int .i64 (a : Int), .agg #[.int .i64 K, .int .i64 N, sv]] w (LPost w g vd l) := by
  have hal := h.le
  have adv : N < 0 ∨ (0 ≤ N ∧ (l.length : Int) < a + N) ∨ ∃ n : Nat, N = n ∧ a + n ≤ l.length := by
    by_cases h0 : N < 0
    · exact .inl h0
    · obtain ⟨n, rfl⟩ := Int.eq_ofNat_of_zero_le (show 0 ≤ N by omega)
      by_cases h1 : (l.length : Int) < a + n
      · exact .inr (.inl ⟨by omega, h1⟩)
      · exact .inr (.inr ⟨n, rfl, by omega⟩)
  by_cases k0 : K = 0
  · subst k0
    rcases rdE_cases l a N with ⟨_, he⟩ | ⟨n, rfl, _, _, _, he⟩ | ⟨n, rfl, h1, h8, hn, he⟩
    · exact look_0_err g vd sv A c l a N w h hB hl (by rw [he]; decide)
    · exact look_0_err g vd sv A c l a n w h hB hl (by rw [he]; decide)
    · exact look_0_ok g vd sv A c l a n w h hB hl h1 h8 hn
  by_cases k1 : K = 1
  · subst k1
    by_cases he : rdAllE l a ns = 0
    · exact look_1_ok g vd sv A c l a N w h hB hl ns hs hsp hns he
    · exact look_1_err g vd sv A c l a N w h hB hl ns hs hsp hns he
  by_cases k2 : K = 2
  · subst k2
    rcases adv with hn | ⟨h0, hn⟩ | ⟨n, rfl, hn⟩
    · exact look_2_neg g vd sv A c l a N w h hB hl hn
    · exact look_2_short g vd sv A c l a N w h hB hl h0 hn
    · exact look_2_fits g vd sv A c l a n w h hB hl hn
  by_cases k3 : K = 3
  · subst k3
    rcases adv with hn | ⟨h0, hn⟩ | ⟨n, rfl, hn⟩
    · exact look_3_neg g vd sv A c l a N w h hB hl hn
    · exact look_3_short g vd sv A c l a N w h hB hl h0 hn
    · by_cases hz : AllZero ((l.drop a).take n)
      · exact look_3_ok g vd sv A c l a n w h hB hl hn hz
      · exact look_3_format g vd sv A c l a n w h hB hl hn hz
  by_cases k4 : K = 4
  · subst k4
    exact look_4 g vd sv A c l a N w h hB.1 hl hB.2
  exact look_none g vd sv A c l a K N w h hB hl k0 k1 k2 k3 k4

/-- One call of the law, as it was read. -/
structure LookD where
  K : Int
  N : Int
  sv : Value
  ns : List Int
def LookD.ok (w : World) (x : LookD) : Prop := Ints .i64 w x.sv x.ns ∧ x.ns.length ≤ maxLen
def Lo (w : World) (v : Value) (xs : List LookD) : Prop :=
  ∃ A c, v = .slice A xs.length c ∧ xs.length ≤ c ∧ xs.length ≤ maxLen ∧ (∀ x ∈ xs, x.ok w) ∧ (0 < xs.length → ∃ b o, A = some ⟨b, o, none⟩ ∧ b < w.heap.size ∧ ∀ j (hj : j < xs.length),
    w.cell? ⟨b, o + j * 3, none⟩ = some (.int .i64 xs[j].K) ∧ w.cell? ⟨b, o + j * 3 + 1, none⟩ = some (.int .i64 xs[j].N) ∧ w.cell? ⟨b, o + j * 3 + 2, none⟩ = some xs[j].sv)
theorem Rd.other {w : World} {g b j a : Nat} {vd : Value} {l : List UInt8} (h : Rd w g vd l a) (hg : g ≠ b) (hv : ∀ x, vd.ownBlock = some x → x ≠ b) (u : Value) : Rd (w.setCell ⟨b, j, none⟩ u) g vd l a := by
  have hc : Chg (· = b) w (w.setCell ⟨b, j, none⟩ u) := Chg.setCell (S := (· = b)) (Chg.refl _ _) (p := ⟨b, j, none⟩) rfl u
  refine ⟨?_, byt_chg h.byt hc (fun _ x hx => hv x hx), h.le, h.small, h.ne, fun x hx => Nat.lt_of_lt_of_le (h.lo x hx) hc.size⟩
  obtain ⟨t, ht⟩ := h.blk
  exact ⟨t, (hc.block g h.lt hg).trans ht⟩
set_option maxRecDepth 100000 in
theorem reads_any (v0 v : Value) (l : List UInt8) (xs : List LookD) (w : World) (hB : Byt w v0 l) (hl : l.length ≤ maxLen) (h : Lo w v xs) : Calls Tryd.prog 8 #[v0, v] w fun e w' => e = .returned (.bool true) ∧ Below w.heap.size w w' := by
  have HB := Lib.hid hB
  obtain ⟨A, c, rfl, hc, -⟩ := hB
  obtain ⟨A2, c2, rfl, hc2, hm, hok, hr⟩ := h
  have hm' : (xs.length : Int) ≤ 9223372036854775807 := by have := hm; unfold maxLen at this; omega
  have hl' : (l.length : Int) ≤ 9223372036854775807 := by have := hl; unfold maxLen at this; omega
  have Hok := Lib.hid hok; have Hr := Lib.hid hr
  clear hok hr hm hl
  by_cases hbig : 200 < l.length
  · go_enter Tryd.func8, Tryd.ntmps8
    go_wp2_with fail
    refine (known_any _).mono ?_
    rintro e w3 ⟨rfl, hb3⟩
    have Hb3 := Lib.hid hb3; clear hb3
    go_wp2
    go_ret
    exact ⟨rfl, Hb3.out⟩
  · by_cases hbig2 : 40 < xs.length
    · go_enter Tryd.func8, Tryd.ntmps8
      go_wp2_with fail
      refine (known_any _).mono ?_
      rintro e w3 ⟨rfl, hb3⟩
      have Hb3 := Lib.hid hb3; clear hb3
      go_wp2
      go_ret
      exact ⟨rfl, Hb3.out⟩
    · go_enter Tryd.func8, Tryd.ntmps8
      go_wp2_with fail
      refine (refOwn_any _ l _ HB.out (by omega)).mono ?_
      rintro e w1 ⟨⟨r8, rfl, ho⟩, hb1⟩
      obtain ⟨A8, d8, hr8, hgot⟩ := got_form ho
      have HY8 := Lib.hid (Byt.of_own ho)
      have Hge := Lib.hid (own_row_ge ho)
      subst hr8
      have HB1 := Lib.hid hb1; have Hgot := Lib.hid hgot
      clear ho hb1 hgot
      go_wp2_with fail
      refine (NewReader_any _ l _ HY8.out (by omega)).mono ?_
      rintro e w2 ⟨⟨g, vd, rfl, hg, hvd, hrd⟩, hb2⟩
      have HW2 := Lib.hid (HB1.out.trans (hb2.mono HB1.out.size))
      have HR2 := Lib.hid hrd
      have Hg := Lib.hid (Nat.le_trans HB1.out.size hg)
      have Hgot2 : Hid (0 < l.length → ∃ b, A8 = some ⟨b, 0, none⟩ ∧ w.heap.size ≤ b ∧ b < w2.heap.size ∧ g ≠ b ∧ (∀ x, vd.ownBlock = some x → x ≠ b) ∧ Flips w2 b l.length) := Lib.hid (fun h0 => by
        obtain ⟨b, e1, e2, e3, e4⟩ := Hgot.out h0
        refine ⟨b, e1, e2, Nat.lt_of_lt_of_le e3 hb2.size, by omega, fun x hx => by have := hvd x hx; omega, fun t ht => ?_⟩
        obtain ⟨⟨x, hx⟩, hf⟩ := e4 t ht
        exact ⟨⟨x, (hb2.cell (p := ⟨b, t, none⟩) e3).trans hx⟩, (hb2.frozen (p := ⟨b, t, none⟩) e3).trans hf⟩)
      clear hg hvd hrd hb2 Hgot Hge HY8 HB1
      go_wp2
      go_loopw [7] (fun i wq => ∃ j : Nat, j ≤ l.length ∧ i = .int .i64 j ∧ Hid (Below w.heap.size w wq) ∧ Hid (Rd wq g vd l 0) ∧ Hid (0 < l.length → ∃ b, A8 = some ⟨b, 0, none⟩ ∧ w.heap.size ≤ b ∧ b < wq.heap.size ∧ g ≠ b ∧ (∀ x, vd.ownBlock = some x → x ≠ b) ∧ Flips wq b l.length)) (fun i _ => l.length - (intOf i).toNat)
      case atStart => exact ⟨0, Nat.zero_le _, rfl, HW2, HR2, Hgot2⟩
      case round =>
        clear Hgot2 HW2 HR2
        obtain ⟨j, hj, rfl, HBq, HRq, HFq⟩ := hrel
        by_cases hjl : j < l.length
        · obtain ⟨b8, rfl, hb8, hb8l, hgb, hvb, hfl⟩ := HFq.out (by omega)
          obtain ⟨⟨x, hx⟩, hfr⟩ := hfl j hjl
          have hx' : wr.cell? ⟨b8, 0 + j, none⟩ = some (.int .u8 x) := by rw [Nat.zero_add]; exact hx
          have hfr' : wr.frozen? ⟨b8, 0 + j, none⟩ = false := by rw [Nat.zero_add]; exact hfr
          have j0 : (0 : Int) ≤ j := by omega
          have j1 : (j : Int) < l.length := by omega
          have HF := Lib.hid hfl; have Hb8 := Lib.hid (And.intro hb8 hb8l); have Hgb := Lib.hid hgb; have Hvb := Lib.hid hvb
          clear hfl hb8 hb8l HFq hgb hvb
          go_wp2
          go_roundw
          case rel =>
            refine ⟨j + 1, hjl, by go_num, Lib.hid (HBq.out.setCell Hb8.out.1 _), Lib.hid (HRq.out.other Hgb.out Hvb.out _), Lib.hid fun _ => ⟨b8, rfl, Hb8.out.1, by simpa [World.setCell] using Hb8.out.2, Hgb.out, Hvb.out, ?_⟩⟩
            exact flip_step (j := j) HF.out hjl
          case measure => simp [intOf]; omega
        · have HW3 := Lib.hid HBq.out
          clear HFq HBq
          generalize wr = w3 at *
          go_wp2
          go_loopw [8, 9] (fun at_ i wq => ∃ (k a : Nat), k ≤ xs.length ∧ i = .int .i64 k ∧ at_ = .int .i64 a ∧ Hid (Below w.heap.size w wq) ∧ Hid (Rd wq g vd l a)) (fun _ i _ => xs.length - (intOf i).toNat)
          case atStart => exact ⟨0, 0, Nat.zero_le _, rfl, rfl, HW3, HRq⟩
          case round =>
            clear HW3 HRq
            obtain ⟨k, a, hk, rfl, rfl, HWq, HRq⟩ := hrel
            by_cases hlt : k < xs.length
            · obtain ⟨b, o, rfl, hb, hcell⟩ := Hr.out (by omega)
              obtain ⟨x, hx⟩ : ∃ x, x = xs[k] := ⟨_, rfl⟩
              have hokx := Hok.out xs[k] (List.getElem_mem hlt)
              have hce := hcell k hlt
              rw [← hx] at hokx hce
              have c0 := (HWq.out.cell (by exact hb)).trans hce.1
              have c1 := (HWq.out.cell (by exact hb)).trans hce.2.1
              have c2' := (HWq.out.cell (by exact hb)).trans hce.2.2
              obtain ⟨xK, xN, xsv, xns⟩ := x
              dsimp only at c0 c1 c2'
              have hin : Ints .i64 w xsv xns := hokx.1
              have HI := Lib.hid hin
              obtain ⟨As, cs, rfl, hcs, -⟩ := hin
              have hnl : (xns.length : Int) ≤ 9223372036854775807 := by have := hokx.2; unfold maxLen at this; dsimp only at this; omega
              have i0 : (0 : Int) ≤ k := by omega
              have i1 : (k : Int) < xs.length := by omega
              clear hcell hokx hce hx hb
              by_cases h20 : 20 < xns.length
              · go_wp2_with fail
                refine (known_any _).mono ?_
                rintro e w4 ⟨rfl, hb4⟩
                have Hb4 := Lib.hid (HWq.out.trans (hb4.mono HWq.out.size)); clear hb4
                go_wp2
                go_ret
                exact ⟨rfl, Hb4.out⟩
              · have hBX : BytX g wr (.slice A l.length c) l := ⟨HB.out.below HWq.out, fun h0 b' hb' => by have := byt_block HB.out h0 b' hb'; have := Hg.out; omega⟩
                have Hlook := Lib.hid (look_any g vd _ A c l a xK xN xns wr HRq.out hBX (by omega) (HI.out.below HWq.out) (fun h0 b' hb' => by have := ints_block HI.out h0 b' hb'; have := Hg.out; omega) (by omega))
                clear hBX
                go_wp2_with fail
                refine (show Calls Tryd.prog 31 _ _ _ from Hlook.out).mono ?_
                rintro e w4 ⟨a', rfl, hR4, hC4⟩
                have HW4 := Lib.hid (HWq.out.trans (hC4.below HWq.out.size (fun i hi => by rw [hi]; exact Hg.out)))
                have HR4 := Lib.hid hR4
                have hale : (a' : Int) ≤ l.length := by have := hR4.le; omega
                clear hR4 hC4 Hlook c0 c1 c2'
                go_wp2_with fail
                refine (At_any g vd l a' _ HR4.out).mono ?_
                rintro e w5 ⟨rfl, rfl⟩
                go_wp2_with fail
                refine (Left_any g vd l a' _ HR4.out).mono ?_
                rintro e w5 ⟨rfl, nq, rfl⟩
                have HW5 := Lib.hid (HW4.out.trans (show Below w.heap.size w4 (w4.drewN nq) from (Chg.below (chg_drewN (fun _ => False) w4 nq) HW4.out.size (fun i hi => hi.elim))))
                have HR5 := Lib.hid (HR4.out.drewN nq)
                clear HW4 HR4
                generalize w4.drewN nq = w6 at *
                go_wp2
                go_roundw
                case rel => exact ⟨k + 1, a', by omega, by go_num, rfl, HW5, HR5⟩
                case measure => simp [intOf]; omega
            · go_wp2_with fail
              refine (known_any _).mono ?_
              rintro e w4 ⟨rfl, hb4⟩
              have Hb4 := Lib.hid (HWq.out.trans (hb4.mono HWq.out.size)); clear hb4
              go_wp2
              go_ret
              exact ⟨rfl, Hb4.out⟩
end Go.Proofs.YtmolpnhgmdpdmaaDoor
