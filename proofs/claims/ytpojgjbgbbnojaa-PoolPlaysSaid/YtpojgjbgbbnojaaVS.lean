/- The contract of is: a pool equals its reference. Conditions stand in each theorem. -/
import Derived.Test.YtpojgjbgbbnojaaRE
import Derived.Test.YtpojgjbgbbnojaaVL
namespace Go.Proofs.Ytpojgjbgbbnojaa
open Go.RowKit Go.Shelf
attribute [local go_sem] Oper.semAt_some
set_option linter.unusedVariables false
set_option maxHeartbeats 8000000
set_option maxRecDepth 100000
/-- The frame of is at the head of its second loop. -/
def isF (sl : Value) (b q3 q4 s : Nat) (u : Nat → Value) : Array Value := #[.pointer (some ⟨b, 0, none⟩), sl, u 2, .pointer (some ⟨q3, 0, none⟩), .pointer (some ⟨q4, 0, none⟩), u 5, .int .i64 (s : Int), u 7, u 8, u 9, u 10, u 11, u 12, u 13, u 14, u 15, u 16, u 17, u 18, u 19, u 20, u 21, u 22, u 23, u 24, u 25, u 26, u 27, u 28, u 29, u 30, u 31, u 32, u 33, u 34, u 35, u 36, u 37, u 38, u 39, u 40, u 41, u 42, u 43, u 44, u 45, u 46, u 47, u 48, u 49, u 50, u 51, u 52, u 53, u 54, u 55, u 56, u 57, u 58, u 59, u 60, u 61, u 62, u 63, u 64, u 65, u 66, u 67, u 68, u 69, u 70, u 71, u 72, u 73, u 74, u 75, u 76, u 77, u 78, u 79, u 80, u 81, u 82, u 83, u 84, u 85, u 86, u 87, u 88, u 89, u 90, u 91, u 92, u 93, u 94, u 95, u 96, u 97, u 98, u 99, u 100, u 101, u 102, u 103, u 104, u 105, u 106, u 107, u 108, u 109, u 110, u 111, u 112, u 113, u 114, u 115, u 116, u 117, u 118, u 119, u 120, u 121, u 122, u 123, u 124, u 125, u 126, u 127, u 128, u 129, u 130, u 131]
theorem own_rf {β : Type} {gr : Nat} {l : List Blk} (B : Nat) : OwnFrom B (fun (_ : β) W => Rf W gr l) := fun k X Y row hs hg hr => by
  obtain ⟨cs, fr, h1, r⟩ := hs
  refine ⟨cs, fr, (hg.block gr (Array.getElem?_eq_some_iff.1 h1).1 (fun e => ?_)).trans h1, r⟩
  obtain ⟨o, ho, hc⟩ := (hr gr e.symm).2
  rw [h1] at ho; cases ho; cases hc
theorem field71_0 (x y : Int) (W : World) : (Instr.field 71 (.agg #[.int .i64 x, .int .i64 y]) 0).run Try.prog W = .ok (.int .i64 x) W := by kernel_rfl
theorem field71_1 (x y : Int) (W : World) : (Instr.field 71 (.agg #[.int .i64 x, .int .i64 y]) 1).run Try.prog W = .ok (.int .i64 y) W := by kernel_rfl
/-- The numbers that Of lists are those that Blocks yields. -/
theorem ofK_fl (l : List Blk) (s : Int) : ofK l s l.length = (fl l s).map fun p => (p.1 : Int) := by
  unfold ofK fl enum
  rw [List.take_of_length_le (by simp), List.filter_map, List.map_map]
  rfl
theorem of_at {l : List Blk} {s : Int} {k : Nat} (hk : k < (ofK l s l.length).length) : (ofK l s l.length)[k] = (flI l s k : Int) := by
  have h : k < (fl l s).length := by rw [ofK_fl] at hk; simpa using hk
  simp only [ofK_fl, List.getElem_map]
  simp [flI, h]
theorem of_len (l : List Blk) (s : Int) : (ofK l s l.length).length = (fl l s).length := by rw [ofK_fl, List.length_map]
theorem fl_cnt (l : List Blk) (s : Int) : cnt l s = ((fl l s).length : Int) := by
  have h : (l.filter fun b => decide (b.st = s)).length = (fl l s).length := by
    have e : (enum l).map (·.2) = l := by
      apply List.ext_getElem
      · simp [enum]
      · intro i h1 h2
        simp [enum, h2]
    unfold fl
    conv => lhs; rw [← e, List.filter_map, List.length_map]
    rfl
  unfold cnt
  rw [h]
/-- Numbers in a block below B. -/
def IntsB (B : Nat) (w : World) (v : Value) (xs : List Int) : Prop :=
  ∃ A c, v = .slice A xs.length c ∧ (0 < xs.length → ∃ g o, A = some ⟨g, o, none⟩ ∧ g < B ∧ g < w.heap.size ∧ ∀ j (hj : j < xs.length), w.cell? ⟨g, o + j, none⟩ = some (.int .i64 xs[j]))
theorem IntsB.of {w : World} {v : Value} {xs : List Int} (h : Ints w v xs) : IntsB w.heap.size w v xs := by
  obtain ⟨A, c, e, h⟩ := h
  refine ⟨A, c, e, fun h0 => ?_⟩
  obtain ⟨g, o, e', hg, hc⟩ := h h0
  exact ⟨g, o, e', hg, hg, hc⟩
theorem IntsB.below {B : Nat} {w W : World} {v : Value} {xs : List Int} (h : IntsB B w v xs) (hb : Below w.heap.size w W) : IntsB B W v xs := by
  obtain ⟨A, c, e, h⟩ := h
  refine ⟨A, c, e, fun h0 => ?_⟩
  obtain ⟨g, o, e', hg, hg2, hc⟩ := h h0
  exact ⟨g, o, e', hg, Nat.lt_of_lt_of_le hg2 hb.size, fun j hj => (hb.cell (p := ⟨g, o + j, none⟩) hg2).trans (hc j hj)⟩
theorem IntsB.set {B q : Nat} {w : World} {v u : Value} {xs : List Int} (h : IntsB B w v xs) (hq : B ≤ q) : IntsB B (w.setCell ⟨q, 0, none⟩ u) v xs := by
  obtain ⟨A, c, e, h⟩ := h
  refine ⟨A, c, e, fun h0 => ?_⟩
  obtain ⟨g, o, e', hg, hg2, hc⟩ := h h0
  exact ⟨g, o, e', hg, by simpa [World.setCell] using hg2, fun j hj => (World.cell?_of_block (w := w) (Below.heap_setCell w ⟨q, 0, none⟩ u g (by show g ≠ q; omega))).trans (hc j hj)⟩
theorem own_intsB {β : Type} {B' : Nat} {v : Value} {xs : List Int} (B : Nat) : OwnFrom B (fun (_ : β) W => IntsB B' W v xs) := fun k X Y row hs hg hr => by
  obtain ⟨A, c, e, h⟩ := hs
  refine ⟨A, c, e, fun h0 => ?_⟩
  obtain ⟨g, o, e', hg1, hg2, hc⟩ := h h0
  exact ⟨g, o, e', hg1, Nat.lt_of_lt_of_le hg2 hg.size, fun j hj => cell_kept (hc j hj) hg (fun r e => (hr r e).2)⟩
/-- The state of is between two rounds. -/
structure IB (w : World) (base b g cap gr : Nat) (l : List Blk) (sl : Value) (Ds : List Nat) (W : World) : Prop where
  pl : Pl W base b g cap l
  rf : Rf W gr l
  x3 : Bx1 W w.heap.size 30 sl
  x4 : Bx1 W (w.heap.size + 1) 4 (.bool false)
  mks : Marks w.heap.size Ds W
  be : Below w.heap.size w W
section
variable {w W W' : World} {base b g cap gr : Nat} {l : List Blk} {sl : Value} {Ds : List Nat}
theorem IB.below (h : IB w base b g cap gr l sl Ds W) (hb : Below W.heap.size W W') : IB w base b g cap gr l sl Ds W' :=
  ⟨h.pl.below hb, h.rf.below hb, h.x3.below hb, h.x4.below hb, h.mks.below hb, h.be.trans (hb.mono h.be.size)⟩
theorem IB.set (h : IB w base b g cap gr l sl Ds W) {q : Nat} {v u : Value} (hq : Bx1 W q 3 v) (hqw : w.heap.size ≤ q) : IB w base b g cap gr l sl Ds (W.setCell ⟨q, 0, none⟩ u) := by
  have key : ∀ {k : Nat} {cs : Array Value} {t : TypeId} {fr : Nat × Nat}, W.heap[k]? = some (.cells cs t fr) → t ≠ 3 → (W.setCell ⟨q, 0, none⟩ u).heap[k]? = W.heap[k]? := fun {k cs t fr} hk ht => Below.heap_setCell W ⟨q, 0, none⟩ u k (by
    intro e
    have e : k = q := e
    subst e
    rw [show W.heap[k]? = _ from hq] at hk
    injection hk with hk
    injection hk with _ hk
    exact ht hk.symm)
  obtain ⟨cur, hg1, _⟩ := h.pl.row
  obtain ⟨cs, fr, hr1, _⟩ := h.rf
  refine ⟨h.pl.keep fun k hk => ?_, h.rf.keep (key hr1 (by decide)), (key h.x3 (by decide)).trans h.x3, (key h.x4 (by decide)).trans h.x4, h.mks.keep fun D hD => Below.heap_setCell W ⟨q, 0, none⟩ u D (by
    intro e
    have e : D = q := e
    subst e
    have := (h.mks.2 D hD).2
    rw [show W.heap[D]? = _ from hq] at this
    cases this), h.be.setCell hqw _⟩
  rcases hk with rfl | rfl
  · exact key h.pl.blk (by decide)
  · exact key hg1 (by decide)
theorem own_ib {β : Type} {B : Nat} (hB : w.heap.size ≤ B) (hD : ∀ D ∈ Ds, D < B) : OwnFrom B (fun (_ : β) W => IB w base b g cap gr l sl Ds W) := fun k X Y row hs hg hr =>
  ⟨own_pl _ () X Y row hs.pl hg hr, own_rf _ () X Y row hs.rf hg hr, own_bx _ () X Y row hs.x3 hg hr, own_bx _ () X Y row hs.x4 hg hr, own_marks hD () X Y row hs.mks hg hr, ownFrom_below (Nat.le_refl _) hB () X Y row hs.be hg hr⟩
end
def IsI (w : World) (base b g cap gr : Nat) (l : List Blk) (sl : Value) (m : Nat) (a : Act) (W : World) : Prop :=
  ∃ (s : Nat) (Ds : List Nat) (u : Nat → Value), s + m = 6 ∧ a = { tmps := isF sl b w.heap.size (w.heap.size + 1) s u, defers := Ds.map mrk } ∧ IB w base b g cap gr l sl Ds W
theorem IsI.mk' {w : World} {base b g cap gr : Nat} {l : List Blk} {sl : Value} {m s : Nat} {W : World} {Ds : List Nat} {tm : Array Value} {ds : List Deferred} (h1 : s + m = 6) (h2 : tm = isF sl b w.heap.size (w.heap.size + 1) s (fun i => tm.getD i undef)) (h3 : ds = Ds.map mrk) (h4 : IB w base b g cap gr l sl Ds W) :
    IsI w base b g cap gr l sl m { tmps := tm, defers := ds } W := ⟨s, Ds, _, h1, by rw [h3, ← h2], h4⟩
theorem res13 (W' : World) (q : Nat) (tm : Array Value) (htm : tm.getD 4 undef = .pointer (some ⟨q, 0, none⟩)) (h : W'.cell? ⟨q, 0, none⟩ = some (.bool true)) : (results Try.f13 tm).run Try.prog W' = .ok (.bool true) W' := by
  have e : tm[4]?.getD undef = .pointer (some ⟨q, 0, none⟩) := by simpa using htm
  simp [results, Try.results13, go_sem, h, e]
/-- What a region of is needs. -/
def IsS (E : World) (q3 : Nat) (sl : Value) (W : World) : Prop := Bel E W ∧ W.cell? ⟨q3, 0, none⟩ = some sl
theorem is_any {w : World} {base b g cap gr cr : Nat} {l : List Blk} (h : Pl w base b g cap l) (hr : Rf w gr l) : Calls Try.prog 13 #[.pointer (some ⟨b, 0, none⟩), .slice (some ⟨gr, 0, none⟩) l.length cr] w (OkB w) := by
  have b1 := below_alloc w (.cells #[.slice (some ⟨gr, 0, none⟩) l.length cr] 30)
  have b2 : Below w.heap.size w ((w.alloc (.cells #[.slice (some ⟨gr, 0, none⟩) l.length cr] 30)).alloc (.cells #[.bool false] 4)) := b1.alloc (by simp) _
  have x3 : Bx1 ((w.alloc (.cells #[.slice (some ⟨gr, 0, none⟩) l.length cr] 30)).alloc (.cells #[.bool false] 4)) w.heap.size 30 (.slice (some ⟨gr, 0, none⟩) l.length cr) := (Bx1.new w 30 _).below (below_alloc _ _)
  have x4 : Bx1 ((w.alloc (.cells #[.slice (some ⟨gr, 0, none⟩) l.length cr] 30)).alloc (.cells #[.bool false] 4)) (w.heap.size + 1) 4 (.bool false) := by
    have := Bx1.new (w.alloc (.cells #[.slice (some ⟨gr, 0, none⟩) l.length cr] 30)) 4 (.bool false)
    rwa [World.size_alloc] at this
  have hp := h.below b2
  have hf := hr.below b2
  have hl := h.fit.len
  have hl2 : (l.length : Int) ≤ 4096 := by omega
  have HB := Lib.hid b2
  have HX3 := Lib.hid x3
  have HX4 := Lib.hid x4
  have HP := Lib.hid hp
  have HRf := Lib.hid hf
  have HFit := Lib.hid h.fit
  clear b1 b2 x3 x4 hp hf h hr hl
  refine (callsIn_wide (n := 9)).1 ?_
  refine callsIn_of_wp_marks Try.func13 rfl trivial ?_ rfl
  simp only [Try.ntmps13, List.size_toArray, List.length_cons, List.length_nil, Nat.reduceAdd, Nat.reduceSub, Array.replicate_succ, Array.replicate_zero, List.push_toArray, List.append_toArray, List.nil_append, List.cons_append]
  gi_wp2
  generalize (w.alloc (.cells #[.slice (some ⟨gr, 0, none⟩) l.length cr] 30)).alloc (.cells #[.bool false] 4) = E at *
  gi_loopw [5] (fun i wr => ∃ q : Int, -1 ≤ q ∧ q ≤ l.length + 1 ∧ i = .int .i64 q ∧ Hid (Bel E wr)) (fun i _ => ((l.length : Int) + 1 - RowKit.intOf i).toNat)
  case atStart => exact ⟨-1, by omega, by omega, rfl, Lib.hid (Bel.refl E)⟩
  case round =>
    obtain ⟨q, hq1, hq2, rfl, HBe⟩ := hrel
    have c3 := (HX3.out.below HBe.out).cell
    by_cases hlt : q ≤ l.length
    · have hlt2 : decide (q ≤ (l.length : Int)) = true := decide_eq_true hlt
      have X1 := Lib.hid (fun (W : World) (hW : Bel wr W ∧ W.cell? ⟨w.heap.size, 0, none⟩ = some (.slice (some ⟨gr, 0, none⟩) l.length cr)) => State_any (HP.out.below (Bel.trans HBe.out hW.1)) q)
      have X2 := Lib.hid (fun (W : World) (hW : Bel wr W ∧ W.cell? ⟨w.heap.size, 0, none⟩ = some (.slice (some ⟨gr, 0, none⟩) l.length cr)) => Erases_any (HP.out.below (Bel.trans HBe.out hW.1)) q)
      have X3 := Lib.hid (fun (W : World) (hW : Bel wr W ∧ W.cell? ⟨w.heap.size, 0, none⟩ = some (.slice (some ⟨gr, 0, none⟩) l.length cr)) => (show Calls Try.prog 34 #[.slice (some ⟨gr, 0, none⟩) l.length cr, .int .i64 q] W fun e w' => e = .returned (.agg #[.int .i64 (sta l q), .int .i64 (ers l q)]) ∧ Bel wr w' ∧ w'.cell? ⟨w.heap.size, 0, none⟩ = some (.slice (some ⟨gr, 0, none⟩) l.length cr) from
        (At_any (cap := cr) (HRf.out.below (Bel.trans HBe.out hW.1)) HFit.out.len q).mono fun e w' ⟨a1, a2⟩ => ⟨a1, Bel.trans hW.1 a2, (a2.cell (World.block_lt_of_cell? W _ hW.2)).trans hW.2⟩))
      have HSt := Lib.hid (show Bel wr wr.drew ∧ wr.drew.cell? ⟨w.heap.size, 0, none⟩ = some (.slice (some ⟨gr, 0, none⟩) l.length cr) from ⟨(Bel.refl wr).drew, c3⟩)
      have HSu := Lib.hid (show Bel wr wr ∧ wr.cell? ⟨w.heap.size, 0, none⟩ = some (.slice (some ⟨gr, 0, none⟩) l.length cr) from ⟨Bel.refl wr, c3⟩)
      generalize sta l q = sq at *
      generalize ers l q = eq at *
      have hf0 := field71_0 sq eq
      have hf1 := field71_1 sq eq
      gi_wp2
      refine wpIn_wide.2 ?_
      go_region_held3 (fun W => Bel wr W ∧ W.cell? ⟨w.heap.size, 0, none⟩ = some (.slice (some ⟨gr, 0, none⟩) l.length cr)) (first | assumption | exact HSt.out | exact HSu.out)
        (first
          | ((go_at_call 24; with_reducible refine (X1.out _ (by assumption)).mono ?_); rintro e w' ⟨rfl, rfl⟩)
          | ((go_at_call 25; with_reducible refine (X2.out _ (by assumption)).mono ?_); rintro e w' ⟨rfl, rfl⟩)
          | ((go_at_call 34; with_reducible refine (X3.out _ (by assumption)).mono ?_); rintro e w' ⟨rfl, hw'⟩))
      gi_wp2
      go_roundw
      case rel => exact ⟨q + 1, by omega, by omega, by go_num, Lib.hid (Bel.trans HBe.out (by assumption : Bel wr _ ∧ _).1)⟩
      case measure => simp [RowKit.intOf]; omega
    · have hlt2 : decide (q ≤ (l.length : Int)) = false := decide_eq_false hlt
      have hIB : IB w base b g cap gr l (.slice (some ⟨gr, 0, none⟩) l.length cr) [] wr := ⟨HP.out.below HBe.out, HRf.out.below HBe.out, HX3.out.below HBe.out, HX4.out.below HBe.out, Marks.nil _ _, HB.out.trans (Below.mono HBe.out HB.out.size)⟩
      have HI := Lib.hid hIB
      have hqn := fun (W : World) (f : Fn) (x y : Array Value) => run_eql_func_nil (P := Try.prog) W 42 f x y Try.underlying42
      clear hIB HP HRf HX3 HX4 HB HBe
      gi_wp2
      refine loop_down (IsI w base b g cap gr l (.slice (some ⟨gr, 0, none⟩) l.length cr)) (fun a _ => 6 - (RowKit.intOf (a.tmps.getD 6 undef)).toNat) ?hmu 6 ?h0 ?round
      case hmu =>
        rintro m a W ⟨s, Ds, u, h1, rfl, _⟩
        simp [isF, RowKit.intOf]
        omega
      case h0 => exact IsI.mk' (s := 0) (Ds := []) (by omega) rfl rfl HI.out
      case round =>
        rintro m a W ⟨s, Ds, u, hsm, rfl, hib⟩ K hK
        have HK := Lib.hid hK
        have HIB := Lib.hid hib
        have c3 := hib.x3.cell
        have HSM := Lib.hid hsm
        simp only [isF]
        clear hK hib HI
        by_cases hs5 : s ≤ 5
        · have hs5' : (s : Int) ≤ 5 := by omega
          have f15 : Fence.wide.fn 15 := trivial
          have f14 : Fence.wide.fn 14 := trivial
          have f26 : Fence.wide.fn 26 := trivial
          have HF0 := Lib.hid (fun W' Ds' (h : IB w base b g cap gr l (.slice (some ⟨gr, 0, none⟩) l.length cr) Ds' W') tm ds h2 h3 => HK.out (m - 1) _ W' (by have := HSM.out; omega) (IsI.mk' (s := s + 1) (m := m - 1) (tm := tm) (ds := ds) (Ds := Ds') (by have := HSM.out; omega) h2 h3 h))
          have HOF := Lib.hid (Of_any (cap := cr) HIB.out.rf HFit.out.len (s : Int))
          have hxl := of_len l (s : Int)
          have hxa := fun k (hk : k < (ofK l (s : Int) l.length).length) => of_at hk
          have hxc := fl_cnt l (s : Int)
          rw [← hxl] at hxc
          have hxm := ofK_len l (s : Int) l.length
          have HXL := Lib.hid hxl
          have HXA := Lib.hid hxa
          have HXC := Lib.hid hxc
          have HXM := Lib.hid (Nat.le_trans hxm HFit.out.len)
          clear hxl hxa hxc hxm
          generalize ofK l (s : Int) l.length = xs at *
          have hxm2 : (xs.length : Int) ≤ 4096 := by have := HXM.out; omega
          gi_wp2_with (first
            | (gi_at_call 15; refine (callsIn_wide.2 HOF.out).mono ?_; rintro e W1 ⟨A, c, rfl, hi, hb1, -⟩; have HIn := Lib.hid hi; have HB1 := Lib.hid hb1; have HIB2 := Lib.hid ((HIB.out.below hb1).below (below_alloc W1 (.cells #[.slice A xs.length c] 22))); clear hi hb1)
            | (gi_at_call 14; refine (callsIn_wide.2 (Blocks_any HIB2.out.pl (s : Int))).mono ?_; rintro e W3 ⟨B5, B3, rfl, hb3, hy3⟩; have HB3 := Lib.hid hb3; have HY3 := Lib.hid hy3; clear hb3 hy3))
          have hx7 : Bx1 W3 W1.heap.size 22 (.slice A xs.length c) := (Bx1.new W1 22 _).below HB3.out
          have c7 := hx7.cell
          have HX7 := Lib.hid hx7
          have HQ := Lib.hid (fun nq => (show Calls Try.prog 26 #[.pointer (some ⟨b, 0, none⟩), .int .i64 (s : Int)] (W3.drewN nq) fun e w' => e = .returned (.int .i64 (xs.length : Int)) ∧ w' = W3.drewN nq from by
            have := Count_any ((HIB2.out.below HB3.out).pl.below (below_drewN W3 nq)) (s : Int)
            rw [HXC.out] at this
            exact this.mono fun e w' ⟨a1, a2⟩ => ⟨a1, a2.symm⟩))
          clear hx7
          refine wpIn_wide.2 ?_
          go_quiet ((go_at_call 26; exact Calls.quiet_of_same (HQ.out _)))
          have hbd := below_drewN W3 nq
          generalize W3.drewN nq = V3 at *
          have hb4 : Below W3.heap.size W3 (V3.alloc (.cells #[.int .i64 0] 3)) := hbd.alloc hbd.size _
          have hq9 : Bx1 (V3.alloc (.cells #[.int .i64 0] 3)) V3.heap.size 3 (.int .i64 0) := Bx1.new V3 3 _
          have hs4 : (V3.alloc (.cells #[.int .i64 0] 3)).heap.size = V3.heap.size + 1 := by rw [World.size_alloc]
          have hl3 := HB3.out.size
          rw [World.size_alloc] at hl3
          have HIB4 := Lib.hid ((HIB2.out.below HB3.out).below hb4)
          have HX74 := Lib.hid (HX7.out.below hb4)
          have HIN4 := Lib.hid (((IntsB.of HIn.out).below ((below_alloc W1 (.cells #[.slice A xs.length c] 22)).trans (HB3.out.mono (by simp)))).below hb4)
          have HY4 := Lib.hid (fun B' => HY3.out (· = V3.heap.size) B' _ hb4 (fun k hk => .inr (by subst hk; rw [hs4]; have := hbd.size; omega)))
          have HQ9 := Lib.hid hq9
          have HW3 := Lib.hid (Nat.le_trans (HIB2.out.below HB3.out).be.size hbd.size)
          have HS4 := Lib.hid (show W1.heap.size + 1 ≤ V3.heap.size from Nat.le_trans hl3 hbd.size)
          have HSZ4 := Lib.hid hs4
          have HDs := Lib.hid (fun D hD => HIB4.out.mks.lt (D := D) hD)
          have HBS := Lib.hid HIB4.out.be.size
          clear hb4 hq9 hs4 hl3 c7 hbd
          gi_wp2
          generalize hW4 : V3.alloc (.cells #[.int .i64 0] 3) = W4 at *
          clear hW4
          refine range_asg (gf := 39) (fun x y t => (((t.setIfInBounds 65 x).setIfInBounds 66 y).setIfInBounds 10 x).setIfInBounds 11 y) rfl (enters_of Try.func39 (by kernel_rfl) rfl) (HY4.out _)
            (fun j W' => IB w base b g cap gr l (.slice (some ⟨gr, 0, none⟩) l.length cr) Ds W' ∧ Bx1 W' W1.heap.size 22 (.slice A xs.length c) ∧ Bx1 W' V3.heap.size 3 (.int .i64 (j : Int)) ∧ IntsB W1.heap.size W' (.slice A xs.length c) xs)
            (fun _ _ _ => False) (fun j X Y row hs hg hr => ⟨own_ib HBS.out HDs.out () X Y row hs.1 hg hr, own_bx _ () X Y row hs.2.1 hg hr, own_bx _ () X Y row hs.2.2.1 hg hr, own_intsB _ () X Y row hs.2.2.2 hg hr⟩) (fun c j X Y row hs _ _ => hs) ⟨HIB4.out, HX74.out, HQ9.out, HIN4.out⟩ ?assign ?body ?done ?stop
          case assign =>
            intro l'' j W' K' hK'
            gi_wp2
            exact hK'
          case body =>
            rintro l'' j hj W' ⟨hib, hx7, hx9, hin⟩
            have hjx : j < xs.length := by rw [HXL.out]; exact hj
            obtain ⟨hil, hist, hie⟩ := fl_mem hj
            have hxa := HXA.out j hjx
            have hFF : KeepsFrom W4.heap.size W' (W'.setCell ⟨V3.heap.size, 0, none⟩ (.int .i64 ((j : Int) + 1))) ∧ Kc (· = V3.heap.size) W' (W'.setCell ⟨V3.heap.size, 0, none⟩ (.int .i64 ((j : Int) + 1))) ∧ IB w base b g cap gr l (.slice (some ⟨gr, 0, none⟩) l.length cr) Ds (W'.setCell ⟨V3.heap.size, 0, none⟩ (.int .i64 ((j : Int) + 1))) ∧ Bx1 (W'.setCell ⟨V3.heap.size, 0, none⟩ (.int .i64 ((j : Int) + 1))) W1.heap.size 22 (.slice A xs.length c) ∧ Bx1 (W'.setCell ⟨V3.heap.size, 0, none⟩ (.int .i64 ((j : Int) + 1))) V3.heap.size 3 (.int .i64 ((j + 1 : Nat) : Int)) ∧ IntsB W1.heap.size (W'.setCell ⟨V3.heap.size, 0, none⟩ (.int .i64 ((j : Int) + 1))) (.slice A xs.length c) xs :=
              have hS := HS4.out
              ⟨(KeepsOthers.setCell _ _ _).from _, Kc.of_chg ((Chg.refl (· = V3.heap.size) W').setCell rfl _), hib.set hx9 HW3.out, (Below.heap_setCell W' _ _ _ (by show W1.heap.size ≠ V3.heap.size; omega)).trans hx7, heap_setCell_same W' V3.heap.size 0 _ 3 _ hx9, hin.set (by omega)⟩
            obtain ⟨A', c', he, hr⟩ := hin
            obtain ⟨gi, oi, hA', hgi, hgi2, hci⟩ := hr (by omega)
            have hAe : A = some ⟨gi, oi, none⟩ := by
              simp only [Value.slice.injEq, true_and] at he
              rw [he.1, hA']
            have cj := hci j hjx
            rw [hxa] at cj
            obtain ⟨r0, r1⟩ := hib.rf.at hil
            rw [← hie] at r1
            have c3' := hib.x3.cell
            have c7' := hx7.cell
            have c9' := hx9.cell
            have f9' := hx9.free
            rw [hAe] at c7'
            have hj4 : (j : Int) < 4096 := by have := HXM.out; omega
            have hjd : decide (xs.length ≤ j) = false := decide_eq_false (by omega)
            have hjd2 : ¬ (xs.length : Int) ≤ (j : Int) := by omega
            have hil2 : flI l (s : Int) j < l.length := hil
            have HFF := Lib.hid hFF
            clear hFF hci he hA' hxa hist hie hib hx7 hx9 r0 hr hAe
            generalize flI l (s : Int) j = fi at *
            generalize flE l (s : Int) j = fe' at *
            gi_wp2
            exact HFF.out
          case done =>
            rintro D W7 hD ⟨hib, hx7, hx9, hin⟩ hd
            have HB7 := Lib.hid (show IB w base b g cap gr l (.slice (some ⟨gr, 0, none⟩) l.length cr) (D :: Ds) W7 from ⟨hib.pl, hib.rf, hib.x3, hib.x4, hib.mks.cons (n1 := W4.heap.size) HBS.out hD HDs.out hd, hib.be⟩)
            have c7' := hx7.cell
            have c9' := hx9.cell
            rw [← HXL.out] at c9'
            clear hib hx7 hx9 hin hd
            gi_wp2
            exact HF0.out _ _ HB7.out _ _ rfl rfl
          case stop =>
            rintro D c j W7 _ _ hf
            exact hf.elim
        · have hs6 : s = 6 := by omega
          subst hs6
          have f18 : Fence.wide.fn 18 := trivial
          have f35 : Fence.wide.fn 35 := trivial
          have f19 : Fence.wide.fn 19 := trivial
          have f36 : Fence.wide.fn 36 := trivial
          have hx4 := HIB.out.x4
          have HC1 := Lib.hid (fun W' (hW : Below W.heap.size W W') => Cold_any (HIB.out.below hW).pl)
          have HC2 := Lib.hid (fun W' (hW : Below W.heap.size W W') => rCold_any (cap := cr) (HIB.out.below hW).rf HFit.out.len)
          have HS1 := Lib.hid (fun W' (hW : Below W.heap.size W W') => Spread_any (HIB.out.below hW).pl)
          have HS2 := Lib.hid (fun W' (hW : Below W.heap.size W W') => rSpread_any (cap := cr) (HIB.out.below hW).rf HFit.out.len)
          have HX := Lib.hid (fun W' (hW : Below W.heap.size W W') => (HIB.out.below hW).x3)
          have HX4' := Lib.hid (fun W' (hW : Below W.heap.size W W') => (HIB.out.below hW).x4)
          generalize lwc l 3 = pc at *
          generalize sprA l = ga at *
          generalize sprB l = gb at *
          clear hx4
          gi_wp2_with (first
            | (gi_at_call 18; refine (callsIn_wide.2 (HC1.out _ (Below.refl _ _))).mono ?_; rintro e W1 ⟨rfl, hb⟩; have HB1 := Lib.hid hb; have c31 := (HX.out _ hb).cell; clear hb)
            | (gi_at_call 35; refine (callsIn_wide.2 (HC2.out _ HB1.out)).mono ?_; rintro e W2 ⟨rfl, hb⟩; have HB2 := Lib.hid (HB1.out.trans (hb.mono HB1.out.size)); clear hb)
            | (gi_at_call 19; refine (callsIn_wide.2 (HS1.out _ HB2.out)).mono ?_; rintro e W3 ⟨rfl, hb⟩; have HB3 := Lib.hid (HB2.out.trans (hb.mono HB2.out.size)); have c33 := (HX.out _ HB3.out).cell; clear hb)
            | (gi_at_call 36; refine (callsIn_wide.2 (HS2.out _ HB3.out)).mono ?_; rintro e W4 ⟨rfl, hb⟩; have HB4 := Lib.hid (HB3.out.trans (hb.mono HB3.out.size)); have c44 := (HX4'.out _ HB4.out).cell; have f44 := (HX4'.out _ HB4.out).free; clear hb))
          exact law_true (q := w.heap.size + 1) (HIB.out.below HB4.out).mks (HIB.out.below HB4.out).be (HIB.out.below HB4.out).x4 (by omega) fun W' h => res13 W' _ _ rfl h
end Go.Proofs.Ytpojgjbgbbnojaa
