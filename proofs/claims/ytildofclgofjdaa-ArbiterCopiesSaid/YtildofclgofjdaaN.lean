/- The contracts of lowest with the rank that next makes, and of next. Conditions stand in each theorem. -/
import Derived.Test.YtildofclgofjdaaK
namespace Go.Proofs.Ytildofclgofjdaa
open Go.RowKit
set_option linter.unusedVariables false
set_option maxHeartbeats 400000
set_option maxRecDepth 100000
/-- The rank of a number, counted in a circle from the one above last. -/
def rk (last q : Int) : Int := (q - last + 65535) % 65536
theorem rank_any (q n last : Int) (B : Nat) (w : World) (hB : B < w.heap.size) (h : w.cell? ⟨B, 0, none⟩ = some (.int .i64 last)) (h1 : 0 ≤ q ∧ q ≤ 65535) (h2 : -1 ≤ last ∧ last ≤ 65535) :
    Calls Try.prog 51 #[.agg #[.int .i64 q, .int .i64 n], .pointer (some ⟨B, 0, none⟩)] w fun e w' => e = .returned (.int .i64 (rk last q)) ∧ Below w.heap.size w w' := by
  obtain ⟨a1, a2⟩ := h1
  obtain ⟨b1, b2⟩ := h2
  have b3 : 0 ≤ q - last + 65535 := by omega
  go_enter Try.func51, Try.ntmps51
  go_wp2
  go_ret
  exact ⟨rfl, (Below.refl _ _).alloc (Nat.le_refl _) _⟩
def lowStep (last : Int) (b x : Int × Int) : Int × Int := if rk last x.1 < rk last b.1 then x else b
def low (last : Int) : List (Int × Int) → Int × Int
  | [] => (0, 0)
  | p :: r => r.foldl (lowStep last) p
theorem low_one (last : Int) (l : List (Int × Int)) (h : 0 < l.length) : low last (l.take (0 + 1)) = l[0] := by
  cases l with
  | nil => cases h
  | cons p r => rfl
theorem low_succ (last : Int) (l : List (Int × Int)) (k : Nat) (h : k < l.length) (h0 : 0 < k) : low last (l.take (k + 1)) = lowStep last (low last (l.take k)) l[k] := by
  rw [List.take_succ_eq_append_getElem h]
  cases l with
  | nil => cases h
  | cons p r =>
    cases k with
    | zero => cases h0
    | succ k =>
      show List.foldl (lowStep last) p (r.take k ++ [(p :: r)[k + 1]]) = lowStep last (List.foldl (lowStep last) p (r.take k)) (p :: r)[k + 1]
      rw [List.foldl_append]
      rfl
/-- w' is w with blocks more. -/
def Bel (w w' : World) : Prop := Below w.heap.size w w'
theorem Bel.refl (w : World) : Bel w w := Below.refl _ _
theorem Bel.drew {w w' : World} (h : Bel w w') : Bel w w'.drew := Below.drew h
theorem Bel.step {w w1 w2 : World} (h : Bel w w1) (h2 : Below w1.heap.size w1 w2) : Bel w w2 := Below.trans h (h2.mono (Below.size h))
theorem rank_in {w : World} {q n last : Int} {B : Nat} (hB : B < w.heap.size) (h : w.cell? ⟨B, 0, none⟩ = some (.int .i64 last)) (h1 : 0 ≤ q ∧ q ≤ 65535) (h2 : -1 ≤ last ∧ last ≤ 65535) (W : World) (hW : Bel w W) :
    Calls Try.prog 51 #[.agg #[.int .i64 q, .int .i64 n], .pointer (some ⟨B, 0, none⟩)] W fun e W' => e = .returned (.int .i64 (rk last q)) ∧ Bel w W' :=
  (rank_any q n last B W (Nat.lt_of_lt_of_le hB (Below.size hW)) ((Below.cell hW (by exact hB)).trans h) h1 h2).mono fun e W' ⟨h1, h2⟩ => ⟨h1, hW.step h2⟩
/-- A block of two cells that hold a load. -/
def Two (w : World) (B : Nat) (p : Int × Int) : Prop := w.heap[B]? = some (.cells #[.int .i64 p.1, .int .i64 p.2] 48 (0, 0))
theorem Two.lt {w : World} {B : Nat} {p : Int × Int} (h : Two w B p) : B < w.heap.size := (Array.getElem?_eq_some_iff.1 h).1
theorem Two.c0 {w : World} {B : Nat} {p : Int × Int} (h : Two w B p) : w.cell? ⟨B, 0, none⟩ = some (.int .i64 p.1) := by rw [cell_of_row w B 0 _ 48 (0, 0) h]; rfl
theorem Two.c1 {w : World} {B : Nat} {p : Int × Int} (h : Two w B p) : w.cell? ⟨B, 1, none⟩ = some (.int .i64 p.2) := by rw [cell_of_row w B 1 _ 48 (0, 0) h]; rfl
theorem Two.free {w : World} {B : Nat} {p : Int × Int} (h : Two w B p) (i : Nat) : w.frozen? ⟨B, i, none⟩ = false := frozen_of_row w B i _ 48 h
theorem Two.below {w w' : World} {B : Nat} {p : Int × Int} (h : Two w B p) (hb : Below w.heap.size w w') : Two w' B p := (hb.block B h.lt).trans h
theorem Two.new (w : World) (q n : Int) : Two (w.alloc (.cells #[.int .i64 q, .int .i64 n] 48)) w.heap.size (q, n) := heap_alloc_new w _
theorem Two.set {w : World} {B : Nat} {p : Int × Int} (h : Two w B p) (q n : Int) : Two ((w.setCell ⟨B, 0, none⟩ (.int .i64 q)).setCell ⟨B, 1, none⟩ (.int .i64 n)) B (q, n) := heap_setCell_same _ B 1 _ 48 _ (heap_setCell_same _ B 0 _ 48 _ h)
theorem chg2 (w : World) (B : Nat) (x y : Value) : Chg (· = B) w ((w.setCell ⟨B, 0, none⟩ x).setCell ⟨B, 1, none⟩ y) := ((Chg.refl (· = B) w).setCell rfl _).setCell rfl _
def LowPost (w : World) (p : Int × Int) (e : Ending) (w' : World) : Prop := e = .returned (.agg #[.int .i64 p.1, .int .i64 p.2]) ∧ Below w.heap.size w w'
def NumsIn (l : List (Int × Int)) : Prop := ∀ p ∈ l, 0 ≤ p.1 ∧ p.1 ≤ 65535
theorem low_mem (last : Int) (l : List (Int × Int)) (h : 0 < l.length) : low last l ∈ l := by
  cases l with
  | nil => cases h
  | cons p r =>
    show r.foldl (lowStep last) p ∈ p :: r
    clear h
    induction r generalizing p with
    | nil => simp
    | cons x r ih =>
      rw [List.foldl_cons]
      have := ih (lowStep last p x)
      unfold lowStep at this ⊢
      split at this <;> rename_i hh
      · rw [if_pos hh]
        rcases List.mem_cons.1 this with e | e
        · rw [e]; simp
        · exact List.mem_cons_of_mem _ (List.mem_cons_of_mem _ e)
      · rw [if_neg hh]
        rcases List.mem_cons.1 this with e | e
        · rw [e]; simp
        · exact List.mem_cons_of_mem _ (List.mem_cons_of_mem _ e)
theorem low_round {w W : World} {x : Int × Int} (h5 : Two W (w.heap.size + 1) x) (h4 : Two W w.heap.size (0, 0)) (hb : Below w.heap.size w W) (q n : Int) :
    Two ((W.setCell ⟨w.heap.size + 1, 0, none⟩ (.int .i64 q)).setCell ⟨w.heap.size + 1, 1, none⟩ (.int .i64 n)) (w.heap.size + 1) (q, n) ∧ Two ((W.setCell ⟨w.heap.size + 1, 0, none⟩ (.int .i64 q)).setCell ⟨w.heap.size + 1, 1, none⟩ (.int .i64 n)) w.heap.size (0, 0) ∧ Below w.heap.size w ((W.setCell ⟨w.heap.size + 1, 0, none⟩ (.int .i64 q)).setCell ⟨w.heap.size + 1, 1, none⟩ (.int .i64 n)) :=
  ⟨h5.set q n, ((chg2 W (w.heap.size + 1) _ _).block _ h4.lt (by simp)).trans h4, hb.trans ((chg2 W (w.heap.size + 1) _ _).below hb.size (fun i hi => by omega))⟩
set_option maxHeartbeats 2000000 in
theorem lowest_any (v : Value) (l : List (Int × Int)) (last : Int) (B : Nat) (w : World) (hl : Lds w v l) (hn : NumsIn l) (hB : B < w.heap.size) (hc : w.cell? ⟨B, 0, none⟩ = some (.int .i64 last)) (h2 : -1 ≤ last ∧ last ≤ 65535) (hm : l.length ≤ 1000000000) :
    Calls Try.prog 50 #[v, .func (.func 51) #[] #[.pointer (some ⟨B, 0, none⟩)]] w (LowPost w (low last l)) := by
  obtain ⟨A, c, rfl, hcc, hr⟩ := hl
  have HR := Lib.hid hr
  have HN := Lib.hid hn
  have HC := Lib.hid hc
  clear hr hn hc
  go_enter Try.func50, Try.ntmps50
  go_wp2
  go_loopw [10] (fun i wr => ∃ (k : Nat), k ≤ l.length ∧ i = .int .i64 k ∧ Hid (Two wr (w.heap.size + 1) (low last (l.take k))) ∧ Hid (Two wr w.heap.size (0, 0)) ∧ Hid (Below w.heap.size w wr)) (fun i _ => l.length - (RowKit.intOf i).toNat)
  case atStart => exact ⟨0, Nat.zero_le _, rfl, by have := Two.new (w.alloc (.cells #[.int .i64 0, .int .i64 0] 48)) 0 0; rw [World.size_alloc] at this; exact this, (Two.new w 0 0).below (below_alloc _ _), ((Below.refl _ _).alloc (Nat.le_refl _) _).alloc (by simp) _⟩
  case round =>
    obtain ⟨k, hk, rfl, HT, HZ, HB⟩ := hrel
    by_cases hlt : k < l.length
    · obtain ⟨g, o, rfl, hg, hcell⟩ := HR.out (by omega)
      have c1 : wr.cell? ⟨g, o + k * 2, none⟩ = some (.int .i64 l[k].1) := (HB.out.cell (by exact hg)).trans (hcell k hlt).1
      have c2 : wr.cell? ⟨g, o + k * 2 + 1, none⟩ = some (.int .i64 l[k].2) := (HB.out.cell (by exact hg)).trans (hcell k hlt).2
      have hnum := HN.out _ (List.getElem_mem hlt)
      have HS := Lib.hid (low_succ last l k hlt)
      have HO := Lib.hid (fun h0 : k = 0 => show low last (l.take (k + 1)) = l[k] by subst h0; exact low_one last l hlt)
      have HM := Lib.hid (fun h0 : 0 < k => HN.out _ (List.mem_of_mem_take (low_mem last (l.take k) (by rw [List.length_take]; omega))))
      generalize low last (l.take k) = bp at *
      generalize l[k] = p at *
      obtain ⟨q, n⟩ := p
      obtain ⟨bq, bn⟩ := bp
      simp only at c1 c2 hnum
      clear hcell
      have hz : w.heap.size + 1 < wr.heap.size := HT.out.lt
      have j0 : (wr.alloc (.cells #[.int .i64 q, .int .i64 n] 48)).cell? ⟨w.heap.size + 1, 0, none⟩ = some (.int .i64 bq) := (HT.out.below (below_alloc _ _)).c0
      have j1 : (wr.alloc (.cells #[.int .i64 q, .int .i64 n] 48)).cell? ⟨w.heap.size + 1, 1, none⟩ = some (.int .i64 bn) := (HT.out.below (below_alloc _ _)).c1
      have jf := (HT.out.below (below_alloc wr (.cells #[.int .i64 q, .int .i64 n] 48))).free
      by_cases h0 : k = 0
      · have HO2 := Lib.hid (HO.out h0)
        subst h0
        rw [show o + 0 * 2 = o by omega] at c1 c2
        clear HO HS HM
        go_wp2
        go_quiet (fail)
        go_wp2
        go_roundw
        case rel =>
          obtain ⟨r1, r2, r3⟩ := low_round (w := w) (W := (wr.alloc (.cells #[.int .i64 q, .int .i64 n] 48)).drewN nq) (x := (bq, bn)) (show Two (wr.alloc (.cells #[.int .i64 q, .int .i64 n] 48)) _ _ from HT.out.below (below_alloc _ _)) (show Two (wr.alloc (.cells #[.int .i64 q, .int .i64 n] 48)) _ _ from HZ.out.below (below_alloc _ _)) ((HB.out.alloc HB.out.size _).trans ⟨rfl, rfl, rfl, Nat.le_refl _, fun _ _ => rfl⟩) q n
          have e := HO2.out
          rw [← e] at r1
          exact ⟨1, by omega, rfl, r1, r2, r3⟩
        case measure => simp [RowKit.intOf]; omega
      · have HS2 := Lib.hid (HS.out (by omega))
        have hbn := HM.out (by omega)
        have e0 : (((k : Nat) : Int) == 0) = false := by simp; omega
        have HBL : Hid (∀ W, Bel (wr.alloc (.cells #[.int .i64 q, .int .i64 n] 48)) W → (W.cell? ⟨wr.heap.size, 0, none⟩ = some (.int .i64 q) ∧ W.cell? ⟨wr.heap.size, 1, none⟩ = some (.int .i64 n) ∧ W.cell? ⟨w.heap.size + 1, 0, none⟩ = some (.int .i64 bq) ∧ W.cell? ⟨w.heap.size + 1, 1, none⟩ = some (.int .i64 bn) ∧ Bel (wr.alloc (.cells #[.int .i64 q, .int .i64 n] 48)) W)) := fun W hW => by
          have t7 := (Two.new wr q n).below hW
          have t5 := (HT.out.below (below_alloc wr (.cells #[.int .i64 q, .int .i64 n] 48))).below hW
          exact ⟨t7.c0, t7.c1, t5.c0, t5.c1, hW⟩
        have hBw : B < (wr.alloc (.cells #[.int .i64 q, .int .i64 n] 48)).heap.size := by simp; omega
        have hCw : (wr.alloc (.cells #[.int .i64 q, .int .i64 n] 48)).cell? ⟨B, 0, none⟩ = some (.int .i64 last) := ((HB.out.alloc HB.out.size _).cell (by exact hB)).trans HC.out
        have R1 := Lib.hid (rank_in (n := n) hBw hCw hnum h2)
        have R2 := Lib.hid (rank_in (n := bn) hBw hCw hbn h2)
        have hlw : decide (rk last q < rk last bq) = decide (rk last q < rk last bq) := rfl
        clear HO HS HM hBw hCw hlw hnum hbn h2
        generalize hra : rk last q = ra at *
        generalize hrb : rk last bq = rb at *
        have HRA := Lib.hid hra
        have HRB := Lib.hid hrb
        clear hra hrb
        go_wp2
        go_region_held3 (fun W => W.cell? ⟨wr.heap.size, 0, none⟩ = some (.int .i64 q) ∧ W.cell? ⟨wr.heap.size, 1, none⟩ = some (.int .i64 n) ∧ W.cell? ⟨w.heap.size + 1, 0, none⟩ = some (.int .i64 bq) ∧ W.cell? ⟨w.heap.size + 1, 1, none⟩ = some (.int .i64 bn) ∧ Bel (wr.alloc (.cells #[.int .i64 q, .int .i64 n] 48)) W)
          (first | exact HBL.out _ (by assumption) | exact HBL.out _ (Bel.refl _).drew | exact HBL.out _ (Bel.refl _))
          (first
            | ((go_at_call 51; with_reducible refine (R1.out _ (by first | assumption | exact (Bel.refl _).drew)).mono ?_); rintro e w' ⟨rfl, hw'⟩)
            | ((go_at_call 51; with_reducible refine (R2.out _ (by first | assumption | exact (Bel.refl _).drew)).mono ?_); rintro e w' ⟨rfl, hw'⟩))
        have HW := Lib.hid hw'
        obtain ⟨g0, g1, g2, g3, _⟩ := HBL.out _ hw'
        have gf := ((HT.out.below (below_alloc wr (.cells #[.int .i64 q, .int .i64 n] 48))).below HW.out).free
        clear hw'
        by_cases hrr : ra < rb
        · go_wp2
          go_roundw
          case rel =>
            obtain ⟨r1, r2, r3⟩ := low_round (w := w) (W := w') (x := (bq, bn)) ((HT.out.below (below_alloc wr (.cells #[.int .i64 q, .int .i64 n] 48))).below HW.out) ((HZ.out.below (below_alloc wr (.cells #[.int .i64 q, .int .i64 n] 48))).below HW.out) ((HB.out.alloc HB.out.size (.cells #[.int .i64 q, .int .i64 n] 48)).trans (Below.mono HW.out (by have := HB.out.size; simp; omega))) q n
            have e := HS2.out
            unfold lowStep at e
            rw [if_pos (by rw [HRA.out, HRB.out]; exact hrr)] at e
            rw [← e] at r1
            exact ⟨k + 1, by omega, by go_num, r1, r2, r3⟩
          case measure => simp [RowKit.intOf]; omega
        · go_wp2
          go_roundw
          case rel =>
            have r1 := (HT.out.below (below_alloc wr (.cells #[.int .i64 q, .int .i64 n] 48))).below HW.out
            have e := HS2.out
            unfold lowStep at e
            rw [if_neg (by rw [HRA.out, HRB.out]; exact hrr)] at e
            rw [← e] at r1
            exact ⟨k + 1, by omega, by go_num, r1, (HZ.out.below (below_alloc wr (.cells #[.int .i64 q, .int .i64 n] 48))).below HW.out, (HB.out.alloc HB.out.size (.cells #[.int .i64 q, .int .i64 n] 48)).trans (Below.mono HW.out (by have := HB.out.size; simp; omega))⟩
          case measure => simp [RowKit.intOf]; omega
    · have hkl : k = l.length := by omega
      subst hkl
      have hT := HT.out
      rw [List.take_length] at hT
      have a0 := hT.c0
      have a1 := hT.c1
      have z0 := HZ.out.c0
      have z1 := HZ.out.c1
      have zf := HZ.out.free
      clear hT
      generalize low last l = p at *
      obtain ⟨q, n⟩ := p
      go_wp2
      exact bodyPost_ret (v := .agg #[.int .i64 q, .int .i64 n]) (by simp [results, Try.results50, go_sem, z0, z1]) rfl ⟨rfl, HB.out.trans ((chg2 wr w.heap.size _ _).below HB.out.size (fun i hi => by omega))⟩
def NxPost (w : World) (p : Int × Int) (e : Ending) (w' : World) : Prop := e = .returned (.agg #[.int .i64 p.1, .int .i64 p.2]) ∧ Below w.heap.size w w'
set_option maxHeartbeats 1000000 in
theorem next_any (b m k : Nat) (s : St) (v : Value) (l : List (Int × Int)) (w : World) (h : Arb w b m s) (hk : k < 4) (hl : Lds w v l) (hn : NumsIn l) (h2 : -1 ≤ s.last k ∧ s.last k ≤ 65535) (hm : l.length ≤ 1000000000) :
    Calls Try.prog 37 #[.pointer (some ⟨b, 0, none⟩), .int .i64 (k : Nat), v] w (NxPost w (low (s.last k) l)) := by
  have k2 := h.cLast k hk
  have hki : ((k : Nat) : Int) < 4 := by omega
  have hlt := h.lt
  have HL := Lib.hid (fun (W : World) (hW : Below w.heap.size w W) (B : Nat) hB hc => lowest_any v l (s.last k) B W (hl.below hW) hn hB hc h2 hm)
  clear h hl hn h2
  generalize low (s.last k) l = p at *
  obtain ⟨q, n⟩ := p
  generalize s.last k = la at *
  go_enter Try.func37, Try.ntmps37
  go_wp2_with ((go_at_call 50; with_reducible refine (HL.out _ (((Below.refl _ w).alloc (Nat.le_refl _) (.cells #[.int .i64 0, .int .i64 0] 48)).alloc (by simp) (.cells #[.int .i64 la] 3)) (w.heap.size + 1) (by simp) (by simp)).mono ?_); rintro e w' ⟨rfl, hw'⟩; have T4 := Lib.hid (((Two.new w 0 0).below (below_alloc _ (.cells #[.int .i64 la] 3))).below hw'); have z0 := T4.out.c0; have z1 := T4.out.c1; have zf := T4.out.free; have HW := Lib.hid ((((Below.refl w.heap.size w).alloc (Nat.le_refl _) (.cells #[.int .i64 0, .int .i64 0] 48)).alloc (by simp) (.cells #[.int .i64 la] 3)).trans (hw'.mono (by simp; omega))); clear hw')
  exact bodyPost_ret (v := .agg #[.int .i64 q, .int .i64 n]) (by simp [results, Try.results37, go_sem, z0, z1]) rfl ⟨rfl, HW.out.trans ((chg2 w' w.heap.size _ _).below HW.out.size (fun i hi => by omega))⟩
end Go.Proofs.Ytildofclgofjdaa
