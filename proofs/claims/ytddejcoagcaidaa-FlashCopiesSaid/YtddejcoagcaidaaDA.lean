/- The reference's device in memory; its Exists, State, Next, fails. Conditions stand in each theorem. -/
import Derived.Test.YtddejcoagcaidaaB
import Derived.Test.YtddejcoagcaidaaCQ
import Derived.Deep.Cut
import Derived.Deep.CutBlock
import Derived.Deep.DeepCutAuto
import Derived.BigRegion
import Derived.Laws.Rows
import Derived.Deep.LoopGhost
namespace Go.Proofs.Ytddejcoagcaidaa
open Go.RowKit
set_option linter.unusedVariables false
set_option maxHeartbeats 4000000
set_option maxRecDepth 100000
/-- The page of a device at a place. -/
def pgF (s : Dev) (i j : Nat) : Pg := ((s.bk i).pg[j]?).getD ⟨1, [], []⟩
/-- Rows of bytes, of numbers, of rows of pages and of pages stay. -/
def KT (w w' : World) : Prop := w.heap.size ≤ w'.heap.size ∧ ∀ (k : Nat) (cur : Array Value) (ty : TypeId) (fr : Nat × Nat), w.heap[k]? = some (Obj.cells cur ty fr) → (ty = 5 ∨ ty = 3 ∨ ty = 76 ∨ ty = 107) → w'.heap[k]? = some (Obj.cells cur ty fr)
theorem KT.refl (w : World) : KT w w := ⟨Nat.le_refl _, fun _ _ _ _ h _ => h⟩
theorem KT.trans {a b c : World} (h : KT a b) (k : KT b c) : KT a c := ⟨Nat.le_trans h.1 k.1, fun i cur ty fr hi ht => k.2 i cur ty fr (h.2 i cur ty fr hi ht) ht⟩
theorem KT.below {w w' : World} (h : Below w.heap.size w w') : KT w w' := ⟨h.size, fun i cur ty fr hi _ => (h.block i (Array.getElem?_eq_some_iff.1 hi).1).trans hi⟩
theorem KT.byt {lb : Nat} {w w' : World} (h : KT w w') {v : Value} {l : List UInt8} (hb : BytT lb w v l) : BytT lb w' v l := by
  obtain ⟨⟨A, c, rfl, hl, hr⟩, ht⟩ := hb
  refine ⟨⟨A, c, rfl, hl, fun hn => ?_⟩, fun hn b e => ?_⟩
  · obtain ⟨g, o, rfl, hg, hc⟩ := hr hn
    obtain ⟨hlb, cs, fr, e⟩ := ht hn g rfl
    refine ⟨g, o, rfl, Nat.lt_of_lt_of_le hg h.1, fun j hj => ?_⟩
    rw [← hc j hj]
    exact World.cell?_of_block (w := w) ((h.2 g cs 5 fr e (.inl rfl)).trans e.symm)
  · obtain ⟨hlb, cs, fr, e2⟩ := ht hn b e
    exact ⟨hlb, cs, fr, h.2 b cs 5 fr e2 (.inl rfl)⟩
/-- A slice that reads as numbers, in a row of its own. -/
def IntL (w : World) (v : Value) (l : List Int) : Prop := ∃ A c, v = .slice A l.length c ∧ l.length ≤ c ∧ (0 < l.length → ∃ g cur, A = some ⟨g, 0, none⟩ ∧ w.heap[g]? = some (.cells cur 3 (0, 0)) ∧ ∀ j (h : j < l.length), cur[j]? = some (.int .i64 l[j]))
/-- A slice that reads as pages. -/
def PrR (lb : Nat) (w : World) (v : Value) (n : Nat) (f : Nat → Pg) : Prop := ∃ g c cur, v = .slice (some ⟨g, 0, none⟩) n c ∧ n ≤ c ∧ w.heap[g]? = some (.cells cur 107 (0, 0)) ∧ ∀ j, j < n → cur[j * 2]? = some (.int .i64 (f j).st) ∧ ∃ bv, cur[j * 2 + 1]? = some bv ∧ (((f j).st = 2 ∨ (f j).st = 3) → BytT lb w bv ((f j).d ++ (f j).s)) ∧ bv.oneCell' = true
/-- A slice that reads as rows of pages. -/
def GrR (lb : Nat) (w : World) (v : Value) (n np : Nat) (F : Nat → Nat → Pg) : Prop := ∃ g c cur, v = .slice (some ⟨g, 0, none⟩) n c ∧ n ≤ c ∧ w.heap[g]? = some (.cells cur 76 (0, 0)) ∧ ∀ i, i < n → ∃ pv, cur[i]? = some pv ∧ PrR lb w pv np (F i)
theorem IntL.kt {w w' : World} (k : KT w w') {v : Value} {l : List Int} (h : IntL w v l) : IntL w' v l := by
  obtain ⟨A, c, rfl, hc, hr⟩ := h
  refine ⟨A, c, rfl, hc, fun hn => ?_⟩
  obtain ⟨g, cur, e, h1, h2⟩ := hr hn
  exact ⟨g, cur, e, k.2 _ _ _ _ h1 (.inr (.inl rfl)), h2⟩
theorem PrR.kt {lb : Nat} {w w' : World} (k : KT w w') {v : Value} {n : Nat} {f : Nat → Pg} (h : PrR lb w v n f) : PrR lb w' v n f := by
  obtain ⟨g, c, cur, e, hc, h1, h2⟩ := h
  refine ⟨g, c, cur, e, hc, k.2 _ _ _ _ h1 (.inr (.inr (.inr rfl))), fun j hj => ?_⟩
  obtain ⟨h3, bv, h4, h5, h6⟩ := h2 j hj
  exact ⟨h3, bv, h4, fun ht => k.byt (h5 ht), h6⟩
theorem GrR.kt {lb : Nat} {w w' : World} (k : KT w w') {v : Value} {n np : Nat} {F : Nat → Nat → Pg} (h : GrR lb w v n np F) : GrR lb w' v n np F := by
  obtain ⟨g, c, cur, e, hc, h1, h2⟩ := h
  refine ⟨g, c, cur, e, hc, k.2 _ _ _ _ h1 (.inr (.inr (.inl rfl))), fun i hi => ?_⟩
  obtain ⟨pv, h3, h4⟩ := h2 i hi
  exact ⟨pv, h3, h4.kt k⟩
/-- The value of the reference's device. -/
abbrev rdv (s : Dev) (vf vp ve : Value) (pb : Int) : Array Value := #[.int .i64 (s.nb : Int), .int .i64 (s.np : Int), .int .i64 (s.sz : Int), .int .i64 s.en, vf, vp, ve, .int .i64 s.n, .int .i64 s.po, .int .i64 pb, .bool s.off]
/-- What the reference's device reads as. -/
structure Rd (w : World) (fs : List Int) (s : Dev) (vf vp ve : Value) (pb : Int) : Prop where
  flt : IntL w vf fs
  mem : ∀ q, s.F.contains q = fs.contains q
  grid : GrR s.lo w vp s.nb s.np (pgF s)
  ers : IntL w ve ((List.range s.nb).map fun i => (s.bk i).er)
  cut : 0 ≤ s.po → pb = s.pb
  pb0 : 0 ≤ pb ∧ pb ≤ (s.sz : Int) + 64
theorem Rd.kt {w w' : World} (k : KT w w') {fs : List Int} {s : Dev} {vf vp ve : Value} {pb : Int} (h : Rd w fs s vf vp ve pb) : Rd w' fs s vf vp ve pb :=
  ⟨h.flt.kt k, h.mem, h.grid.kt k, h.ers.kt k, h.cut, h.pb0⟩
theorem Rd.below {w w' : World} (k : Below w.heap.size w w') {fs : List Int} {s : Dev} {vf vp ve : Value} {pb : Int} (h : Rd w fs s vf vp ve pb) : Rd w' fs s vf vp ve pb := h.kt (KT.below k)
/-- The box of a device. -/
theorem box11 {W W' : World} {g : Nat} {a0 a1 a2 a3 a4 a5 a6 a7 a8 a9 a10 : Value} (h : W.heap[g]? = some (.cells #[a0, a1, a2, a3, a4, a5, a6, a7, a8, a9, a10] 35 (0, 0))) (hb : Below W.heap.size W W') :
    W'.cell? ⟨g, 0, none⟩ = some a0 ∧ W'.cell? ⟨g, 1, none⟩ = some a1 ∧ W'.cell? ⟨g, 2, none⟩ = some a2 ∧ W'.cell? ⟨g, 3, none⟩ = some a3 ∧ W'.cell? ⟨g, 4, none⟩ = some a4 ∧ W'.cell? ⟨g, 5, none⟩ = some a5 ∧ W'.cell? ⟨g, 6, none⟩ = some a6 ∧ W'.cell? ⟨g, 7, none⟩ = some a7 ∧ W'.cell? ⟨g, 8, none⟩ = some a8 ∧ W'.cell? ⟨g, 9, none⟩ = some a9 ∧ W'.cell? ⟨g, 10, none⟩ = some a10 := by
  have h2 := (hb.block g (Array.getElem?_eq_some_iff.1 h).1).trans h
  exact ⟨cell_of_row _ g 0 _ _ _ h2, cell_of_row _ g 1 _ _ _ h2, cell_of_row _ g 2 _ _ _ h2, cell_of_row _ g 3 _ _ _ h2, cell_of_row _ g 4 _ _ _ h2, cell_of_row _ g 5 _ _ _ h2, cell_of_row _ g 6 _ _ _ h2, cell_of_row _ g 7 _ _ _ h2, cell_of_row _ g 8 _ _ _ h2, cell_of_row _ g 9 _ _ _ h2, cell_of_row _ g 10 _ _ _ h2⟩
theorem balloc (w : World) (o : Obj) : Below w.heap.size w (w.alloc o) := (Below.refl _ _).alloc (Nat.le_refl _) _
/-- What a call leaves that only makes memory. -/
def RetB (w : World) (v : Value) (e : Ending) (w' : World) : Prop := e = .returned v ∧ Below w.heap.size w w'
theorem hasB_iff (s : Dev) (q : Int) : s.hasB q = decide (0 ≤ q ∧ q < (s.nb : Int)) := by
  unfold Dev.hasB wiB
  exact decide_eq_decide.2 (by omega)
theorem rExists_any (s : Dev) (vf ve : Value) (A : Option Addr) (c : Nat) (pb q : Int) (w : World) : Calls Try.prog 40 #[.agg (rdv s vf (.slice A s.nb c) ve pb), .int .i64 q] w (RetB w (.bool (s.hasB q))) := by
  rw [hasB_iff]
  obtain ⟨nb, np, sz, en, bk, F, po, pb', n, off, lo⟩ := s
  simp only [rdv]
  by_cases h0 : 0 ≤ q <;> by_cases h1 : q < (nb : Int)
  all_goals
    go_enter Try.func40, Try.ntmps40
    go_wp2
    go_ret
    exact ⟨by simp [h0, h1], balloc w _⟩
theorem stt_none {s : Dev} {q p : Int} (h : s.hasP q p = false) : s.stt q p = 0 := if_pos h
theorem stt_pgF {s : Dev} {q p : Int} (h : s.hasP q p = true) : s.stt q p = (pgF s q.toNat p.toNat).st := by
  unfold Dev.stt pgF
  rw [if_neg (by rw [h]; decide)]
  cases (s.bk q.toNat).pg[p.toNat]? <;> rfl
theorem hasP_iff (s : Dev) (q p : Int) : s.hasP q p = (s.hasB q && decide (0 ≤ p ∧ p < (s.np : Int))) := by
  unfold Dev.hasP wiB
  congr 1
  exact decide_eq_decide.2 (by omega)
theorem rState_any {w : World} {fs : List Int} {s : Dev} {vf vp ve : Value} {pb : Int} (h : Rd w fs s vf vp ve pb) (hg : Gd s) (q p : Int) : Calls Try.prog 42 #[.agg (rdv s vf vp ve pb), .int .i64 q, .int .i64 p] w (RetB w (.int .i64 (s.stt q p))) := by
  obtain ⟨g, c, cur, rfl, hc, hh, hrow⟩ := h.grid
  have HE := Lib.hid (fun W => rExists_any s vf ve (some ⟨g, 0, none⟩) c pb q W)
  have HN := Lib.hid (fun (e : s.hasP q p = false) => stt_none e)
  have HV := Lib.hid (fun (e : s.hasP q p = true) => stt_pgF e)
  have hpi := hasP_iff s q p
  have hqi := hasB_iff s q
  obtain ⟨R, hR⟩ : ∃ R, R = s.stt q p := ⟨_, rfl⟩
  rw [← hR] at HN HV ⊢
  clear hR
  simp only [rdv] at HE ⊢
  have hnp := hg.np
  have hnb := hg.nb
  have e1 : (s.np : Int) ≤ 512 := by omega
  have e2 : (s.nb : Int) ≤ 4096 := by omega
  have HQ := Lib.hid hqi
  have HP := Lib.hid hpi
  have HRW := Lib.hid hrow
  have HH := Lib.hid hh
  have hg1 := (Array.getElem?_eq_some_iff.1 hh).1
  clear h hg hnp hnb hqi hpi hrow hh
  obtain ⟨W1, hW1⟩ : ∃ W1, W1 = w.alloc (.cells #[.int .i64 (s.nb : Int), .int .i64 (s.np : Int), .int .i64 (s.sz : Int), .int .i64 s.en, vf, .slice (some ⟨g, 0, none⟩) s.nb c, ve, .int .i64 s.n, .int .i64 s.po, .int .i64 pb, .bool s.off] 35) := ⟨_, rfl⟩
  have hbw : Below w.heap.size w W1 := by rw [hW1]; exact balloc w _
  have hbx : W1.heap[w.heap.size]? = some (.cells #[.int .i64 (s.nb : Int), .int .i64 (s.np : Int), .int .i64 (s.sz : Int), .int .i64 s.en, vf, .slice (some ⟨g, 0, none⟩) s.nb c, ve, .int .i64 s.n, .int .i64 s.po, .int .i64 pb, .bool s.off] 35 (0, 0)) := by rw [hW1]; exact heap_alloc_new w _
  have HX := Lib.hid (fun W' (hb : Below W1.heap.size W1 W') => box11 hbx hb)
  obtain ⟨x0, x1, x2, x3, x4, x5, x6, x7, x8, x9, x10⟩ := HX.out W1 (Below.refl _ _)
  have HBW := Lib.hid hbw
  have HW := Lib.hid hW1
  clear hW1 hbw hbx
  cases hq : s.hasB q with
  | false =>
    have HR0 := Lib.hid (HN.out (by rw [HP.out, hq]; rfl))
    rw [hq] at HE
    clear hq
    go_enter Try.func42, Try.ntmps42
    go_upto_region 1 with fail
    rw [← HW.out]
    go_wp2_with ((go_at_call 40; with_reducible refine (HE.out _).mono ?_); rintro e w2 ⟨rfl, hb⟩; obtain ⟨y0, y1, y2, y3, y4, y5, y6, y7, y8, y9, y10⟩ := HX.out _ hb; have HB2 := Lib.hid hb; clear hb)
    go_ret
    exact ⟨by rw [HR0.out]; rfl, HBW.out.trans (HB2.out.mono HBW.out.size)⟩
  | true =>
    rw [hq] at HE
    have hq2 := HQ.out
    rw [hq] at hq2
    have hq3 := of_decide_eq_true hq2.symm
    obtain ⟨q0, q1⟩ := hq3
    clear hq2
    obtain ⟨i, rfl⟩ : ∃ i : Nat, q = (i : Int) := ⟨q.toNat, by omega⟩
    by_cases p0 : 0 ≤ p
    case neg =>
      have HR0 := Lib.hid (HN.out (by rw [HP.out, decide_eq_false (fun e => p0 e.1)]; simp))
      clear hq HV
      go_enter Try.func42, Try.ntmps42
      go_upto_region 1 with fail
      rw [← HW.out]
      go_wp2_with ((go_at_call 40; with_reducible refine (HE.out _).mono ?_); rintro e w2 ⟨rfl, hb⟩; obtain ⟨y0, y1, y2, y3, y4, y5, y6, y7, y8, y9, y10⟩ := HX.out _ hb; have HB2 := Lib.hid hb; clear hb)
      go_ret
      exact ⟨by rw [HR0.out]; rfl, HBW.out.trans (HB2.out.mono HBW.out.size)⟩
    by_cases p1 : p < (s.np : Int)
    case neg =>
      have HR0 := Lib.hid (HN.out (by rw [HP.out, decide_eq_false (fun e => p1 e.2)]; simp))
      clear hq HV
      go_enter Try.func42, Try.ntmps42
      go_upto_region 1 with fail
      rw [← HW.out]
      go_wp2_with ((go_at_call 40; with_reducible refine (HE.out _).mono ?_); rintro e w2 ⟨rfl, hb⟩; obtain ⟨y0, y1, y2, y3, y4, y5, y6, y7, y8, y9, y10⟩ := HX.out _ hb; have HB2 := Lib.hid hb; clear hb)
      go_ret
      exact ⟨by rw [HR0.out]; rfl, HBW.out.trans (HB2.out.mono HBW.out.size)⟩
    obtain ⟨j, rfl⟩ : ∃ j : Nat, p = (j : Int) := ⟨p.toNat, by omega⟩
    have hR := HV.out (by rw [HP.out, hq, decide_eq_true (show 0 ≤ (j : Int) ∧ (j : Int) < (s.np : Int) from ⟨p0, p1⟩)]; rfl)
    simp only [Int.toNat_natCast] at hR
    obtain ⟨pv, hpv, g2, c2, cur2, rfl, hc2, hh2, hrow2⟩ := HRW.out i (by omega)
    have hst := (hrow2 j (by omega)).1
    rw [← hR] at hst
    have hg2 := (Array.getElem?_eq_some_iff.1 hh2).1
    have HC := Lib.hid (fun W' (hb : Below w.heap.size w W') => And.intro ((hb.cell (p := ⟨g, i, none⟩) hg1).trans ((cell_of_row _ _ i _ _ _ HH.out).trans hpv)) ((hb.cell (p := ⟨g2, j * 2, none⟩) hg2).trans ((cell_of_row _ _ (j * 2) _ _ _ hh2).trans hst)))
    clear hq HV HN hR hpv hc2 hh2 hrow2 hst hg2 HRW HH
    go_enter Try.func42, Try.ntmps42
    go_upto_region 1 with fail
    rw [← HW.out]
    go_upto_region 3 with ((go_at_call 40; with_reducible refine (HE.out _).mono ?_); rintro e w2 ⟨rfl, hb⟩; obtain ⟨y0, y1, y2, y3, y4, y5, y6, y7, y8, y9, y10⟩ := HX.out _ hb; have HB2 := Lib.hid hb; clear hb)
    obtain ⟨z1, z2⟩ := HC.out _ (HBW.out.trans (HB2.out.mono HBW.out.size))
    go_wp2
    go_ret
    exact ⟨rfl, HBW.out.trans (HB2.out.mono HBW.out.size)⟩
end Go.Proofs.Ytddejcoagcaidaa
