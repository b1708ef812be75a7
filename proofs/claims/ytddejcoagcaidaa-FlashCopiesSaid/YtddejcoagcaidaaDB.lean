/- The reference's Restart, Pend, Next, fails. Conditions stand in each theorem. -/
import Derived.Test.YtddejcoagcaidaaDA
import Derived.Test.YtddejcoagcaidaaO
namespace Go.Proofs.Ytddejcoagcaidaa
open Go.RowKit
set_option linter.unusedVariables false
set_option maxHeartbeats 8000000
set_option maxRecDepth 100000
theorem results_row1 {P : Program} {fn : Func} {a b : Tmp} {ty : TypeId} (h : fn.results = #[.cell a ty, .tmp b]) (tmps : Array Value) (w : World) (g : Nat) (t : TypeId) (cs : Array Value) (fr : Nat × Nat) (d : TypeDesc) (ha : tmps.getD a undef = .pointer (some ⟨g, 0, none⟩)) (hg : w.heap[g]? = some (.cells cs t fr))
    (hu : P.underlying ty = some d) (hd : (match d with | .struct _ | .array _ _ => true | _ => false) = true) (hi : (P.info? ty).map (·.size) = some cs.size) : (results fn tmps).run P w = .ok (.tuple #[.agg cs, tmps.getD b undef]) w := by
  have e := run_loadVar_row (P := P) w g t ty cs fr d hg hu hd hi
  have ha2 : tmps[a]?.getD undef = .pointer (some ⟨g, 0, none⟩) := by simpa using ha
  simp [results, h, ha2, asAddr, e]
theorem info35 : (Try.prog.info? 35).map (·.size) = some 11 := by kernel_rfl
/-- What a call of the reference leaves: a device and an error. -/
def RvPost (w : World) (fs : List Int) (s' : Dev) (k : Int) (e : Ending) (w' : World) : Prop := ∃ vf vp ve pb, e = .returned (.tuple #[.agg (rdv s' vf vp ve pb), .int .i64 k]) ∧ Rd w' fs s' vf vp ve pb ∧ Below w.heap.size w w'
def Rd1Post (w : World) (fs : List Int) (s' : Dev) (e : Ending) (w' : World) : Prop := ∃ vf vp ve pb, e = .returned (.agg (rdv s' vf vp ve pb)) ∧ Rd w' fs s' vf vp ve pb ∧ Below w.heap.size w w'
theorem Rd.ctl {w : World} {fs : List Int} {s : Dev} {vf vp ve : Value} {pb : Int} (h : Rd w fs s vf vp ve pb) (po pb' n : Int) (off : Bool) (pb2 : Int) (h1 : 0 ≤ po → pb2 = pb') (h2 : 0 ≤ pb2 ∧ pb2 ≤ (s.sz : Int) + 64) : Rd w fs (s.ctl po pb' n off) vf vp ve pb2 :=
  ⟨h.flt, h.mem, h.grid, h.ers, h1, h2⟩
theorem Rd.forms {w : World} {fs : List Int} {s : Dev} {vf vp ve : Value} {pb : Int} (h : Rd w fs s vf vp ve pb) : (∃ A n c, vf = .slice A n c) ∧ (∃ A n c, vp = .slice A n c) ∧ (∃ A n c, ve = .slice A n c) := by
  obtain ⟨A, c, e1, _⟩ := h.flt
  obtain ⟨A2, c2, e2, _⟩ := h.ers
  obtain ⟨g, c3, cur, e3, _⟩ := h.grid
  exact ⟨⟨_, _, _, e1⟩, ⟨_, _, _, e3⟩, ⟨_, _, _, e2⟩⟩
theorem rRestart_any {w : World} {fs : List Int} {s : Dev} {vf vp ve : Value} {pb : Int} (h : Rd w fs s vf vp ve pb) : Calls Try.prog 39 #[.agg (rdv s vf vp ve pb)] w (Rd1Post w fs (s.ctl (-1) 0 s.n false)) := by
  have FIN := Lib.hid (fun W (hb : Below w.heap.size w W) => (show Rd1Post w fs (s.ctl (-1) 0 s.n false) (.returned (.agg (rdv (s.ctl (-1) 0 s.n false) vf vp ve pb))) W from ⟨vf, vp, ve, pb, rfl, (h.below hb).ctl (-1) 0 s.n false pb (fun h => absurd h (by decide)) h.pb0, hb⟩))
  obtain ⟨⟨A1, n1, c1, rfl⟩, ⟨A2, n2, c2, rfl⟩, ⟨A3, n3, c3, rfl⟩⟩ := h.forms
  clear h
  obtain ⟨nb, np, sz, en, bk, F, po, pb', n, off, lo⟩ := s
  simp only [rdv, Dev.ctl] at FIN ⊢
  go_enter Try.func39, Try.ntmps39
  go_wp2
  refine bodyPost_ret (results_cell_row rfl _ _ (w.heap.size + 1) 35 #[.int .i64 (nb : Int), .int .i64 (np : Int), .int .i64 (sz : Int), .int .i64 en, .slice A1 n1 c1, .slice A2 n2 c2, .slice A3 n3 c3, .int .i64 n, .int .i64 (-1), .int .i64 pb, .bool false] (0, 0) _ rfl (heap_alloc2_new w _ _) Try.underlying35 rfl info35) rfl (FIN.out _ ((balloc w _).alloc (by simp) _))
theorem cu_bad {s : Dev} {o n : Int} (h : o < s.n ∨ n < 0 ∨ (s.sz : Int) + 64 < n) : s.cuE o n = 2 ∧ s.cuS o n = s := by
  have e : s.cuB o n = false := by
    unfold Dev.cuB wiB
    rcases h with h | h | h
    · rw [decide_eq_false (show ¬ s.n ≤ o by omega)]; rfl
    · rw [decide_eq_false (show ¬ (0 ≤ n ∧ n ≤ (s.sz : Int) + 64) by omega)]; simp
    · rw [decide_eq_false (show ¬ (0 ≤ n ∧ n ≤ (s.sz : Int) + 64) by omega)]; simp
  exact ⟨if_pos e, if_neg (by rw [e]; simp)⟩
theorem cu_good {s : Dev} {o n : Int} (h0 : s.n ≤ o) (h1 : 0 ≤ n) (h2 : n ≤ (s.sz : Int) + 64) : s.cuE o n = (if s.off = true then 50 else 0) ∧ s.cuS o n = (if s.off = false then s.ctl o n s.n s.off else s) := by
  have e : s.cuB o n = true := by
    unfold Dev.cuB wiB
    rw [decide_eq_true h0, decide_eq_true (show 0 ≤ n ∧ n ≤ (s.sz : Int) + 64 from ⟨h1, h2⟩)]
    rfl
  unfold Dev.cuE Dev.cuS
  rw [if_neg (by rw [e]; decide)]
  simp [e]
theorem rPend_any {w : World} {fs : List Int} {s : Dev} {vf vp ve : Value} {pb : Int} (h : Rd w fs s vf vp ve pb) (hg : Gd s) (o m : Int) : Calls Try.prog 38 #[.agg (rdv s vf vp ve pb), .int .i64 o, .int .i64 m] w (RvPost w fs (s.cuS o m) (s.cuE o m)) := by
  have hsz : (s.sz : Int) ≤ 8192 := by have := hg.sz; omega
  have H := Lib.hid h
  obtain ⟨⟨A1, n1, c1, rfl⟩, ⟨A2, n2, c2, rfl⟩, ⟨A3, n3, c3, rfl⟩⟩ := h.forms
  clear h hg
  by_cases hbad : o < s.n ∨ m < 0 ∨ (s.sz : Int) + 64 < m
  · obtain ⟨e1, e2⟩ := cu_bad hbad
    rw [e1, e2]
    have FIN := Lib.hid (fun W (hb : Below w.heap.size w W) => (show RvPost w fs s 2 (.returned (.tuple #[.agg (rdv s _ _ _ pb), .int .i64 2])) W from ⟨_, _, _, pb, rfl, H.out.below hb, hb⟩))
    clear e1 e2 H
    obtain ⟨nb, np, sz, en, bk, F, po, pb', n, off, lo⟩ := s
    simp only [rdv] at FIN ⊢
    simp only at hsz hbad
    by_cases a1 : o < n
    · clear hbad
      go_enter Try.func38, Try.ntmps38
      go_wp2
      refine bodyPost_ret (v := .tuple #[.agg #[.int .i64 (nb : Int), .int .i64 (np : Int), .int .i64 (sz : Int), .int .i64 en, .slice A1 n1 c1, .slice A2 n2 c2, .slice A3 n3 c3, .int .i64 n, .int .i64 po, .int .i64 pb, .bool off], .int .i64 2]) ?_ rfl (FIN.out _ ((balloc w _).alloc (by simp) _))
      exact results_row1 (a := 6) (b := 7) (ty := 35) rfl _ _ (w.heap.size + 1) 35 #[.int .i64 (nb : Int), .int .i64 (np : Int), .int .i64 (sz : Int), .int .i64 en, .slice A1 n1 c1, .slice A2 n2 c2, .slice A3 n3 c3, .int .i64 n, .int .i64 po, .int .i64 pb, .bool off] (0, 0) _ rfl (heap_alloc2_new w _ _) Try.underlying35 rfl info35
    by_cases a2 : m < 0
    · clear hbad
      go_enter Try.func38, Try.ntmps38
      go_wp2
      refine bodyPost_ret (v := .tuple #[.agg #[.int .i64 (nb : Int), .int .i64 (np : Int), .int .i64 (sz : Int), .int .i64 en, .slice A1 n1 c1, .slice A2 n2 c2, .slice A3 n3 c3, .int .i64 n, .int .i64 po, .int .i64 pb, .bool off], .int .i64 2]) ?_ rfl (FIN.out _ ((balloc w _).alloc (by simp) _))
      exact results_row1 (a := 6) (b := 7) (ty := 35) rfl _ _ (w.heap.size + 1) 35 #[.int .i64 (nb : Int), .int .i64 (np : Int), .int .i64 (sz : Int), .int .i64 en, .slice A1 n1 c1, .slice A2 n2 c2, .slice A3 n3 c3, .int .i64 n, .int .i64 po, .int .i64 pb, .bool off] (0, 0) _ rfl (heap_alloc2_new w _ _) Try.underlying35 rfl info35
    have a3 : (sz : Int) + 64 < m := by omega
    clear hbad
    go_enter Try.func38, Try.ntmps38
    go_wp2
    refine bodyPost_ret (v := .tuple #[.agg #[.int .i64 (nb : Int), .int .i64 (np : Int), .int .i64 (sz : Int), .int .i64 en, .slice A1 n1 c1, .slice A2 n2 c2, .slice A3 n3 c3, .int .i64 n, .int .i64 po, .int .i64 pb, .bool off], .int .i64 2]) ?_ rfl (FIN.out _ ((balloc w _).alloc (by simp) _))
    exact results_row1 (a := 6) (b := 7) (ty := 35) rfl _ _ (w.heap.size + 1) 35 #[.int .i64 (nb : Int), .int .i64 (np : Int), .int .i64 (sz : Int), .int .i64 en, .slice A1 n1 c1, .slice A2 n2 c2, .slice A3 n3 c3, .int .i64 n, .int .i64 po, .int .i64 pb, .bool off] (0, 0) _ rfl (heap_alloc2_new w _ _) Try.underlying35 rfl info35
  · have a1 : ¬ o < s.n := by omega
    have a2 : ¬ m < 0 := by omega
    have a3 : ¬ (s.sz : Int) + 64 < m := by omega
    obtain ⟨e1, e2⟩ := cu_good (s := s) (o := o) (n := m) (by omega) (by omega) (by omega)
    rw [e1, e2]
    clear e1 e2 hbad
    cases ho : s.off with
    | true =>
      rw [if_pos rfl, if_neg (by decide)]
      have FIN := Lib.hid (fun W (hb : Below w.heap.size w W) => (show RvPost w fs s 50 (.returned (.tuple #[.agg (rdv s _ _ _ pb), .int .i64 50])) W from ⟨_, _, _, pb, rfl, H.out.below hb, hb⟩))
      clear H
      obtain ⟨nb, np, sz, en, bk, F, po, pb', n, off, lo⟩ := s
      simp only at ho
      subst ho
      simp only [rdv] at FIN ⊢
      simp only at hsz a1 a2 a3
      go_enter Try.func38, Try.ntmps38
      go_wp2
      refine bodyPost_ret (v := .tuple #[.agg #[.int .i64 (nb : Int), .int .i64 (np : Int), .int .i64 (sz : Int), .int .i64 en, .slice A1 n1 c1, .slice A2 n2 c2, .slice A3 n3 c3, .int .i64 n, .int .i64 po, .int .i64 pb, .bool true], .int .i64 50]) ?_ rfl (FIN.out _ ((balloc w _).alloc (by simp) _))
      exact results_row1 (a := 6) (b := 7) (ty := 35) rfl _ _ (w.heap.size + 1) 35 #[.int .i64 (nb : Int), .int .i64 (np : Int), .int .i64 (sz : Int), .int .i64 en, .slice A1 n1 c1, .slice A2 n2 c2, .slice A3 n3 c3, .int .i64 n, .int .i64 po, .int .i64 pb, .bool true] (0, 0) _ rfl (heap_alloc2_new w _ _) Try.underlying35 rfl info35
    | false =>
      rw [if_pos rfl, if_neg Bool.false_ne_true]
      have FIN := Lib.hid (fun W (hb : Below w.heap.size w W) => (show RvPost w fs (s.ctl o m s.n false) 0 (.returned (.tuple #[.agg (rdv (s.ctl o m s.n false) _ _ _ m), .int .i64 0])) W from ⟨_, _, _, m, rfl, (H.out.below hb).ctl o m s.n false m (fun _ => rfl) (by omega), hb⟩))
      clear H
      obtain ⟨nb, np, sz, en, bk, F, po, pb', n, off, lo⟩ := s
      simp only at ho
      subst ho
      simp only [rdv, Dev.ctl] at FIN ⊢
      simp only at hsz a1 a2 a3
      go_enter Try.func38, Try.ntmps38
      go_wp2
      refine bodyPost_ret (v := .tuple #[.agg #[.int .i64 (nb : Int), .int .i64 (np : Int), .int .i64 (sz : Int), .int .i64 en, .slice A1 n1 c1, .slice A2 n2 c2, .slice A3 n3 c3, .int .i64 n, .int .i64 o, .int .i64 m, .bool false], .int .i64 0]) ?_ rfl (FIN.out _ ((balloc w _).alloc (by simp) _))
      exact results_row1 (a := 6) (b := 7) (ty := 35) rfl _ _ (w.heap.size + 1) 35 #[.int .i64 (nb : Int), .int .i64 (np : Int), .int .i64 (sz : Int), .int .i64 en, .slice A1 n1 c1, .slice A2 n2 c2, .slice A3 n3 c3, .int .i64 n, .int .i64 o, .int .i64 m, .bool false] (0, 0) _ rfl (heap_alloc2_new w _ _) Try.underlying35 rfl info35
end Go.Proofs.Ytddejcoagcaidaa
