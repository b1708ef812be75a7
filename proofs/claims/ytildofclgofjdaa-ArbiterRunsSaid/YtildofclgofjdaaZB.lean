/- The contract of agrees. Conditions stand in each theorem. -/
import Derived.Test.YtildofclgofjdaaZA
namespace Go.Proofs.Ytildofclgofjdaa
open Go.RowKit Go.Shelf
attribute [local go_sem] Oper.semAt_some
set_option linter.unusedVariables false
set_option maxHeartbeats 8000000
set_option maxRecDepth 100000
theorem res23 (W' : World) (q : Nat) (tm : Array Value) (htm : tm.getD 4 undef = .pointer (some ⟨q, 0, none⟩)) (h : W'.cell? ⟨q, 0, none⟩ = some (.bool true)) : (results Try.f23 tm).run Try.prog W' = .ok (.bool true) W' := by
  have e : tm[4]?.getD undef = .pointer (some ⟨q, 0, none⟩) := by simpa using htm
  simp [results, Try.results23, go_sem, h, e]
/-- Within agrees: the reference's value in block q, its list. -/
structure AG (w : World) (b m : Nat) (s r : St) (v : Value) (W : World) : Prop where
  arb : Arb W b m s
  row : W.heap[w.heap.size]? = some (.cells (RC r v) 35 (0, 0))
  lds : Lds W v s.L
  below : Below w.heap.size w W
  xr : Bx1 W (w.heap.size + 1) 4 (.bool false)
theorem AG.later {w W W' : World} {b m : Nat} {s r : St} {v : Value} (h : AG w b m s r v W) (hb : Below W.heap.size W W') : AG w b m s r v W' :=
  ⟨h.arb.below hb, (hb.block _ (Array.getElem?_eq_some_iff.1 h.row).1).trans h.row, h.lds.below hb, h.below.trans (hb.mono h.below.size), h.xr.below hb⟩
theorem AG.c5 {w W : World} {b m : Nat} {s r : St} {v : Value} (h : AG w b m s r v W) : W.cell? ⟨w.heap.size, 5, none⟩ = some v := (cell_of_row W w.heap.size 5 _ 35 (0, 0) h.row).trans rfl
theorem AG.start {w : World} {b m : Nat} {s r : St} {v : Value} (h : Arb w b m s) (hl : Lds w v s.L) : AG w b m s r v ((w.alloc (.cells (RC r v) 35)).alloc (.cells #[.bool false] 4)) := by
  have hb : Below w.heap.size w ((w.alloc (.cells (RC r v) 35)).alloc (.cells #[.bool false] 4)) := (below_alloc w _).alloc (by simp) _
  have h2 := Bx1.new (w.alloc (.cells (RC r v) 35)) 4 (.bool false)
  rw [World.size_alloc] at h2
  exact ⟨h.below hb, ((below_alloc (w.alloc (.cells (RC r v) 35)) _).block _ (by simp)).trans (heap_alloc_new w _), hl.below hb, hb, h2⟩
/-- Within the loop: the count. -/
structure RN (B : World) (nb k : Nat) (W : World) : Prop where
  below : Below B.heap.size B W
  xn : Bx1 W nb 3 (.int .i64 (k : Int))
theorem RN.set {B W : World} {nb k : Nat} (h : RN B nb k W) (h1 : B.heap.size ≤ nb) : RN B nb (k + 1) (W.setCell ⟨nb, 0, none⟩ (.int .i64 ((k : Int) + 1))) := by
  refine ⟨h.below.setCell h1 _, ?_⟩
  have := heap_setCell_same W nb 0 _ 3 (.int .i64 ((k : Int) + 1)) h.xn
  rw [show (((k + 1 : Nat) : Int)) = (k : Int) + 1 by omega]
  exact this
theorem own_rn {β : Type} {B : World} {nb N : Nat} (f : β → Nat) (hB : B.heap.size ≤ N) : OwnFrom N (fun s W => RN B nb (f s) W) := fun s X Y row hs hg hr =>
  ⟨ownFrom_below (Nat.le_refl _) hB () X Y row hs.below hg hr, own_bx _ () X Y row hs.xn hg hr⟩
theorem agrees_any (b m : Nat) (s r : St) (A : Option Addr) (n c : Nat) (w : World) (h : Arb w b m s) (hs : Srt s.L) (hl : Lds w (.slice A n c) s.L) :
    Calls Try.prog 23 #[.pointer (some ⟨b, 0, none⟩), .agg (RC r (.slice A n c))] w (OkPost w) := by
  have HA := Lib.hid (AG.start (r := r) h hl)
  have HS := Lib.hid hs
  have hlen := hs.len
  obtain rfl : n = s.L.length := by obtain ⟨A', c', e, _⟩ := hl; injection e
  have hqn := fun (W : World) (f : Fn) (x y : Array Value) => run_eql_func_nil (P := Try.prog) W 59 f x y Try.underlying59
  clear h hl hs
  refine (callsIn_wide (n := 12)).1 ?_
  refine callsIn_of_wp_marks Try.func23 rfl trivial ?_ rfl
  refine wpIn_wide.2 ?_
  simp only [Try.ntmps23, List.size_toArray, List.length_cons, List.length_nil, Nat.reduceAdd, Nat.reduceSub, Array.replicate_succ, Array.replicate_zero, List.push_toArray, List.append_toArray, List.nil_append, List.cons_append]
  obtain ⟨E, hE⟩ : ∃ E, E = (w.alloc (.cells (RC r (.slice A s.L.length c)) 35)).alloc (.cells #[.bool false] 4) := ⟨_, rfl⟩
  have hzE : E.heap.size = w.heap.size + 2 := by rw [hE]; simp
  rw [← hE] at HA
  unfold RC at hE ⊢
  go_upto_region 1 with fail
  rw [← hE]
  clear hE
  have HQ := Lib.hid (Queues_any b m s E HA.out.arb HS.out)
  go_wp2_with (go_at_call 20; refine HQ.out.mono ?_; rintro e B ⟨B4, B3, rfl, hIt, hb⟩; have HIT := Lib.hid hIt; have HB := Lib.hid (HA.out.later hb); have hzB := hb.size; clear hIt hb)
  have hlen2 : (s.L.length : Int) ≤ 65536 := by omega
  obtain ⟨W7, hW7⟩ : ∃ W7, W7 = B.alloc (.cells #[.int .i64 0] 3) := ⟨_, rfl⟩
  have HRN : Hid (RN B B.heap.size 0 W7) := Lib.hid (by rw [hW7]; exact ⟨below_alloc B _, Bx1.new B 3 _⟩)
  have hz7 : W7.heap.size = B.heap.size + 1 := by rw [hW7]; simp
  rw [← hW7]
  clear hW7
  have hn1 : ¬ B.heap.size = w.heap.size := by omega
  have hn1' : ¬ w.heap.size = B.heap.size := by omega
  have hn2 : ¬ B.heap.size = w.heap.size + 1 := by omega
  have hn2' : ¬ w.heap.size + 1 = B.heap.size := by omega
  have HIT2 := Lib.hid (HIT.out)
  clear HIT HQ
  refine (wpIn_wide (n := 12)).1 ?_
  refine' wpIn_rangeFunc_ownG rfl (by omega) (gf := 43) (lb := #[.pointer (some ⟨B4, 0, none⟩), .pointer (some ⟨B3, 0, none⟩)]) rfl trivial (enters_of Try.func43 (by kernel_rfl) rfl)
    (iter_stops 11 (by omega) B4 B3 E.heap.size B.heap.size s.L B HIT2.out (Nat.le_refl _)) Kpt.trans (fun W l o o' hl hw ho _ k _ hk => World.putObj_heap_other (by omega)) HRN.out.below (fun _ => rfl)
    (fun pre W => pre.map (·.1) <+: s.L ∧ RN B B.heap.size pre.length W)
    (fun cd pre W => cd = .ret ∧ ¬ pre.map (·.1) <+: s.L)
    (fun pre X Y row hs hg hr => ⟨hs.1, own_rn (fun pre : List QC => pre.length) (by omega) pre X Y row hs.2 hg hr⟩)
    (fun cd pre X Y row hs hg hr => hs)
    ⟨pref_nil s.L, HRN.out⟩ _ ?assign ?body ?done ?stop
  case assign =>
    intro l x W K hK
    gi_wp2
    exact hK
  case body =>
    rintro l pre x W ⟨hpre, hri⟩ hN
    have HQW := Lib.hid (HB.out.later hri.below)
    have hps := pref_snoc hpre hN x
    obtain ⟨g, o, hAv, _, cy1, cy2⟩ := HQW.out.lds.at pre.length hN
    have c5 := HQW.out.c5
    rw [hAv] at c5
    have cn := hri.xn.cell
    have fn := hri.xn.free
    have cr := HQW.out.xr.cell
    have fr := HQW.out.xr.free
    have HST := Lib.hid (hri.set (Nat.le_refl _))
    have HKF : Hid (∀ p u, KeepsFrom (B.heap.size + 1) W (W.setCell p u)) := Lib.hid fun p u => (KeepsOthers.setCell _ _ _).from _
    have HKP : Hid (Kpt E.heap.size B.heap.size W (W.setCell ⟨B.heap.size, 0, none⟩ (.int .i64 ((pre.length : Int) + 1)))) := Lib.hid (Kpt.of_below ((Below.refl _ W).setCell (p := ⟨B.heap.size, 0, none⟩) (Nat.le_refl _) _))
    have HPS := Lib.hid hps
    have hpl : (pre ++ [x]).length = pre.length + 1 := by simp
    have HPL := Lib.hid hpl
    have hp30 : (pre.length : Int) ≤ 65536 := by omega
    have hN2 : ¬ (s.L.length : Int) ≤ (pre.length : Int) := by omega
    obtain ⟨⟨x1, x2⟩, hx⟩ := x
    clear hri hps hpre hpl
    obtain ⟨y1, hy1⟩ : ∃ y, y = s.L[pre.length].1 := ⟨_, rfl⟩
    obtain ⟨y2, hy2⟩ : ∃ y, y = s.L[pre.length].2 := ⟨_, rfl⟩
    rw [← hy1] at cy1
    rw [← hy2] at cy2
    by_cases e1 : y1 = x1
    · by_cases e2 : y2 = x2
      · subst e1 e2
        have hpx : Hid ((pre ++ [(⟨(y1, y2), hx⟩ : QC)]).map (·.1) <+: s.L) := Lib.hid (HPS.out.2 (Prod.ext hy1 hy2))
        clear hy1 hy2
        gi_wp2
        exact ⟨HKF.out _ _, hzE ▸ HKP.out, hpx.out, by rw [HPL.out]; exact HST.out⟩
      · have hpx : Hid (¬ (pre ++ [(⟨(x1, x2), hx⟩ : QC)]).map (·.1) <+: s.L) := Lib.hid (fun h => e2 (by rw [hy2, ← HPS.out.1 h]))
        clear hy1 hy2
        subst e1
        gi_wp2
        exact ⟨HKF.out _ _, rfl, hpx.out⟩
    · have hpx : Hid (¬ (pre ++ [(⟨(x1, x2), hx⟩ : QC)]).map (·.1) <+: s.L) := Lib.hid (fun h => e1 (by rw [hy1, ← HPS.out.1 h]))
      clear hy1 hy2
      gi_wp2
      exact ⟨HKF.out _ _, rfl, hpx.out⟩
  case done =>
    rintro D xs W12 hD hS ⟨hpre, hri⟩ hd
    have hcnt : xs.length = s.L.length := by rw [← hS]; simp
    rw [hcnt] at hri
    have HQB := Lib.hid (HB.out.later hri.below)
    have HMB := Lib.hid (Marks.one (n0 := w.heap.size) (by omega) hd)
    have c5 := HQB.out.c5
    have cn := hri.xn.cell
    have c8 := HQB.out.xr.cell
    have f8 := HQB.out.xr.free
    clear hri hpre hS hcnt hd
    gi_wp2
    go_wp2
    exact law_true (q := w.heap.size + 1) (Ds := [D]) HMB.out HQB.out.below HQB.out.xr (by omega) fun W' h => res23 W' _ _ rfl h
  case stop =>
    rintro D2 cd pre W12 hD2 hp ⟨rfl, hn⟩ hd
    exact absurd hp hn
end Go.Proofs.Ytildofclgofjdaa
