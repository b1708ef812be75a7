/- The contracts of recordOf, of newer and of inTurn. Conditions stand in each theorem. -/
import Derived.Test.YtajlddgemkkcdaaJ
namespace Go.Proofs.Ytajlddgemkkcdaa
open Go.RowKit
set_option linter.unusedVariables false
set_option maxHeartbeats 4000000
set_option maxRecDepth 100000
theorem recordOf_any (x : Spr) (hx : x.ok) (h0 : 0 ≤ x.i) (h1 : x.i ≤ x.q) (w : World) : Calls Try.prog 51 #[x.v] w (Ret w x.key.v) := by
  obtain ⟨q0, q1, p0, p1⟩ := hx
  unfold Spr.key
  obtain ⟨k, s, q, p, i, n⟩ := x
  simp only at *
  go_enter Try.func51, Try.ntmps51
  go_wp2
  refine bodyPost_ret (results_cell_row rfl _ _ (w.heap.size + 1) 76 #[.int .u8 k, .int .u64 (q - i), .int .u64 p, .int .i64 n] (0, 0) _ rfl (heap_alloc2_new w _ _) Try.underlying76 rfl (by kernel_rfl)) rfl ⟨rfl, ((Gr.refl _).alloc _).alloc _⟩

/-- The cells of a complete record's box. -/
structure LoAt (W : World) (g o : Nat) (x : Loc) : Prop where
  c0 : W.cell? ⟨g, o, none⟩ = some (.int .u8 x.r.k)
  c1 : W.cell? ⟨g, o + 1, none⟩ = some (.int .u64 x.r.f)
  c2 : W.cell? ⟨g, o + 2, none⟩ = some (.int .u64 x.r.p)
  c3 : W.cell? ⟨g, o + 3, none⟩ = some (.int .i64 x.r.n)
  c4 : W.cell? ⟨g, o + 4, none⟩ = some (.int .i64 x.e)
  c5 : W.cell? ⟨g, o + 5, none⟩ = some x.pl
theorem LoAt.gr {W W' : World} {g o : Nat} {r : Loc} (h : LoAt W g o r) (hg : Gr W W') : LoAt W' g o r := ⟨hg.cell h.c0, hg.cell h.c1, hg.cell h.c2, hg.cell h.c3, hg.cell h.c4, hg.cell h.c5⟩
theorem LoAt.new (w : World) (r : Loc) (t : TypeId) : LoAt (w.alloc (.cells r.row t)) w.heap.size 0 r := by
  have h := heap_alloc_new w (.cells r.row t)
  refine ⟨?_, ?_, ?_, ?_, ?_, ?_⟩ <;> (rw [cell_of_row _ _ _ _ _ _ h]; rfl)
theorem LoAt.new2 (w : World) (a b : Loc) (t : TypeId) : LoAt ((w.alloc (.cells a.row t)).alloc (.cells b.row t)) w.heap.size 0 a ∧ LoAt ((w.alloc (.cells a.row t)).alloc (.cells b.row t)) (w.heap.size + 1) 0 b := by
  refine ⟨(LoAt.new w a t).gr ((Gr.refl _).alloc _), ?_⟩
  have h := LoAt.new (w.alloc (.cells a.row t)) b t
  rw [World.size_alloc] at h
  exact h
def newI (a b : Loc) : Int := orI (cmpI b.r.f a.r.f) (cmpI a.e b.e)
theorem newer_any (a b : Loc) (w : World) : Calls Try.prog 37 #[a.v, b.v] w (Ret w (.int .i64 (newI a b))) := by
  obtain ⟨w1, hw1⟩ : ∃ w1 : World, w1 = (w.alloc (.cells a.row 78)).alloc (.cells b.row 78) := ⟨_, rfl⟩
  have hg1 : Gr w w1 := by rw [hw1]; exact ((Gr.refl w).alloc _).alloc _
  obtain ⟨ca, cb⟩ : LoAt w1 w.heap.size 0 a ∧ LoAt w1 (w.heap.size + 1) 0 b := by rw [hw1]; exact LoAt.new2 w a b 78
  have HG1 := Lib.hid hg1
  unfold newI
  have hne := gw_ne w1
  have ca1 := fun r : Gw w1 => (ca.gr r.h).c1
  have ca4 := fun r : Gw w1 => (ca.gr r.h).c4
  have cb1 := fun r : Gw w1 => (cb.gr r.h).c1
  have cb4 := fun r : Gw w1 => (cb.gr r.h).c4
  have HN := Lib.hid (show w1.heap.size = w.heap.size + 2 by rw [hw1]; simp)
  clear ca cb hg1
  obtain ⟨⟨ak, af, ap, an⟩, ae, apa, apn, apc⟩ := a
  obtain ⟨⟨bk, bf, bp, bn⟩, be, bpa, bpn, bpc⟩ := b
  simp only [Loc.v, Loc.row, Loc.pl] at *
  have HW := Lib.hid hw1
  clear hw1
  go_enter Try.func37, Try.ntmps37
  go_wp2_with fail
  rw [← HW.out]
  refine wp_region_gw_tail 12 (by kernel_rfl) (by kernel_rfl) ?_
  simp only [List.take_succ_cons, List.take_zero, List.drop_succ_cons, List.drop_zero]
  repeat (go_big_quiet_step ((first | (go_at_call 54; exact gw_of _ (cmpu_any _ _ _)) | (go_at_call 55; exact gw_of _ (cmpi_any _ _ _)))))
  refine wpQuiet_nil ?_
  rintro w2 ⟨⟨_, hg2⟩, rfl⟩
  have hc := or_any w2.heap.size 2 (cmpI bf af) (cmpI ae be) (w2.alloc (.cells #[.int .i64 (cmpI bf af), .int .i64 (cmpI ae be)] 3)) (by simp) (by simp)
  generalize cmpI bf af = c2 at *
  generalize cmpI ae be = c3 at *
  have HG2 := Lib.hid hg2
  clear hg2 ca1 ca4 cb1 cb4 hne
  go_wp2_with (go_at_call 53; refine hc.mono ?_; rintro e w3 ⟨rfl, hg3⟩)
  go_ret
  exact ⟨rfl, HG1.out.trans ((HG2.out.alloc _).trans hg3)⟩
def turnI (a b : Loc) : Int := orI (cmpI a.r.p b.r.p) (newI a b)
theorem inTurn_any (a b : Loc) (w : World) : Calls Try.prog 40 #[a.v, b.v] w (Ret w (.int .i64 (turnI a b))) := by
  obtain ⟨w1, hw1⟩ : ∃ w1 : World, w1 = (w.alloc (.cells a.row 78)).alloc (.cells b.row 78) := ⟨_, rfl⟩
  have hg1 : Gr w w1 := by rw [hw1]; exact ((Gr.refl w).alloc _).alloc _
  obtain ⟨ca, cb⟩ : LoAt w1 w.heap.size 0 a ∧ LoAt w1 (w.heap.size + 1) 0 b := by rw [hw1]; exact LoAt.new2 w a b 78
  have HG1 := Lib.hid hg1
  have HNW := Lib.hid (fun W => newer_any a b W)
  unfold turnI
  generalize newI a b = ni at *
  have hne := gw_ne w1
  have ca0 := fun r : Gw w1 => (ca.gr r.h).c0
  have ca1 := fun r : Gw w1 => (ca.gr r.h).c1
  have ca2 := fun r : Gw w1 => (ca.gr r.h).c2
  have ca3 := fun r : Gw w1 => (ca.gr r.h).c3
  have ca4 := fun r : Gw w1 => (ca.gr r.h).c4
  have ca5 := fun r : Gw w1 => (ca.gr r.h).c5
  have cb0 := fun r : Gw w1 => (cb.gr r.h).c0
  have cb1 := fun r : Gw w1 => (cb.gr r.h).c1
  have cb2 := fun r : Gw w1 => (cb.gr r.h).c2
  have cb3 := fun r : Gw w1 => (cb.gr r.h).c3
  have cb4 := fun r : Gw w1 => (cb.gr r.h).c4
  have cb5 := fun r : Gw w1 => (cb.gr r.h).c5
  have HN := Lib.hid (show w1.heap.size = w.heap.size + 2 by rw [hw1]; simp)
  clear ca cb hg1
  obtain ⟨⟨ak, af, ap, an⟩, ae, apa, apn, apc⟩ := a
  obtain ⟨⟨bk, bf, bp, bn⟩, be, bpa, bpn, bpc⟩ := b
  simp only [Loc.v, Loc.row, Loc.pl] at *
  have HW := Lib.hid hw1
  clear hw1
  go_enter Try.func40, Try.ntmps40
  go_wp2_with fail
  rw [← HW.out]
  refine wp_region_gw_tail 10 (by kernel_rfl) (by kernel_rfl) ?_
  simp only [List.take_succ_cons, List.take_zero, List.drop_succ_cons, List.drop_zero]
  repeat (go_big_quiet_step ((first | (go_at_call 54; exact gw_of _ (cmpu_any _ _ _)) | (go_at_call 37; exact gw_of _ (HNW.out _)))))
  refine wpQuiet_nil ?_
  rintro w2 ⟨⟨_, hg2⟩, rfl⟩
  have hc := or_any w2.heap.size 2 (cmpI ap bp) ni (w2.alloc (.cells #[.int .i64 (cmpI ap bp), .int .i64 ni] 3)) (by simp) (by simp)
  generalize cmpI ap bp = c2 at *
  have HG2 := Lib.hid hg2
  clear hg2 ca0 ca1 ca2 ca3 ca4 ca5 cb0 cb1 cb2 cb3 cb4 cb5 hne
  go_wp2_with (go_at_call 53; refine hc.mono ?_; rintro e w3 ⟨rfl, hg3⟩)
  go_ret
  exact ⟨rfl, HG1.out.trans ((HG2.out.alloc _).trans hg3)⟩
end Go.Proofs.Ytajlddgemkkcdaa
