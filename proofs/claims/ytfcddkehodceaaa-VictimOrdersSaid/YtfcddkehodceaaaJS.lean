/- The walk of VictimScores. No condition on the arguments. -/
import Derived.Test.YtfcddkehodceaaaI
namespace Go.Proofs.Ytfcddkehodceaaa
open Go.RowKit
set_option linter.unusedVariables false
set_option maxHeartbeats 8000000
set_option maxRecDepth 100000
/-- A world in which nothing that was there has changed. -/
structure Bw (w : World) where
  W : World
  h : Below w.heap.size w W
theorem bw_of {P : Program} {f : Nat} {args : Array Value} {w : World} {v : Value} (p : Bw w) (h : Calls P f args p.W (RetB p.W v)) : Calls P f args p.W fun e w'' => e = .returned v ∧ ∃ q : Bw w, w'' = q.W :=
  h.mono fun e w' ⟨a, b⟩ => ⟨a, ⟨w', p.h.trans (b.mono p.h.size)⟩, rfl⟩
theorem bw_ne (w : World) : Nonempty (Bw w) := ⟨⟨w, Below.refl _ _⟩⟩
theorem Bw.cell {w : World} (r : Bw w) {g o : Nat} {v : Value} (hc : w.cell? ⟨g, o, none⟩ = some v) : r.W.cell? ⟨g, o, none⟩ = some v := (r.h.cell (p := ⟨g, o, none⟩) (World.block_lt_of_cell? w _ hc)).trans hc
theorem wp_region_bw {P : Program} {id : Nat} {Q : Exit → Act → World → Prop} {a : Act} {w : World} {l : List Oper} (hm : P.follows .mixedOrders = true) (hB : Region.lexB .any l.toArray = true)
    (h : wpQuiet P l.toArray (fun W => ∃ p : Bw w, W = p.W) (fun a' => ∀ w', (∃ p : Bw w, w' = p.W) → Q .normal a' w') l a) : (Code.region id l.toArray true).wp P Q a w :=
  wp_region_quiet (C := fun W => ∃ p : Bw w, W = p.W) hm hB ⟨⟨w.drew, (Below.refl _ _).drew⟩, rfl⟩ (by simpa using h)
theorem CdAt.bel {W W' : World} {g : Nat} {c : Cd} (h : CdAt W g c) (hb : Below W.heap.size W W') : CdAt W' g c := by
  have e : ∀ {o : Nat} {v : Value}, W.cell? ⟨g, o, none⟩ = some v → W'.cell? ⟨g, o, none⟩ = some v := fun hc => (hb.cell (p := ⟨g, _, none⟩) (World.block_lt_of_cell? W _ hc)).trans hc
  exact ⟨e h.c0, e h.c1, e h.c2, e h.c3⟩
theorem retB_of {P : Program} {f : Nat} {args : Array Value} {w : World} {v : Value} (h : Calls P f args w (Ret w v)) : Calls P f args w (RetB w v) := h.mono fun e w' ⟨a, b⟩ => ⟨a, b.below⟩
theorem scores_any (a b : Cd) (w : World) : Calls Try.prog 3 #[a.v, b.v] w (RetB w (.bool true)) := by
  obtain ⟨w1, hw1⟩ : ∃ w1 : World, w1 = (w.alloc (.cells #[.int .i64 a.bl, .int .i64 a.va, .int .i64 a.pa, .int .i64 a.ag] 23)).alloc (.cells #[.int .i64 b.bl, .int .i64 b.va, .int .i64 b.pa, .int .i64 b.ag] 23) := ⟨_, rfl⟩
  have hb1 : Below w.heap.size w w1 := by rw [hw1]; exact (((Gr.refl w).alloc _).alloc _).below
  obtain ⟨ca, cb⟩ : CdAt w1 w.heap.size a ∧ CdAt w1 (w.heap.size + 1) b := by rw [hw1]; exact CdAt.new2 w a b 23
  have HA := Lib.hid ca
  have HB := Lib.hid cb
  have HB1 := Lib.hid hb1
  have HW := Lib.hid hw1
  have hs := score_any a w1
  have hr := fun W => retB_of (rscore_any a W)
  have hc := fun W => compare_any a b W
  have hrc := fun W => retB_of (rcompare_any a b W)
  simp only [cfP_three] at hrc
  have hw : ∀ W, Calls Try.prog 13 #[] W (RetB W (.bool true)) := works_any
  have hn : ∀ x W, Calls Try.prog 10 #[.int .i64 x] W (RetB W (.int .i64 x)) := fun x W => retB_of (num_any x W)
  generalize (if a.use ∧ b.use then cfP a b else 0) = cv at *
  generalize a.n = n at *
  generalize a.d = d at *
  generalize a.err = er at *
  obtain ⟨abl, ava, apa, aag⟩ := a
  obtain ⟨bbl, bva, bpa, bag⟩ := b
  simp only [Cd.v] at *
  have HS := Lib.hid hs
  have HR := Lib.hid hr
  have HC := Lib.hid hc
  have HRC := Lib.hid hrc
  have HWK := Lib.hid hw
  have HN := Lib.hid hn
  clear hs hr hc hrc hw hn ca cb hb1 hw1
  go_enter Try.func3, Try.ntmps3
  go_upto_region 3 with (first
    | ((go_at_call 8; rw [← HW.out]; (with_reducible refine HS.out.mono ?_)); rintro e w2 ⟨rfl, hb2⟩; have k0 := (HA.out.bel hb2).c0; have k1 := (HA.out.bel hb2).c1; have k2 := (HA.out.bel hb2).c2; have k3 := (HA.out.bel hb2).c3; have HB2 := Lib.hid hb2; clear hb2)
    | ((go_at_call 9; (with_reducible refine (HR.out _).mono ?_)); rintro e w3 ⟨rfl, hb3⟩; have HB3 := Lib.hid (HB2.out.trans (hb3.mono HB2.out.size)); clear hb3))
  have hne := bw_ne w3
  have hca := HA.out.bel HB3.out
  have hcb := HB.out.bel HB3.out
  clear k0 k1 k2 k3
  have c0 := fun r : Bw w3 => (hca.bel r.h).c0
  have c1 := fun r : Bw w3 => (hca.bel r.h).c1
  have c2 := fun r : Bw w3 => (hca.bel r.h).c2
  have c3 := fun r : Bw w3 => (hca.bel r.h).c3
  have d0 := fun r : Bw w3 => (hcb.bel r.h).c0
  have d1 := fun r : Bw w3 => (hcb.bel r.h).c1
  have d2 := fun r : Bw w3 => (hcb.bel r.h).c2
  have d3 := fun r : Bw w3 => (hcb.bel r.h).c3
  clear hca hcb
  refine wp_region_bw (by kernel_rfl) (by kernel_rfl) ?_
  repeat (go_big_quiet_step ((first | (go_at_call 10; exact bw_of _ (HN.out _ _)) | (go_at_call 11; exact bw_of _ (HC.out _)) | (go_at_call 12; exact bw_of _ (HRC.out _)) | (go_at_call 13; exact bw_of _ (HWK.out _)))))
  refine wpQuiet_nil ?_
  rintro w4 ⟨⟨_, hb4⟩, rfl⟩
  go_wp2
  go_ret
  exact ⟨by simp, HB1.out.trans ((HB3.out.mono HB1.out.size).trans (hb4.mono (by have := HB1.out.size; have := HB3.out.size; omega)))⟩
end Go.Proofs.Ytfcddkehodceaaa
