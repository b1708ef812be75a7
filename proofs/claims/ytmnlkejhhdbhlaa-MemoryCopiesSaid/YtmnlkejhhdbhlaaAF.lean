/- act fills. Conditions stand in each theorem. -/
import Derived.Test.YtmnlkejhhdbhlaaAE
import Derived.Deep.CutBlock
import Derived.Deep.RegionHeld3
namespace Go.Proofs.Ytmnlkejhhdbhlaa
open Go.RowKit
set_option linter.unusedVariables false
set_option maxHeartbeats 8000000
set_option maxRecDepth 100000
section
variable {W : World} {base b d cap : Nat} {m : Mm} {S : Nat → Prop} {A1 A2 : Option Addr} {n1 c1 n2 c2 : Nat}
theorem act_fill (hm : Mem W base b d cap m) (hG : Gm m) (hcnt : m.L.length ≤ 1000) (hr : Rf W S A1 n1 c1 A2 n2 c2 m) (hSb : S b) (hSd : S d) (hSlt : ∀ k, S k → k < W.heap.size) (n : Int) (ad : Nat) (vb : Value) (x : UInt8) (hn : n < 9223372036854775808) (had : ad < 18446744073709551616) :
    Calls Try.prog 14 #[.pointer (some ⟨b, 0, none⟩), .agg #[.slice A1 n1 c1, .slice A2 n2 c2], .agg #[.int .i64 2, .int .i64 n, .int .u64 (ad : Int), vb, (.int .u8 (x.toNat : Int))]] W (AcP W base b d S (m.ch ad n (List.replicate n.toNat x))) := by
  obtain ⟨ha3, hbE, hsE⟩ := aE_facts W (.slice A1 n1 c1) (.slice A2 n2 c2) #[.int .i64 2, .int .i64 n, .int .u64 (ad : Int), vb, (.int .u8 (x.toNat : Int))]
  have HWE : Hid (aE W (.slice A1 n1 c1) (.slice A2 n2 c2) #[.int .i64 2, .int .i64 n, .int .u64 (ad : Int), vb, (.int .u8 (x.toNat : Int))] = ((W.alloc (.cells #[.slice A1 n1 c1, .slice A2 n2 c2] 32)).alloc (.cells #[.int .i64 2, .int .i64 n, .int .u64 (ad : Int), vb, (.int .u8 (x.toNat : Int))] 40)).alloc (.cells #[.slice none 0 0, .slice none 0 0] 32)) := Lib.hid rfl
  obtain ⟨E, hE⟩ : ∃ E, E = aE W (.slice A1 n1 c1) (.slice A2 n2 c2) #[.int .i64 2, .int .i64 n, .int .u64 (ad : Int), vb, (.int .u8 (x.toNat : Int))] := ⟨_, rfl⟩
  rw [← hE] at ha3 hbE hsE HWE
  clear hE
  have HBE := Lib.hid hbE
  have HA3 := Lib.hid ha3
  have HSS := Lib.hid (show S b ∧ S d ∧ (∀ k, S k → k < W.heap.size) ∧ E.heap.size = W.heap.size + 3 from ⟨hSb, hSd, hSlt, hsE⟩)
  have HLT := Lib.hid (show b < W.heap.size ∧ d < W.heap.size from ⟨hm.lt, hm.dlt⟩)
  have hT : Rf E (fun k => S k ∨ W.heap.size ≤ k ∧ k < W.heap.size + 3) A1 n1 c1 A2 n2 c2 m := (hr.or (hr.newer (T := fun k => W.heap.size ≤ k ∧ k < W.heap.size + 3) (fun k hk => hk.1))).below hbE
  have hmE := hm.below hbE
  have s5 := ha3.c40
  have t5 := ha3.c41
  obtain ⟨y0, y1, y2, y3, y4⟩ := ha3.c5
  obtain ⟨z0, z1, z2⟩ := ha3.c7
  have HRW := Lib.hid (rFill_any hT hG.max (by omega) (fun k hk => by rcases hk with h | h; · have := hSlt k h; omega
                                                                      · omega) ad n x had hn)
  have HF := Lib.hid (fun X (h : Below E.heap.size E X) => Fill_any (hmE.below h) hG ad n x had hn)
  have HHM := Lib.hid hmE
  obtain ⟨xi, hxi⟩ : ∃ xi, xi = (x.toNat : Int) := ⟨_, rfl⟩
  rw [← hxi] at ha3 HA3 HWE HRW HF y4 ⊢
  have HXI := Lib.hid hxi
  clear hxi hm hG hcnt hr hSb hSd hSlt hn had ha3 hbE hsE hT hmE
  go_enter Try.func14, Try.ntmps14
  go_upto_region 1 with fail
  rw [← HWE.out]
  go_upto_region 15 with ((go_at_call 29; with_reducible refine HRW.out.mono ?_); rintro e w1 ⟨B1, p1, e1, B2, p2, e2, rfl, hrf, hb1⟩; have HRF := Lib.hid hrf; have HB1 := Lib.hid hb1; clear hrf hb1)
  have hb2 := below_alloc w1 (.cells #[.slice B1 p1 e1, .slice B2 p2 e2] 32)
  have hx2 := heap_alloc_new w1 (.cells #[.slice B1 p1 e1, .slice B2 p2 e2] 32)
  have hs1 := HB1.out.size
  generalize w1.alloc (.cells #[.slice B1 p1 e1, .slice B2 p2 e2] 32) = w2 at *
  obtain ⟨q, hq⟩ : ∃ q, q = w1.heap.size := ⟨_, rfl⟩
  have hbE2 : Below E.heap.size E w2 := HB1.out.trans (hb2.mono hs1)
  have HB12 := Lib.hid hb2
  have HBE2 := Lib.hid hbE2
  rw [← hq] at hx2 ⊢
  have hss := HSS.out
  have HX : Hid (∀ X, Chg (fun k => k = b ∨ k = d) w2 X → A3 W.heap.size (.slice A1 n1 c1) (.slice A2 n2 c2) #[.int .i64 2, .int .i64 n, .int .u64 (ad : Int), vb, .int .u8 xi] X ∧ X.heap[q]? = some (.cells #[.slice B1 p1 e1, .slice B2 p2 e2] 32 (0, 0))) := Lib.hid fun X hc => by
    have hlt := HLT.out
    exact ⟨(HA3.out.below hbE2).chg hc fun k hk => by omega, (hc.block _ (Array.getElem?_eq_some_iff.1 hx2).1 (fun hs => by omega)).trans hx2⟩
  obtain ⟨ha2, -⟩ := HX.out w2 (Chg.refl _ _)
  obtain ⟨a0, a1, a2, a3, a4⟩ := ha2.c5
  obtain ⟨a5, a6, a7⟩ := ha2.c7
  have u0 := cell_of_row w2 q 0 _ 32 (0, 0) hx2
  have u1 := cell_of_row w2 q 1 _ 32 (0, 0) hx2
  have HHF := Lib.hid (HF.out w2.drew hbE2.drew)
  have hqne : q ≠ W.heap.size + 1 + 1 := by omega
  clear HF ha2 hb2 hx2 hs1 hbE2 hss hq y0 y1 y2 y3 y4 s5 t5 z0 z1 z2
  go_region_held3 (fun w' => w'.cell? ⟨q, 0, none⟩ = some (.slice B1 p1 e1) ∧ w'.cell? ⟨q, 1, none⟩ = some (.slice B2 p2 e2) ∧ w'.cell? ⟨W.heap.size + 1, 2, none⟩ = some (.int .u64 (ad : Int)) ∧ w'.cell? ⟨W.heap.size + 1, 1, none⟩ = some (.int .i64 n) ∧ w'.cell? ⟨W.heap.size + 1, 4, none⟩ = some (.int .u8 xi)) (first | (refine ⟨?_, ?_, ?_, ?_, ?_⟩ <;> assumption) | (refine ⟨?_, ?_, ?_, ?_, ?_⟩ <;> exact cell_put2 (by assumption) (by omega))) (first
    | ((go_at_call 25; with_reducible refine HHF.out.mono ?_); rintro e w3 ⟨rfl, hm3, hc3⟩; have hc3 := (Chg.refl (fun k => k = b ∨ k = d) w2).drew.also hc3; have HM3 := Lib.hid hm3; have HC3 := Lib.hid hc3; obtain ⟨ha3, hx3⟩ := HX.out w3 hc3; have HA33 := Lib.hid ha3; obtain ⟨g5, g6, g7⟩ := ha3.c7; have v0 := cell_of_row w3 _ 0 _ 32 (0, 0) hx3; have v1 := cell_of_row w3 _ 1 _ 32 (0, 0) hx3; obtain ⟨o0, o1, o2, o3, o4⟩ := ha3.c5; clear hm3 hc3 ha3 hx3)
    | ((go_at_call 13; with_reducible refine (num_any _ _).mono ?_); rintro e w' ⟨rfl, rfl⟩))
  all_goals
    go_wp2
    refine bodyPost_ret (results_mid rfl _ _ (W.heap.size + 2) 32 #[.slice B1 p1 e1, .slice B2 p2 e2] (0, 0) _ rfl (set2 _ _ _ _ _ _ _ HA33.out.a7) Try.underlying32 rfl info32) rfl ?_
    have hcw : Chg (fun k => k = b ∨ k = d) W w3 := ((Chg.of_below HBE.out).then_below HBE2.out).also HC3.out
    have hrw : Rf w3 (fun k => S k ∨ W.heap.size ≤ k ∧ k < W.heap.size + 3) B1 p1 e1 B2 p2 e2 (m.ch ad n (List.replicate n.toNat x)) := (HRF.out.below HB12.out).chg (HC3.out.mono fun k hk => .inl (hk.elim (fun e => e ▸ HSS.out.1) (fun e => e ▸ HSS.out.2.1)))
    exact ac_end HM3.out hrw hcw HLT.out HSS.out.1 HSS.out.2.1 _ (put2 (S := fun q => q = W.heap.size + 1 + 1) (Chg.refl _ _) rfl _ _)
end
end Go.Proofs.Ytmnlkejhhdbhlaa
