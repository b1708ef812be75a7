/- The walk of JournalDecodes. No condition on the argument. -/
import Derived.Test.YtajlddgemkkcdaaGreatPF
import Derived.Test.YtajlddgemkkcdaaGreatOP
namespace Go.Proofs.YtajlddgemkkcdaaGreat
open Go.RowKit
set_option linter.unusedVariables false
set_option maxHeartbeats 8000000
set_option maxRecDepth 100000
attribute [local go_sem ↓ 100000] builtin_appX
theorem one_append (W : World) (v : Value) (l : List UInt8) (h : Byt W v l) (hl : l.length ≤ 1000) :
    ∃ A c wa, (appX #[22, 22] 22 #[.slice (some ⟨W.heap.size, 0, none⟩) 0 0, v]).run Tryz.prog (W.alloc (.cells #[] 5)) = .ok (.value (.slice A l.length c)) wa ∧ Byt wa (.slice A l.length c) l ∧ Below W.heap.size W wa := by
  have b0 := alloc_below W (.cells #[] 5)
  obtain ⟨va, wa, hr1, o1, g1, -⟩ := run_append_own_src (W.alloc (.cells #[] 5)) W.heap.size 0 (.slice (some ⟨W.heap.size, 0, none⟩) 0 0) v [] l 22 (World.ownsRow_made W #[] 0 (Nat.le_refl _) (by simp) rfl) (h.below b0) (by omega) (by simp)
  rw [List.nil_append, Nat.zero_add] at o1
  obtain ⟨A, c, rfl⟩ := own_form8 o1
  exact ⟨A, c, wa, appX_run hr1, Byt.of_own o1, b0.grown g1 (by simp) (by simp [Value.ownBlock])⟩
theorem ents_rng (l : List UInt8) (hl : l.length ≤ 8192) : (decL l).length ≤ 1000000 := by
  by_cases h : decE l = 0
  · rw [decL_ok h, ents_length]
    have hc : capF l.length ≠ 0 := fun e => by rw [decE_arg e] at h; omega
    have hg : Good l := Classical.byContradiction fun hg => by rw [decE_bad hc hg] at h; omega
    have := hg.1
    omega
  · rw [decL_bad h]; simp
theorem decodes_any (v : Value) (l : List UInt8) (w : World) (h : Byt w v l) : Calls Tryz.prog 3 #[v] w (LawPost w) := by
  have HWK := Lib.hid works_any
  have H := Lib.hid h
  obtain ⟨A, c, rfl, -, -⟩ := h
  by_cases h1 : 400 < l.length
  · have h1z : (400 : Int) < (l.length : Int) := by omega
    go_enter Tryz.func3, Tryz.ntmps3
    go_wp2_with ((go_at_call 5; (with_reducible refine (HWK.out _).mono ?_)); rintro e w2 ⟨rfl, hb2⟩; have HB2 := Lib.hid hb2; clear hb2)
    go_ret
    exact ⟨rfl, HB2.out⟩
  have h1z : (l.length : Int) ≤ 400 := by omega
  obtain ⟨B, d, wa, hrun, hby, hba⟩ := one_append w _ l H.out (by omega)
  have HD := Lib.hid (decode_any _ l wa hby (by omega))
  have HRD := Lib.hid (fun (W : World) (hW : Below w.heap.size w W) => rdecode_any _ l W (H.out.below hW) (by omega))
  have HBA := Lib.hid hba
  have HLL := Lib.hid (ents_rng l (by omega))
  clear hby hba h1
  unfold DecPost at HD HRD
  generalize decL l = L at *
  generalize decE l = E at *
  have HSM := Lib.hid (fun (W : World) (v u : Value) (hv : Ent W v L) (hu : Ent W u L) => same_any v u L L W hv hu HLL.out HLL.out)
  have HDT : Hid (∀ W v u, Ent W v L → Ent W u L → Calls Tryz.prog 8 #[v, u] W (Ret W (.bool true))) := Lib.hid (fun W v u hv hu => by
    have := HSM.out W v u hv hu
    rwa [decide_eq_true rfl] at this)
  clear HSM
  go_enter Tryz.func3, Tryz.ntmps3
  go_wp2_with (first
    | ((go_at_call 6; with_reducible refine HD.out.mono ?_); rintro e w1 ⟨⟨A1, c1, rfl, he⟩, hb⟩; have HE1 := Lib.hid he; have HB1 := Lib.hid (HBA.out.trans (hb.mono HBA.out.size)); clear he hb)
    | ((go_at_call 7; with_reducible refine (HRD.out _ HB1.out).mono ?_); rintro e w2 ⟨⟨A2, c2, rfl, he⟩, hb⟩; have HE2 := Lib.hid he; have HE12 := Lib.hid (HE1.out.below hb); have HB2 := Lib.hid (HB1.out.trans (hb.mono HB1.out.size)); clear he hb)
    | ((go_at_call 8; with_reducible refine (HDT.out _ _ _ HE12.out HE2.out).mono ?_); rintro e w3 ⟨rfl, hg⟩; have HB3 := Lib.hid (HB2.out.trans (hg.below.mono HB2.out.size)); clear hg)
    | ((go_at_call 9; with_reducible refine (num_any _ _).mono ?_); rintro e w4 ⟨rfl, hg⟩; have HB4 := Lib.hid (HB3.out.trans (hg.below.mono HB3.out.size)); clear hg)
    | ((go_at_call 5; (with_reducible refine (HWK.out _).mono ?_)); rintro e w5 ⟨rfl, hb⟩; have HB5 := Lib.hid (HB4.out.trans (hb.mono HB4.out.size)); clear hb))
  go_ret
  exact ⟨rfl, HB5.out⟩
end Go.Proofs.YtajlddgemkkcdaaGreat
