/- The walk of ArbiterRuns. Conditions stand in each theorem. The walk of ArbiterCopies. Conditions stand in each theorem. -/
import Derived.Test.YtildofclgofjdaaZP
import Derived.Deep.DeepCutAuto
import Derived.Deep.CutRange
namespace Go.Proofs.Ytildofclgofjdaa
section
open Go.RowKit Go.Shelf
set_option linter.unusedVariables false
set_option maxHeartbeats 4000000
set_option maxRecDepth 100000
attribute [local go_sem ↓ 100000] loadX_eq storeX_eq loadA_eq
theorem few_len {L : List KC} (h : fewB L = true) : L.length ≤ 60 ∧ ∀ e ∈ L, e.l.length ≤ 30 := by
  unfold fewB at h
  rw [Bool.and_eq_true, List.all_eq_true] at h
  exact ⟨of_decide_eq_true h.1, fun e he => of_decide_eq_true (h.2 e he)⟩
theorem off_old {w : World} {x : KC} (h : KC.ok w x) {b : Nat} (hb : w.heap.size ≤ b) : Off (· = b) x.lv x.l := by
  rintro h0 i hi rfl
  obtain ⟨A, c, e, _, hr⟩ := h.1
  obtain ⟨g, o, e2, hg, _⟩ := hr h0
  rw [e, e2] at hi
  simp only [Value.ownBlock, Option.some.injEq] at hi
  omega
theorem runs_walk (wt : Bool) (bu hi me lo : Int) (v : Value) (L : List KC) (w : World) (hv : Acts w v L) (hok : ∀ e ∈ L, KC.ok w e) :
    Calls Try.prog 3 #[.agg #[.bool wt, .int .i64 bu, .int .i64 hi, .int .i64 me, .int .i64 lo], v] w (OkPost w) := by
  have HFEW := Lib.hid (fun (W : World) (hW : Below w.heap.size w W) => few_any v L W (hv.below hW) (fun e he => (hok e he).below hW))
  have HKN := Lib.hid (fun W => known_any W)
  have hb0 := below_alloc w (.cells #[.bool wt, .int .i64 bu, .int .i64 hi, .int .i64 me, .int .i64 lo] 23)
  have HB0 := Lib.hid hb0
  have HZ0 := Lib.hid (World.size_alloc w (.cells #[.bool wt, .int .i64 bu, .int .i64 hi, .int .i64 me, .int .i64 lo] 23))
  have HCF0 := Lib.hid (CfgAt.new w wt bu hi me lo)
  have H11 := Lib.hid (fun W => rvalid_any wt bu hi me lo W)
  obtain ⟨A, c, rfl, hrow⟩ := hv
  have HROW := Lib.hid hrow
  have HOKS := Lib.hid hok
  clear hb0 hrow hok
  cases hval : valB wt bu hi me lo
  · have N1 := Lib.hid (fun W => New_bad wt bu hi me lo W hval)
    rw [hval] at H11
    clear hval
    go_enter Try.func3, Try.ntmps3
    go_wp2_with (first
      | ((go_at_call 10; with_reducible refine (N1.out _).mono ?_); rintro e w1 ⟨rfl, hb⟩; have HB1 := Lib.hid (HB0.out.trans (hb.mono HB0.out.size)); obtain ⟨k0, k1, k2, k3, k4⟩ := (HCF0.out.below hb).cells; clear hb)
      | ((go_at_call 11; with_reducible refine (H11.out _).mono ?_); rintro e w2 ⟨rfl, hb2⟩; have HB2 := Lib.hid (HB1.out.trans (hb2.mono HB1.out.size)); clear hb2)
      | ((go_at_call 12; with_reducible refine (HKN.out _).mono ?_); rintro e w3 ⟨rfl, hb3⟩))
    go_ret
    exact ⟨rfl, HB2.out.trans (hb3.mono HB2.out.size)⟩
  · have N1 := Lib.hid (fun W => New_ok wt bu hi me lo W hval)
    have HOK0 := Lib.hid (new_ok hval)
    rw [hval] at H11
    clear hval
    cases hf : fewB L
    · rw [hf] at HFEW
      clear hf
      go_enter Try.func3, Try.ntmps3
      go_wp2_with (first
        | ((go_at_call 10; with_reducible refine (N1.out _).mono ?_); rintro e w1 ⟨ba, ma, rfl, hA, hga, hgm, hb⟩; have HB1 := Lib.hid (HB0.out.trans (hb.mono HB0.out.size)); obtain ⟨k0, k1, k2, k3, k4⟩ := (HCF0.out.below hb).cells; clear hb hA hga hgm)
        | ((go_at_call 11; with_reducible refine (H11.out _).mono ?_); rintro e w2 ⟨rfl, hb2⟩; have HB2 := Lib.hid (HB1.out.trans (hb2.mono HB1.out.size)); clear hb2)
        | ((go_at_call 13; with_reducible refine (HFEW.out _ HB2.out).mono ?_); rintro e w2' ⟨rfl, rfl⟩)
        | ((go_at_call 12; with_reducible refine (HKN.out _).mono ?_); rintro e w3 ⟨rfl, hb3⟩))
      go_ret
      exact ⟨rfl, HB2.out.trans (hb3.mono HB2.out.size)⟩
    · obtain ⟨hl60, hl30⟩ := few_len hf
      have HL30 := Lib.hid hl30
      rw [hf] at HFEW
      clear hf hl30
      have N14 := Lib.hid (fun W => rnew_any wt bu hi me lo W)
      have hl60i : (L.length : Int) ≤ 60 := by omega
      go_enter Try.func3, Try.ntmps3
      go_upto_region 8 with (first
        | ((go_at_call 10; with_reducible refine (N1.out _).mono ?_); rintro e w1 ⟨ba, ma, rfl, hA, hga, hgm, hb⟩; have HB1 := Lib.hid (HB0.out.trans (hb.mono HB0.out.size)); have HCF1 := Lib.hid (HCF0.out.below hb); obtain ⟨k0, k1, k2, k3, k4⟩ := HCF1.out.cells; have HA1 := Lib.hid hA; have hgb : w.heap.size < ba := (by have := HZ0.out; omega); have hgm2 : w.heap.size < ma := (by have := HZ0.out; omega); clear hb hA hga hgm)
        | ((go_at_call 11; with_reducible refine (H11.out _).mono ?_); rintro e w2 ⟨rfl, hb2⟩; have HB2 := Lib.hid (HB1.out.trans (hb2.mono HB1.out.size)); have HA2 := Lib.hid (HA1.out.below hb2); obtain ⟨j0, j1, j2, j3, j4⟩ := (HCF1.out.below hb2).cells; clear hb2)
        | ((go_at_call 13; with_reducible refine (HFEW.out _ HB2.out).mono ?_); rintro e w2' ⟨rfl, rfl⟩)
        | ((go_at_call 14; with_reducible refine (N14.out _).mono ?_); rintro e w4 ⟨he4, hb4⟩; subst he4; have HB4 := Lib.hid (HB2.out.trans (hb4.mono HB2.out.size)); have HA4 := Lib.hid (HA2.out.below hb4); obtain ⟨v1, v2, v3⟩ := var_put w4 (St.new wt bu hi me lo) none 0 0; have V1 := v1; unfold zero35 at V1; have V2 := Lib.hid v2; have V3 := Lib.hid v3; clear hb4 v1 v2 v3))
      have HX : Hid (w.heap.size < w4.heap.size) := Lib.hid (by have h1 := HA4.out.lt; omega)
      have HR0 : Hid (RJ (fun k => k = ba ∨ k = w4.heap.size) ba ma w4.heap.size (St.new wt bu hi me lo) (.slice none 0 0) ((w4.alloc (.cells zero35 35)).setRow w4.heap.size (RC (St.new wt bu hi me lo) (.slice none 0 0)))) := Lib.hid ⟨HA4.out.below V3.out, HOK0.out, Lds.nil _, fun h => absurd h (by simp [St.new]), V2.out⟩
      have HBX : Hid (Below w.heap.size w ((w4.alloc (.cells zero35 35)).setRow w4.heap.size (RC (St.new wt bu hi me lo) (.slice none 0 0)))) := Lib.hid (HB4.out.trans (V3.out.mono HB4.out.size))
      obtain ⟨W0, hW0⟩ : ∃ W0, W0 = (w4.alloc (.cells #[.bool false, .int .i64 0, .int .i64 0, .int .i64 0, .int .i64 0, .slice none 0 0, .int .i64 0, .int .i64 0, .int .i64 0, .int .i64 0, .int .i64 0, .int .i64 0, .int .i64 0, .int .i64 0] 35)).setRow w4.heap.size (RC (St.new wt bu hi me lo) (.slice none 0 0)) := ⟨_, rfl⟩
      have HR1 : Hid (RJ (fun k => k = ba ∨ k = w4.heap.size) ba ma w4.heap.size (St.new wt bu hi me lo) (.slice none 0 0) W0) := Lib.hid (by rw [hW0]; exact HR0.out)
      have HB1' : Hid (Below w.heap.size w W0) := Lib.hid (by rw [hW0]; exact HBX.out)
      have hx := HX.out
      rw [← hW0]
      clear hW0 V1 V2 V3 HR0 HBX k0 k1 k2 k3 k4 j0 j1 j2 j3 j4 HFEW N1 H11 N14 HX HA4
      obtain ⟨X, hX⟩ : ∃ X, X = w4.heap.size := ⟨_, rfl⟩
      rw [← hX] at HR1 hx ⊢
      clear hX
      go_loopw [8] (fun i wr => ∃ (k : Nat) (s : St) (A1 : Option Addr) (n1 c1 : Nat), k ≤ L.length ∧ i = .int .i64 k ∧ Hid (RJ (fun k => k = ba ∨ k = X) ba ma X s (.slice A1 n1 c1) wr) ∧ Hid (Below w.heap.size w wr)) (fun i _ => L.length - (RowKit.intOf i).toNat)
      case atStart => exact ⟨0, _, none, 0, 0, Nat.zero_le _, rfl, HR1, HB1'⟩
      case round =>
        obtain ⟨k, s, A1, n1, c1, hk, rfl, HRI, HBW⟩ := hrel
        by_cases hlt : k < L.length
        · obtain ⟨g, o, hA, hg, hcell⟩ := HROW.out (by omega)
          subst hA
          have hbd : Below w.heap.size w wr.drew := HBW.out.drew
          have hrd : Below wr.heap.size wr wr.drew := (Below.refl _ _).drew
          have HRD := Lib.hid (HRI.out.later hrd)
          have hact := ((hcell k hlt).below hg hbd).load
          have hldX : (loadX ⟨X, 0, none⟩).run Try.prog wr.drew = .ok (.agg (RC s (.slice A1 n1 c1))) wr.drew := run_loadVar_row _ X 35 35 _ (0, 0) _ HRD.out.row Try.underlying35 rfl info35
          have hmem := List.getElem_mem hlt
          have HDO := Lib.hid (do_any ba ma s A1 n1 c1 L[k] wr.drew HRD.out.arb HRD.out.ok HRD.out.lds (HRD.out.offs (fun i hi => .inl hi)) ((HOKS.out _ hmem).below hbd) (off_old (HOKS.out _ hmem) (by omega)) (HL30.out _ hmem))
          generalize L[k] = x at *
          have hki0 : (0 : Int) ≤ (k : Int) := by omega
          have hki1 : (k : Int) < (L.length : Int) := by omega
          clear hcell hmem hrd
          go_upto_region 11 with fail
          refine Code.wp_mono nrm_le ?_
          go_region_with ((go_at_call 15; with_reducible refine HDO.out.mono ?_); rintro e w3 ⟨s', A', n', c', rfl, ha, hO, hl, hc, hkp⟩; obtain ⟨hst0, hri, hch⟩ := HRD.out.step (.inr rfl) (fun k hk => hk.elim (fun e => by rw [e]; exact HRD.out.arb.lt) (fun e => by rw [e]; exact HRD.out.lt)) ha hO hl hc hkp; have hst : (storeX ⟨X, 0, none⟩ (.agg (RC s' (.slice A' n' c')))).run Try.prog w3 = .ok () (w3.setRow X (RC s' (.slice A' n' c'))) := hst0; have HRI2 := Lib.hid hri; have HCH := Lib.hid hch; clear ha hO hl hc hkp hst0 hri hch)
          all_goals
            simp only [nrm]
            go_wp2
            go_roundw
            case rel => exact ⟨k + 1, s', A', n', c', by omega, by go_num, HRI2, Lib.hid (HBW.out.drew.trans (HCH.out.below (by have := HBW.out.size; exact this) (fun i hi => by omega)))⟩
            case measure => simp [RowKit.intOf]; omega
        · go_wp2_with ((go_at_call 12; with_reducible refine (HKN.out _).mono ?_); rintro e w9 ⟨rfl, hb9⟩)
          go_ret
          exact ⟨rfl, HBW.out.trans (hb9.mono HBW.out.size)⟩
end
section
open Go.RowKit Go.Shelf
set_option linter.unusedVariables false
set_option maxHeartbeats 4000000
set_option maxRecDepth 100000
attribute [local go_sem ↓ 100000] loadX_eq storeX_eq loadA_eq
/-- The three blocks of an arbiter and its reference. -/
def BB3 (b m X : Nat) (k : Nat) : Prop := k = b ∨ k = m ∨ k = X
/-- Two arbiters with their references, apart. -/
structure R2 (b m X b' m' X' : Nat) (s : St) (v : Value) (s' : St) (v' : Value) (W : World) : Prop where
  one : RJ (fun k => BB3 b m X k ∨ BB3 b' m' X' k) b m X s v W
  two : RJ (fun k => BB3 b m X k ∨ BB3 b' m' X' k) b' m' X' s' v' W
  ap : ∀ k, BB3 b m X k → ¬ BB3 b' m' X' k
theorem R2.later {b m X b' m' X' : Nat} {s s' : St} {v v' : Value} {W W' : World} (h : R2 b m X b' m' X' s v s' v' W) (hb : Below W.heap.size W W') : R2 b m X b' m' X' s v s' v' W' := ⟨h.one.later hb, h.two.later hb, h.ap⟩
theorem RJ.b3 {S : Nat → Prop} {b m X : Nat} {s : St} {v : Value} {W : World} (h : RJ S b m X s v W) : ∀ k, BB3 b m X k → k < W.heap.size := by
  rintro k (rfl | rfl | rfl)
  · exact h.arb.lt
  · exact h.arb.map.lt
  · exact h.lt
theorem R2.step1 {b m X b' m' X' : Nat} {s s' r : St} {v' : Value} {W W3 : World} {A A' : Option Addr} {n c n' c' : Nat} (h : R2 b m X b' m' X' s (.slice A n c) s' v' W) (ha : Arb W3 b m r) (hO : Ok r) (hl : Lds W3 (.slice A' n' c') r.L) (hc : Chg (fun k => k = b ∨ k = m) W W3) (hk : Kp W (.slice A n c) s.L (.slice A' n' c') r.L) :
    (storeX ⟨X, 0, none⟩ (.agg (RC r (.slice A' n' c')))).run Try.prog W3 = .ok () (W3.setRow X (RC r (.slice A' n' c'))) ∧ R2 b m X b' m' X' r (.slice A' n' c') s' v' (W3.setRow X (RC r (.slice A' n' c'))) ∧ Chg (fun k => k = b ∨ k = m ∨ k = X) W (W3.setRow X (RC r (.slice A' n' c'))) := by
  obtain ⟨h1, h2, h3⟩ := h.one.step (.inl (.inr (.inr rfl))) (fun k hk => hk.elim (h.one.b3 k) (h.two.b3 k)) ha hO hl hc hk
  exact ⟨h1, ⟨h2, h.two.chg h3 (fun k hk _ => .inl hk) (fun e => h.ap _ e (.inl rfl)) (fun e => h.ap _ e (.inr (.inl rfl))) (fun e => h.ap _ e (.inr (.inr rfl))), h.ap⟩, h3⟩
theorem R2.swap {b m X b' m' X' : Nat} {s s' : St} {v v' : Value} {W : World} (h : R2 b m X b' m' X' s v s' v' W) : R2 b' m' X' b m X s' v' s v W := by
  have e : (fun k => BB3 b m X k ∨ BB3 b' m' X' k) = (fun k => BB3 b' m' X' k ∨ BB3 b m X k) := by funext k; exact propext Or.comm
  exact ⟨e ▸ h.two, e ▸ h.one, fun k h1 h2 => h.ap k h2 h1⟩
/-- The copy. -/
theorem R2.made {b m X b' m' X' : Nat} {s : St} {v : Value} {W W' : World} (h : RJ (BB3 b m X) b m X s v W) (hb : Below W.heap.size W W') (ha : Arb W' b' m' s) (h1 : W.heap.size ≤ b') (h2 : W.heap.size ≤ m') (h3 : W.heap.size ≤ X') (hr : W'.heap[X']? = some (.cells (RC s v) 35 (0, 0))) : R2 b m X b' m' X' s v s v W' := by
  have hap : ∀ k, BB3 b m X k → ¬ BB3 b' m' X' k := fun k hk hk' => by
    have := h.b3 k hk
    rcases hk' with rfl | rfl | rfl <;> omega
  have hoff : Off (fun k => BB3 b m X k ∨ BB3 b' m' X' k) v s.L := fun h0 i hi hs => by
    rcases hs with hs | hs
    · exact h.off h0 i hi hs
    · have hlt : i < W.heap.size := by
        obtain ⟨A, c, rfl, _, hr⟩ := h.lds
        obtain ⟨g, o, rfl, hg, _⟩ := hr h0
        simp only [Value.ownBlock, Option.some.injEq] at hi
        omega
      rcases hs with rfl | rfl | rfl <;> omega
  have h' := h.later hb
  exact ⟨⟨h'.arb, h'.ok, h'.lds, hoff, h'.row⟩, ⟨ha, h.ok, h'.lds, hoff, hr⟩, hap⟩
end
end Go.Proofs.Ytildofclgofjdaa
