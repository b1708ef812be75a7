/- One call on a device and its reference, whatever it is. Conditions stand in each theorem. -/
import Derived.Test.YtddejcoagcaidaaDQ
import Derived.Test.YtddejcoagcaidaaY
namespace Go.Proofs.Ytddejcoagcaidaa
open Go.RowKit
set_option linter.unusedVariables false
set_option maxHeartbeats 4000000
set_option maxRecDepth 100000
/-- The device behind a call. -/
def actS (s : Dev) (X : KA) : Dev :=
  if X.wh = 0 ∨ X.wh = 1 ∨ X.wh = 2 ∨ X.wh = 3 then s.prS X.bl X.pg X.x X.y else if X.wh = 4 then s.erS X.bl else if X.wh = 5 then s else if X.wh = 6 then s.cuS X.bl X.pg else s.ctl (-1) 0 s.n false
theorem gd_act {s : Dev} (h : Gd s) (X : KA) : Gd (actS s X) := by
  unfold actS
  split
  · exact gd_pr h _ _ _ _
  · split
    · exact gd_er h _
    · split
      · exact h
      · split
        · exact gd_cu h _ _
        · exact gd_rs h
theorem n_act (s : Dev) (X : KA) : (actS s X).n ≤ s.n + 1 := by
  unfold actS
  split
  · exact n_pr _ _ _ _ _
  · split
    · exact n_er _ _
    · split
      · omega
      · split
        · rw [n_cu]; omega
        · show s.n ≤ s.n + 1; omega
theorem act_any {w : World} {base b g m : Nat} {V : Nat → Value} {fs : List Int} {s : Dev} {vf vp ve : Value} {pb : Int} (h : Dv w base b g m V s) (hg : Gd s) (hr : Rd w fs s vf vp ve pb) (hn : s.n ≤ 1000000000) (hl : fs.length ≤ 1000) (X : KA) (hX : X.ok w) (hx : X.x.length ≤ 100000) (hy : X.y.length ≤ 100000) (od : Off (· = b) X.vd X.x) (os : Off (· = b) X.vs X.y) :
    Calls Try.prog 14 #[.pointer (some ⟨b, 0, none⟩), .agg (rdv s vf vp ve pb), .agg X.enc.toArray] w (ActPost w base b g m V fs s (actS s X)) := by
  have hT : ∀ k : Int, X.wh = k → (X.wh == k) = true := fun k e => by rw [e]; exact beq_self_eq_true k
  have hF : ∀ k : Int, X.wh ≠ k → (X.wh == k) = false := fun k e => by simpa using e
  unfold actS
  by_cases h0 : X.wh = 0
  · rw [if_pos (.inl h0)]
    exact act_pr0 h hg hr hn hl X (hT 0 h0) hX hx hy od os
  by_cases h1 : X.wh = 1
  · rw [if_pos (.inr (.inl h1))]
    exact act_pr1 h hg hr hn hl X (hF 0 h0) (hT 1 h1) hX hx hy od os
  by_cases h2 : X.wh = 2
  · rw [if_pos (.inr (.inr (.inl h2)))]
    exact act_pr2 h hg hr hn hl X (hF 0 h0) (hF 1 h1) (hT 2 h2) hX hx hy od os
  by_cases h3 : X.wh = 3
  · rw [if_pos (.inr (.inr (.inr h3)))]
    exact act_pr3 h hg hr hn hl X (hF 0 h0) (hF 1 h1) (hF 2 h2) (hT 3 h3) hX hx hy od os
  rw [if_neg (by rintro (e | e | e | e) <;> contradiction)]
  by_cases h4 : X.wh = 4
  · rw [if_pos h4]
    exact act_er h hg hr hn hl X (hF 0 h0) (hF 1 h1) (hF 2 h2) (hF 3 h3) (hT 4 h4)
  rw [if_neg h4]
  by_cases h5 : X.wh = 5
  · rw [if_pos h5]
    exact act_rd h hg hr X (hF 0 h0) (hF 1 h1) (hF 2 h2) (hF 3 h3) (hF 4 h4) (hT 5 h5)
  rw [if_neg h5]
  by_cases h6 : X.wh = 6
  · rw [if_pos h6]
    exact act_cu h hg hr hn hl X (hF 0 h0) (hF 1 h1) (hF 2 h2) (hF 3 h3) (hF 4 h4) (hF 5 h5) (hT 6 h6)
  rw [if_neg h6]
  exact act_rs h hg hr X (hF 0 h0) (hF 1 h1) (hF 2 h2) (hF 3 h3) (hF 4 h4) (hF 5 h5) (hF 6 h6)
end Go.Proofs.Ytddejcoagcaidaa
