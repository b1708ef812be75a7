/- The reference's Erase. Conditions stand in each theorem. -/
import Derived.Test.YtddejcoagcaidaaDE
import Derived.Test.YtddejcoagcaidaaU
import Derived.Deep.RegionWith
namespace Go.Proofs.Ytddejcoagcaidaa
open Go.RowKit
set_option linter.unusedVariables false
set_option maxHeartbeats 16000000
set_option maxRecDepth 100000
attribute [local go_sem ↓ 100000] builtin_appX2
theorem PrR.congr {lb : Nat} {w : World} {v : Value} {n : Nat} {f f' : Nat → Pg} (h : PrR lb w v n f) (e : ∀ j, j < n → f' j = f j) : PrR lb w v n f' := by
  obtain ⟨g, c, cur, e1, hc, h1, h2⟩ := h
  exact ⟨g, c, cur, e1, hc, h1, fun j hj => by rw [e j hj]; exact h2 j hj⟩
theorem GrR.congr {lb : Nat} {w : World} {v : Value} {n np : Nat} {F F' : Nat → Nat → Pg} (h : GrR lb w v n np F) (e : ∀ i j, i < n → j < np → F' i j = F i j) : GrR lb w v n np F' := by
  obtain ⟨g, c, cur, e1, hc, h1, h2⟩ := h
  refine ⟨g, c, cur, e1, hc, h1, fun i hi => ?_⟩
  obtain ⟨pv, h3, h4⟩ := h2 i hi
  exact ⟨pv, h3, h4.congr (fun j hj => e i j hi hj)⟩
/-- The device behind an operation that counts. -/
def Dev.nxt (s : Dev) (off : Bool) (i : Nat) (k : Bk) : Dev := (s.ctl s.po s.pb (s.n + 1) off).put i k
theorem Rd.nxt {w w' : World} {fs : List Int} {s : Dev} {vf vp ve vp' ve' : Value} {pb : Int} (h : Rd w fs s vf vp ve pb) (kt : KT w w') {i : Nat} (off : Bool) (k : Bk) (f : Nat → Pg) (hg : GrR s.lo w' vp' s.nb s.np (fun j => if j = i then f else pgF s j)) (hf : ∀ j, j < s.np → f j = (k.pg[j]?).getD ⟨1, [], []⟩)
    (he : IntL w' ve' ((List.range s.nb).map fun j => if j = i then k.er else (s.bk j).er)) : Rd w' fs (s.nxt off i k) vf vp' ve' pb := by
  refine ⟨h.flt.kt kt, h.mem, hg.congr (fun a j _ hj => ?_), ?_, h.cut, h.pb0⟩
  · unfold pgF Dev.nxt Dev.put Dev.ctl upd
    by_cases e : a = i
    · subst e
      simp only [if_true]
      exact (hf j hj).symm
    · simp only [if_neg e]
  · have e : ((List.range s.nb).map fun j => if j = i then k.er else (s.bk j).er) = (List.range (s.nxt off i k).nb).map fun j => ((s.nxt off i k).bk j).er := by
      apply List.map_congr_left
      intro j _
      unfold Dev.nxt Dev.put Dev.ctl upd
      by_cases e : j = i
      · simp [e]
      · simp [e]
    rw [← e]
    exact he
/-- A row whose first j cells have been stored anew; nothing else has changed. -/
structure St (W0 W : World) (g : Nat) (t : TypeId) (vals : Array Value) (j : Nat) : Prop where
  row : ∃ cs : Array Value, W.heap[g]? = some (.cells cs t (0, 0)) ∧ cs.size = vals.size ∧ ∀ i, i < j → cs[i]? = vals[i]?
  oth : ∀ k, k ≠ g → W.heap[k]? = W0.heap[k]?
  bel : ∀ B w, B ≤ g → Below B w W0 → Below B w W
theorem St.start {W : World} {g : Nat} {t : TypeId} {cs vals : Array Value} (h : W.heap[g]? = some (.cells cs t (0, 0))) (hs : cs.size = vals.size) : St W W g t vals 0 := ⟨⟨cs, h, hs, fun i hi => absurd hi (by omega)⟩, fun _ _ => rfl, fun _ _ _ h => h⟩
theorem St.set {W0 W : World} {g j : Nat} {t : TypeId} {vals : Array Value} (h : St W0 W g t vals j) (a : Value) (ha : vals[j]? = some a) : St W0 (W.setCell ⟨g, j, none⟩ a) g t vals (j + 1) := by
  obtain ⟨cs, h1, h2, h3⟩ := h.row
  have hj : j < vals.size := (Array.getElem?_eq_some_iff.1 ha).1
  refine ⟨⟨cs.setIfInBounds j a, heap_setCell_same W g j cs t a h1, by rw [Array.size_setIfInBounds]; exact h2, fun i hi => ?_⟩, fun k hk => (heap_setCell_other W ⟨g, j, none⟩ k a hk).trans (h.oth k hk), fun B w hB hb => (h.bel B w hB hb).setCell (p := ⟨g, j, none⟩) hB a⟩
  by_cases e : i = j
  · subst e
    rw [Array.getElem?_setIfInBounds_self_of_lt (by omega)]
    exact ha.symm
  · rw [Array.getElem?_setIfInBounds_ne (fun e' => e e'.symm)]
    exact h3 i (by omega)
theorem St.done {W0 W : World} {g : Nat} {t : TypeId} {vals : Array Value} (h : St W0 W g t vals vals.size) : W.heap[g]? = some (.cells vals t (0, 0)) := by
  obtain ⟨cs, h1, h2, h3⟩ := h.row
  have : cs = vals := by
    apply Array.ext h2
    intro i hi hi2
    have := h3 i hi2
    simpa [hi, hi2] using this
  rw [← this]
  exact h1
theorem er_cases {s : Dev} {q : Int} (i : Nat) (hq : q = (i : Int)) (hi : i < s.nb) (ho : s.off = false) (he : (s.bk i).er ≠ s.en) : s.erE q = s.exE 55 ∧ s.erS q = s.nxt (if s.n = s.po then true else false) i ⟨(s.bk i).er + 1, if s.exE 55 = 0 then [] else List.replicate s.np ⟨5, [], []⟩⟩ := by
  subst hq
  have h1 := hasB_of hi
  have h2 := ers_nat hi
  constructor
  · unfold Dev.erE
    rw [if_neg (by rw [h1]; decide), if_neg (by rw [ho]; decide), if_neg (by rw [h2]; exact he)]
  · unfold Dev.erS
    rw [if_pos ⟨h1, ho, by rw [h2]; exact he⟩]
    unfold Dev.exS Dev.exE Dev.nxt Dev.e1 Dev.eU Dev.eN Dev.cut Dev.go Dev.put Dev.ctl
    simp only [Int.toNat_natCast, upd_same]
    by_cases h3 : s.n = s.po
    · simp only [if_pos h3, if_neg (show ¬ (50 : Int) = 0 by decide)]
      congr 1
      funext j
      unfold upd
      by_cases e : j = i
      · simp [e]
      · simp [e]
    · simp only [if_neg h3]
      by_cases h4 : s.F.contains s.n = true
      · simp only [if_pos h4, if_neg (show ¬ (55 : Int) = 0 by decide)]
        rw [ho]
        congr 1
        funext j
        unfold upd
        by_cases e : j = i
        · simp [e]
        · simp [e]
      · simp only [if_neg h4, if_true]
        rw [ho]
        congr 1
        funext j
        unfold upd
        by_cases e : j = i
        · simp [e]
        · simp [e]
end Go.Proofs.Ytddejcoagcaidaa
