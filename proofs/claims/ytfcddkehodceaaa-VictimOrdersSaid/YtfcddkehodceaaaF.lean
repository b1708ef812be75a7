/- The preference is an order; the sorting of ranked candidates in memory. Conditions stand in each theorem. -/
import Derived.Test.YtfcddkehodceaaaE
import Derived.Test.YtfcddkehodceaaaSC
namespace Go.Proofs.Ytfcddkehodceaaa
open Go.RowKit Go.Sort
set_option linter.unusedVariables false
set_option maxHeartbeats 4000000
set_option maxRecDepth 100000
theorem add_plain (g o j : Nat) : (⟨g, o, none⟩ : Addr).add j = ⟨g, o + j, none⟩ := by unfold Addr.add; split <;> simp_all
/-- The score of x is not below that of y. -/
def Sge (x y : Cd) : Prop := y.num * x.den ≤ x.num * y.den
theorem Sge.total (x y : Cd) : Sge x y ∨ Sge y x := by unfold Sge; omega
theorem Sge.trans {x y z : Cd} (hx : x.use) (hy : y.use) (hz : z.use) (h1 : Sge x y) (h2 : Sge y z) : Sge x z := by
  obtain ⟨a1, a2, a3, a4, a5⟩ := x.use_bd hx
  obtain ⟨b1, b2, b3, b4, b5⟩ := y.use_bd hy
  obtain ⟨c1, c2, c3, c4, c5⟩ := z.use_bd hz
  unfold Sge at *
  generalize x.num = p at *
  generalize x.den = q at *
  generalize y.num = r at *
  generalize y.den = s at *
  generalize z.num = t at *
  generalize z.den = u at *
  -- r q ≤ p s, t s ≤ r u, so t q ≤ p u
  have hD : 0 < r + s := by
    by_cases h : s = 0
    · have := b5 h; omega
    · omega
  have k1 : r * q * u ≤ p * s * u := Int.mul_le_mul_of_nonneg_right h1 c3
  have k2 : t * s * q ≤ r * u * q := Int.mul_le_mul_of_nonneg_right h2 a3
  have k3 : r * q * t ≤ p * s * t := Int.mul_le_mul_of_nonneg_right h1 c1
  have k4 : t * s * p ≤ r * u * p := Int.mul_le_mul_of_nonneg_right h2 a1
  have e1 : s * (t * q) ≤ s * (p * u) := by
    have x1 : t * s * q = s * (t * q) := by rw [Int.mul_comm t s, Int.mul_assoc]
    have x2 : r * u * q = r * q * u := by rw [Int.mul_assoc, Int.mul_comm u q, ← Int.mul_assoc]
    have x3 : p * s * u = s * (p * u) := by rw [Int.mul_comm p s, Int.mul_assoc]
    omega
  have e2 : r * (t * q) ≤ r * (p * u) := by
    have x1 : r * q * t = r * (t * q) := by rw [Int.mul_assoc, Int.mul_comm q t]
    have x2 : p * s * t = t * s * p := by rw [Int.mul_comm p s, Int.mul_assoc, Int.mul_comm p t, ← Int.mul_assoc, Int.mul_comm s t]
    have x3 : r * u * p = r * (p * u) := by rw [Int.mul_assoc, Int.mul_comm u p]
    omega
  have e3 : (r + s) * (t * q) ≤ (r + s) * (p * u) := by rw [Int.add_mul, Int.add_mul]; omega
  exact Int.le_of_mul_le_mul_left e3 hD
/-- x comes before y: it is preferred, or neither is and its place is the lower. -/
def Qr (x y : Rk) : Prop := ¬ Sge y.c x.c ∨ Sge x.c y.c ∧ Sge y.c x.c ∧ (y.c.ag < x.c.ag ∨ y.c.ag = x.c.ag ∧ (x.c.bl < y.c.bl ∨ x.c.bl = y.c.bl ∧ x.pl < y.pl))
theorem Qr.trans {x y z : Rk} (hx : x.c.use) (hy : y.c.use) (hz : z.c.use) (h1 : Qr x y) (h2 : Qr y z) : Qr x z := by
  rcases h1 with h1 | ⟨a1, a2, a3⟩
  · have t1 := (Sge.total x.c y.c).resolve_right h1
    rcases h2 with h2 | ⟨b1, b2, b3⟩
    · exact .inl fun h => h2 (Sge.trans hz hx hy h t1)
    · exact .inl fun h => h1 (Sge.trans hy hz hx b1 h)
  · rcases h2 with h2 | ⟨b1, b2, b3⟩
    · exact .inl fun h => h2 (Sge.trans hz hx hy h a1)
    · exact .inr ⟨Sge.trans hx hy hz a1 b1, Sge.trans hz hy hx b2 a2, by omega⟩
theorem Qr.asymm {x y : Rk} (h1 : Qr x y) (h2 : Qr y x) : False := by
  rcases h1 with h1 | ⟨a1, a2, a3⟩
  · rcases h2 with h2 | ⟨b1, b2, b3⟩
    · rcases Sge.total x.c y.c with h | h
      · exact h2 h
      · exact h1 h
    · exact h1 b1
  · rcases h2 with h2 | ⟨b1, b2, b3⟩
    · exact h2 a1
    · omega
theorem cfP_lt {x y : Cd} : cfP x y < 0 ↔ ¬ Sge y x ∨ Sge x y ∧ Sge y x ∧ (y.ag < x.ag ∨ y.ag = x.ag ∧ x.bl < y.bl) := by
  rw [cfP_neg]; unfold Sge; omega
/-- A useful candidate with its place. -/
abbrev Ur := { r : Rk // r.c.use }
instance : Inhabited Ur := ⟨⟨⟨⟨0, 0, 1, 0⟩, 0⟩, by decide⟩⟩
def encU (r : Ur) : List Value := r.1.cells
def cfU (x y : Ur) : Int := cfP x.1.c y.1.c
def QU (x y : Ur) : Prop := Qr x.1 y.1
theorem tieU {x y : Ur} (h : x.1.pl < y.1.pl) : TieB QU (ltOf cfU) x y := by
  unfold TieB ltOf cfU QU Qr
  refine ⟨fun k => ?_, fun k => ?_⟩
  · have k1 : cfP y.1.c x.1.c < 0 := of_decide_eq_true k
    rw [cfP_lt] at k1
    rcases k1 with k1 | ⟨a1, a2, a3⟩
    · exact .inl k1
    · exact .inr ⟨a1, a2, by omega⟩
  · have k1 : ¬ cfP y.1.c x.1.c < 0 := of_decide_eq_false k
    rw [cfP_lt] at k1
    have t := Sge.total x.1.c y.1.c
    by_cases b1 : Sge x.1.c y.1.c
    · by_cases b2 : Sge y.1.c x.1.c
      · refine .inr ⟨b1, b2, ?_⟩
        have : ¬ (x.1.c.ag < y.1.c.ag ∨ x.1.c.ag = y.1.c.ag ∧ y.1.c.bl < x.1.c.bl) := fun h3 => k1 (.inr ⟨b2, b1, h3⟩)
        omega
      · exact .inl b2
    · exact absurd (.inl b1) k1
theorem cmpU (g n : Nat) (w : World) : CmpLays Try.prog 19 #[] encU 7 cfU g 0 n w := fun m os dk hdk x y => by
  have := byPref_any x.1 y.1 x.2 y.2 (sortWorldK encU 7 w g 0 m dk os)
  exact this.mono fun e w' ⟨h1, h2⟩ => ⟨h1, h2⟩
theorem holdsU {w : World} {g cap : Nat} {L : List Rk} (h : AllAt w g cap L.length L) (hc : L.length ≤ cap) (d : Array Ur) (hd : d.toList.map (·.1) = L) : RowK encU 7 w g 0 d := by
  have hsz : d.size = L.length := by rw [← hd]; simp
  refine ⟨fun x => rfl, fun x => rk_one x.1, fun t ht => ?_, h.lt⟩
  rw [size_flatK, hsz] at ht
  have h1 : t / 7 < L.length := by omega
  have hr := h.el (t / 7) h1 h1
  obtain ⟨cur, hh, hcs⟩ := h.row
  have e2 : d[t / 7]!.1 = L[t / 7] := by
    have : t / 7 < d.size := by omega
    rw [getElem!_pos d (t / 7) this]
    subst hd
    simp
  have e1 : (flatK encU 7 d)[t]! = L[t / 7].cells[t % 7]! := by
    rw [get_flatK encU 7 d t (by rw [hsz]; exact ht)]
    unfold encU
    rw [e2]
  have h7 : t % 7 < 7 := Nat.mod_lt _ (by decide)
  have hcl : L[t / 7].cells[t % 7]? = some L[t / 7].cells[t % 7]! := by
    rw [List.getElem!_eq_getElem?_getD]
    have : t % 7 < L[t / 7].cells.length := h7
    rw [List.getElem?_eq_getElem this]; rfl
  have := hr.cells (t % 7) _ hcl
  rw [add_plain, show t / 7 * 7 + t % 7 = t by omega] at this
  refine ⟨?_, ?_⟩
  · rw [Nat.zero_add, e1]; exact this
  · rw [Nat.zero_add]; exact frozen_of_row w g _ _ 52 hh
/-- Only block g has changed, and it keeps its shape; new blocks. -/
structure Chg1 (g : Nat) (w w' : World) : Prop where
  os : w'.os = w.os
  tape : w'.tape = w.tape
  output : w'.output = w.output
  size : w.heap.size ≤ w'.heap.size
  block : ∀ k, k < w.heap.size → k ≠ g → w'.heap[k]? = w.heap[k]?
  row : ∀ cur, w.heap[g]? = some (.cells cur 52 (0, 0)) → ∃ cur', w'.heap[g]? = some (.cells cur' 52 (0, 0)) ∧ cur'.size = cur.size
theorem swk_chg {w W : World} {g : Nat} {d : Array Ur} (h : SWK encU 7 w g 0 d W) : Chg1 g w W := by
  obtain ⟨n, os, rfl⟩ := h
  have hsz : (sortWorldK encU 7 w g 0 n d os).heap.size = w.heap.size + os.size := by simp [sortWorldK, grow, putRowK, putRow, mapBlock]
  have hb : ∀ k, k < w.heap.size → (sortWorldK encU 7 w g 0 n d os).heap[k]? = (w.heap.modify g (onCells (putCells id 0 (flatK encU 7 d))))[k]? := fun k hk => by
    simp only [sortWorldK, grow, putRowK, putRow, mapBlock]
    rw [Array.getElem?_append_left (by simpa using hk)]
    rfl
  refine ⟨rfl, rfl, rfl, by omega, fun k hk hne => ?_, fun cur hc => ?_⟩
  · rw [hb k hk, Array.getElem?_modify, if_neg (Ne.symm hne)]
  · have hg := (Array.getElem?_eq_some_iff.1 hc).1
    rw [hb g hg, Array.getElem?_modify, if_pos rfl, hc]
    exact ⟨_, rfl, by simp [putCells]⟩
theorem swk_all {w W : World} {g cap : Nat} {L : List Rk} {d0 d : Array Ur} (hA : AllAt w g cap L.length L) (R : RowK encU 7 w g 0 d0) (h : SWK encU 7 w g 0 d W) (hs : d.size = d0.size) : AllAt W g cap (d.toList.map (·.1)).length (d.toList.map (·.1)) := by
  obtain ⟨cur, h1, h2⟩ := hA.row
  obtain ⟨cur', h3, h4⟩ := (swk_chg h).row cur h1
  refine ⟨⟨cur', h3, h4.trans h2⟩, Nat.le_refl _, fun i hi _ => ?_⟩
  have hH := h.holds R.hblk R.hH hs
  have hi' : i < d.size := by simpa using hi
  have e : ∀ c, c < 7 → W.cell? ⟨g, i * 7 + c, none⟩ = some (encU d[i]!)[c]! := fun c hc => by
    have := (HoldsK.cell hH hi' hc).1
    rwa [Nat.zero_add] at this
  have e2 : (d.toList.map (·.1))[i] = d[i]!.1 := by
    rw [getElem!_pos d i hi']; simp
  rw [e2]
  exact ⟨e 0 (by omega), e 1 (by omega), e 2 (by omega), e 3 (by omega), e 4 (by omega), e 5 (by omega), e 6 (by omega)⟩
/-- What the sorting of a row leaves. -/
def SrtPost (w : World) (g cap : Nat) (L : List Rk) (e : Ending) (w' : World) : Prop :=
  e = .returned (.tuple #[]) ∧ ∃ D, D.Perm L ∧ D.Pairwise Qr ∧ AllAt w' g cap D.length D ∧ Chg1 g w w'
theorem sortU_any {w : World} {g cap c : Nat} {L : List Rk} (hA : AllAt w g cap L.length L) (hc : L.length ≤ cap) (hl : L.length < 40) (hu : ∀ r ∈ L, r.c.use) (hp : ∀ i j (hj : j < L.length) (hij : i < j), L[i].pl < L[j].pl) :
    Calls Try.prog 23 #[.slice (some ⟨g, 0, none⟩) L.length c, .func (.func 19) #[] #[]] w (SrtPost w g cap L) := by
  obtain ⟨d, hd⟩ : ∃ d : Array Ur, d.toList.map (·.1) = L := ⟨(L.attachWith (fun r => r.c.use) hu).toArray, by simp⟩
  have hsz : d.size = L.length := by rw [← hd]; simp
  have R := holdsU hA hc d hd
  have el : ∀ i (h : i < d.size), d[i]!.1 = L[i]'(by omega) := fun i h => by
    rw [getElem!_pos d i h]; subst hd; simp
  have ht : Tie QU (ltOf cfU) d 0 d.size := fun i j _ hij hj => tieU (by
    rw [el i (by omega), el j hj]
    exact hp i j (by omega) hij)
  have h := sortStable_any encU cfU 19 #[] g 0 c d w QU (fun x y z h1 h2 => Qr.trans x.2 y.2 z.2 h1 h2) (enters_of Try.func19 (by kernel_rfl) rfl) (cmpU g d.size w) R (by omega) ht
  rw [hsz] at h
  refine h.mono ?_
  rintro e w' ⟨rfl, d', hp', ho', hS⟩
  rw [hsz] at hp' ho'
  have hs' : d'.size = d.size := hp'.1
  refine ⟨rfl, d'.toList.map (·.1), ?_, ?_, swk_all hA R hS hs', swk_chg hS⟩
  · have h1 := hp'.2.2
    have e1 : d'.extract 0 L.length = d' := by rw [← hsz, ← hs']; simp
    have e2 : d.extract 0 L.length = d := by rw [← hsz]; simp
    rw [e1, e2] at h1
    rw [← hd]
    exact h1.map _
  · rw [List.pairwise_iff_getElem]
    intro i j hi hj hij
    have hj' : j < d'.size := by simpa using hj
    have := ho' i j (Nat.zero_le _) hij (by omega)
    unfold QU at this
    rw [getElem!_pos d' i (by omega), getElem!_pos d' j hj'] at this
    simpa using this
set_option maxRecDepth 1000000 in
theorem sortNil_any (w : World) : Calls Try.prog 23 #[.slice none 0 0, .func (.func 19) #[] #[]] w fun e w' => e = .returned (.tuple #[]) ∧ w' = w := by
  have h1 : Calls Try.prog 34 #[.slice none 0 0, .int .i64 0, .int .i64 0, .func (.func 19) #[] #[]] w fun e w' => e = .returned (.tuple #[]) ∧ w' = w := by
    go_enter Try.func34, Try.ntmps34
    go_wp2
    refine wp_loop_rounds 1 ?_
    rw [rounds_succ]
    go_wp2
    go_end0
    exact ⟨rfl, rfl⟩
  have h2 : Calls Try.prog 32 #[.slice none 0 0, .int .i64 0, .func (.func 19) #[] #[]] w fun e w' => e = .returned (.tuple #[]) ∧ w' = w := by
    go_enter Try.func32, Try.ntmps32
    go_wp2
    refine wp_loop_rounds 1 ?_
    rw [rounds_succ]
    go_wp2_with (go_at_call 34; refine h1.mono ?_; rintro e w' ⟨rfl, rfl⟩)
    refine wp_loop_rounds 1 ?_
    rw [rounds_succ]
    go_wp2
    go_end0
    exact ⟨rfl, rfl⟩
  go_enter Try.func23, Try.ntmps23
  go_wp2_with (go_at_call 32; refine h2.mono ?_; rintro e w' ⟨rfl, rfl⟩)
  go_end0
  exact ⟨rfl, rfl⟩
end Go.Proofs.Ytfcddkehodceaaa
