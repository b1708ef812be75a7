/- Slices of rows of entries; Clone of entries; the pieces of a record. Conditions stand in each theorem. -/
import Derived.Test.YtajlddgemkkcdaaOP
import Derived.Lib.SliceRun
import Derived.Laws.Slices
namespace Go.Proofs.Ytajlddgemkkcdaa
open Go.RowKit
set_option linter.unusedVariables false
set_option maxHeartbeats 4000000
set_option maxRecDepth 100000
attribute [local go_sem ↓ 100000] builtin_appX
theorem ent_cut {w : World} {l : List (Int × Int)} {A : Option Addr} {c c0 lo hi : Nat} (h : Ent w (.slice A l.length c0) l) (h1 : lo ≤ hi) (h2 : hi ≤ l.length) (hc : hi ≤ c) : Ent w (sliced A lo hi c 2) ((l.take hi).drop lo) := by
  obtain ⟨A', c', e, _, hr⟩ := h
  simp only [Value.slice.injEq, true_and] at e
  obtain ⟨rfl, rfl⟩ := e
  have hlen : ((l.take hi).drop lo).length = hi - lo := by simp; omega
  refine ⟨_, _, by unfold sliced; rw [hlen], by rw [hlen]; omega, fun h0 => ?_⟩
  rw [hlen] at h0
  obtain ⟨g, o, rfl, hg, hcell⟩ := hr (by omega)
  refine ⟨g, o + lo * 2, ?_, hg, fun j hj => ?_⟩
  · rw [if_neg (by omega)]
    simp [add_plain]
  · rw [hlen] at hj
    obtain ⟨a1, a2⟩ := hcell (lo + j) (by omega)
    have e1 : o + lo * 2 + j * 2 = o + (lo + j) * 2 := by omega
    rw [e1]
    simp only [List.getElem_drop, List.getElem_take]
    exact ⟨a1, a2⟩
theorem ent_hm {w : World} {l : List (Int × Int)} {A : Option Addr} {c m : Nat} (h : Ent w (.slice A l.length c) l) (h2 : m ≤ l.length) (hc : l.length ≤ c) :
    ∃ A' c', (∀ W : World, (Instr.slice 22 (.slice A l.length c) none (some (.int .i64 m)) (some (.int .i64 m))).run Try.prog W = .ok (.slice A' m c') W) ∧ Ent w (.slice A' m c') (l.take m) := by
  have h3 := ent_cut (c := m) h (Nat.zero_le m) h2 (Nat.le_refl _)
  rw [List.drop_zero] at h3
  obtain ⟨i0, hi0, hz0, hz1, hz2⟩ := info_parts8 info40
  have hrun : ∀ W : World, (Instr.slice 22 (.slice A l.length c) none (some (.int .i64 m)) (some (.int .i64 m))).run Try.prog W = .ok (sliced A 0 m m 2) W := fun W => by
    rw [run_slice_hm (P := Try.prog) (w := W) (t := 22) (a := A) (len := l.length) (cap := c) (ht := by rw [Try.underlying22]; rfl) .i64 .i64 m m (by omega) (by omega) (by omega)]
    simp [sizeOf, typeInfo, show Try.prog.elem 22 = 40 by kernel_rfl, hi0, hz1]
  obtain ⟨A', c', he, _⟩ := id h3
  have hl : (l.take m).length = m := by simp; omega
  rw [hl] at he
  rw [he] at h3 hrun
  exact ⟨A', c', hrun, h3⟩
theorem ent_l {w : World} {l : List (Int × Int)} {A : Option Addr} {c lo : Nat} (h : Ent w (.slice A l.length c) l) (h1 : lo ≤ l.length) (hc : l.length ≤ c) :
    ∃ A' c', (∀ W : World, (Instr.slice 22 (.slice A l.length c) (some (.int .i64 lo)) none none).run Try.prog W = .ok (.slice A' (l.drop lo).length c') W) ∧ Ent w (.slice A' (l.drop lo).length c') (l.drop lo) := by
  have h3 := ent_cut (c := c) h h1 (Nat.le_refl _) hc
  rw [List.take_length] at h3
  obtain ⟨i0, hi0, hz0, hz1, hz2⟩ := info_parts8 info40
  have hrun : ∀ W : World, (Instr.slice 22 (.slice A l.length c) (some (.int .i64 lo)) none none).run Try.prog W = .ok (sliced A lo l.length c 2) W := fun W => by
    rw [run_slice_l (P := Try.prog) (w := W) (t := 22) (a := A) (len := l.length) (cap := c) (ht := by rw [Try.underlying22]; rfl) .i64 lo (by omega) (by omega)]
    simp [sizeOf, typeInfo, show Try.prog.elem 22 = 40 by kernel_rfl, hi0, hz1]
  obtain ⟨A', c', he, _⟩ := id h3
  rw [he] at h3 hrun
  exact ⟨A', c', hrun, h3⟩
theorem ent_lh {w : World} {l : List (Int × Int)} {A : Option Addr} {c lo hi : Nat} (h : Ent w (.slice A l.length c) l) (h1 : lo ≤ hi) (h2 : hi ≤ l.length) (hc : l.length ≤ c) :
    ∃ A' c', (∀ W : World, (Instr.slice 22 (.slice A l.length c) (some (.int .i64 lo)) (some (.int .i64 hi)) none).run Try.prog W = .ok (.slice A' ((l.take hi).drop lo).length c') W) ∧ Ent w (.slice A' ((l.take hi).drop lo).length c') ((l.take hi).drop lo) := by
  have h3 := ent_cut (c := c) h h1 h2 (by omega)
  obtain ⟨i0, hi0, hz0, hz1, hz2⟩ := info_parts8 info40
  have hrun : ∀ W : World, (Instr.slice 22 (.slice A l.length c) (some (.int .i64 lo)) (some (.int .i64 hi)) none).run Try.prog W = .ok (sliced A lo hi c 2) W := fun W => by
    rw [run_slice_lh (P := Try.prog) (w := W) (t := 22) (a := A) (len := l.length) (cap := c) (ht := by rw [Try.underlying22]; rfl) .i64 .i64 lo hi (by omega) (by omega) (by omega)]
    simp [sizeOf, typeInfo, show Try.prog.elem 22 = 40 by kernel_rfl, hi0, hz1]
  obtain ⟨A', c', he, _⟩ := id h3
  rw [he] at h3 hrun
  exact ⟨A', c', hrun, h3⟩
/-- Does a slice's block, if it has one, lie at or behind a place? -/
def FrB (base : Nat) (v : Value) : Prop := ∀ b, v.ownBlock = some b → base ≤ b
/-- What Clone leaves of entries. -/
def CePost (w : World) (l : List (Int × Int)) (e : Ending) (w' : World) : Prop := (∃ A c, e = .returned (.slice A l.length c) ∧ Ent w' (.slice A l.length c) l ∧ FrB w.heap.size (.slice A l.length c)) ∧ Below w.heap.size w w'
theorem eclone_any (w : World) (l : List (Int × Int)) (A : Option Addr) (c : Nat) (h : Ent w (.slice A l.length c) l) (hl : l.length ≤ 100000) : Calls Try.prog 30 #[.slice A l.length c] w (CePost w l) := by
  have hq : ∀ (w : World) (a : Option Addr) (n c n' c' : Nat), (binOp .eql 22 (.slice a n c) (.slice none n' c')).run Try.prog w = .ok (.bool a.isNone) w := fun w a n c n' c' => Lib.run_eql_slice_nil w _ _ a n c n' c' Try.underlying22
  cases A with
  | none =>
    have h0 : l = [] := by
      obtain ⟨A', c', he, _, hr⟩ := h
      injection he with e1 _ _
      cases l with
      | nil => rfl
      | cons a t =>
        obtain ⟨g, o, h1, _⟩ := hr (by simp)
        rw [← e1] at h1
        cases h1
    subst h0
    clear h
    go_enter Try.func30, Try.ntmps30
    go_wp2
    go_ret
    exact ⟨⟨none, 0, rfl, Ent.nil _, fun b hb => by cases hb⟩, Below.refl _ _⟩
  | some a =>
    have hb : Below w.heap.size w (w.alloc (.cells #[] 40)) := (Below.refl _ _).alloc (Nat.le_refl _) _
    obtain ⟨B, d, W2, hrun, ho, hg⟩ := app_ent (W := w.alloc (.cells #[] 40)) (base := w.heap.size) (v := .slice (some ⟨w.heap.size, 0, none⟩) 0 0) (en := []) (World.ownsRow_made w #[] 0 (Nat.le_refl _) (Nat.zero_le _) (by simp)) (h.below hb) (by simp; omega) hb.size
    have hb2 : Below w.heap.size w W2 := hb.grown hg hb.size (fun j hj => by cases hj; exact Nat.le_refl _)
    simp only [List.length_nil, Nat.zero_add, List.nil_append] at hrun ho
    have HO := Lib.hid (Ent.of_own ho)
    have HF : Hid (FrB w.heap.size (.slice B l.length d)) := Lib.hid (fun b hb => (ho.lt b hb).1)
    have HB := Lib.hid hb2
    clear ho hg hb hb2 h
    go_enter Try.func30, Try.ntmps30
    go_wp2
    go_ret
    exact ⟨⟨B, d, rfl, HO.out, HF.out⟩, HB.out⟩
/-- The pieces of a record. -/
def chnk (c : Nat) (l : List (Int × Int)) (i : Nat) : List (Int × Int) := (l.drop (c * i)).take c
def sprF (k first prev n i : Int) : Spr := ⟨k, 0, first + i, prev, i, n⟩
/-- The pages of a record: descriptions and entries. -/
def recQ (k first prev : Int) (c n : Nat) (l : List (Int × Int)) (j : Nat) : List (Spr × List (Int × Int)) := (List.range j).map fun (i : Nat) => (sprF k first prev (n : Int) (i : Int), chnk c l i)
theorem recQ_succ (k first prev : Int) (c n : Nat) (l : List (Int × Int)) (j : Nat) : recQ k first prev c n l (j + 1) = recQ k first prev c n l j ++ [(sprF k first prev (n : Int) (j : Int), chnk c l j)] := by
  unfold recQ
  rw [List.range_succ, List.map_append]
  rfl
/-- Is a record accepted? -/
def recB (k size first prev : Int) (l : List (Int × Int)) : Bool := decide (((((kdB k = true ∧ first ≠ 0) ∧ first ≤ 9223372036854775808) ∧ prev < first) ∧ capF size ≠ 0) ∧ allB l = true)
end Go.Proofs.Ytajlddgemkkcdaa
