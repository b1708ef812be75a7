/- Rows of bytes of the call's own that are written, and the state of DigestBursts between two rounds. Conditions stand in each theorem. -/
import Derived.Test.YtijbkjkienjdaaaDoorL
import Derived.Test.YtijbkjkienjdaaaDoorQ
import Derived.RegionTactic
import Derived.BigRegion
namespace Go.Proofs.YtijbkjkienjdaaaDoor
open Go.RowKit
set_option linter.unusedVariables false

/-- The block g holds the bytes l, and they may be written. -/
def RowAt (w : World) (g : Nat) (l : List UInt8) : Prop := ∀ j (hj : j < l.length), w.cell? ⟨g, j, none⟩ = some (.int .u8 (l[j].toNat : Int)) ∧ w.frozen? ⟨g, j, none⟩ = false
theorem RowAt.set {w : World} {g j : Nat} {l : List UInt8} (h : RowAt w g l) (hj : j < l.length) (c : UInt8) : RowAt (w.setCell ⟨g, j, none⟩ (.int .u8 (c.toNat : Int))) g (l.set j c) := by
  intro t ht
  rw [List.length_set] at ht
  refine ⟨?_, by rw [World.frozen?_setCell]; exact (h t ht).2⟩
  by_cases e : j = t
  · subst e
    rw [List.getElem_set_self]
    apply World.cell?_setCell_same; exact (h j hj).1
  · have h1 : (w.setCell ⟨g, j, none⟩ (.int .u8 (c.toNat : Int))).cell? ⟨g, t, none⟩ = w.cell? ⟨g, t, none⟩ := by
      apply World.cell?_setCell_other
      intro e'
      injection e' with _ e'
      exact e e'
    rw [h1, List.getElem_set_ne e]
    exact (h t ht).1
theorem RowAt.other {w : World} {g g' j : Nat} {l : List UInt8} (h : RowAt w g l) (hg : g' ≠ g) (v : Value) : RowAt (w.setCell ⟨g', j, none⟩ v) g l := by
  intro t ht
  refine ⟨?_, by rw [World.frozen?_setCell]; exact (h t ht).2⟩
  have h1 : (w.setCell ⟨g', j, none⟩ v).cell? ⟨g, t, none⟩ = w.cell? ⟨g, t, none⟩ := by
    apply World.cell?_setCell_other
    intro e'
    injection e' with e' _
    exact hg e'
  rw [h1]
  exact (h t ht).1
theorem RowAt.drew {w : World} {g : Nat} {l : List UInt8} (h : RowAt w g l) : RowAt w.drew g l := fun j hj => h j hj
theorem RowAt.byt {w : World} {g c : Nat} {l : List UInt8} (h : RowAt w g l) (hg : g < w.heap.size) (hc : l.length ≤ c) : Byt w (.slice (some ⟨g, 0, none⟩) l.length c) l :=
  ⟨_, c, rfl, hc, fun _ => ⟨g, 0, rfl, hg, fun j hj => by rw [Nat.zero_add]; exact (h j hj).1⟩⟩
theorem RowAt.below {w w' : World} {g : Nat} {l : List UInt8} (h : RowAt w g l) (hg : g < w.heap.size) (hb : Below w.heap.size w w') : RowAt w' g l :=
  fun j hj => ⟨(hb.cell (p := ⟨g, j, none⟩) hg).trans (h j hj).1, (hb.frozen (p := ⟨g, j, none⟩) hg).trans (h j hj).2⟩
theorem rowAt_own {w : World} {base : Nat} {r : Value} {l : List UInt8} (h : w.ownsRow base 5 1 r l.length (bv l)) (h0 : 0 < l.length) :
    ∃ g c, r = .slice (some ⟨g, 0, none⟩) l.length c ∧ l.length ≤ c ∧ base ≤ g ∧ g < w.heap.size ∧ RowAt w g l := by
  rcases h.2 with ⟨rfl, h1⟩ | ⟨g, cap, cur, rfl, hb, hg, hnc, _, _, _⟩
  · omega
  · refine ⟨g, cap, rfl, hnc, hb, (Array.getElem?_eq_some_iff.1 hg).1, fun j hj => ⟨?_, frozen_of_row w g j cur 5 hg⟩⟩
    rw [h.cellAt j (by omega), bv_get hj]

/-- DigestBursts between two rounds: what x and y hold. -/
structure Bst (w : World) (b : List UInt8) (F i gx gy : Nat) (X Y : List UInt8) (wr : World) : Prop where
  below : Below w.heap.size w wr
  lx : X.length = b.length
  ly : Y.length = b.length
  rx : RowAt wr gx X
  ry : RowAt wr gy Y
  hx : gx < wr.heap.size
  hy : gy < wr.heap.size
  ne : gx ≠ gy
  gx0 : w.heap.size ≤ gx
  gy0 : w.heap.size ≤ gy
  sum : ∃ q p, Qs i q p ∧ upd32 4294967295 X = upd32 4294967295 b ^^^ it f32 (8 * b.length - F) q ∧ upd16 0 Y = upd16 0 b ^^^ it f16 (8 * b.length - F) p
theorem Bst.skip {w : World} {b : List UInt8} {F i gx gy : Nat} {X Y : List UInt8} {wr : World} (h : Bst w b F i gx gy X Y wr) (hi : 0 < i) : Bst w b F (i + 1) gx gy X Y wr := by
  obtain ⟨q, p, h1, h2⟩ := h.sum
  exact { h with sum := ⟨q, p, h1.skip hi, h2⟩ }
/-- The byte that is stored into x, into y. -/
def bx (X : List UInt8) (a : Nat) : UInt8 := X.getD (a / 8) 0 ^^^ UInt8.ofNat (2 ^ (a % 8))
def by' (X : List UInt8) (a : Nat) : UInt8 := X.getD (a / 8) 0 ^^^ UInt8.ofNat (2 ^ (7 - a % 8))
theorem getD_at (X : List UInt8) (j : Nat) (h : j < X.length) : X.getD j 0 = X[j] := by simp [h]
theorem bit_lt (r : Nat) (h : r < 8) : 2 ^ r < 256 := Nat.pow_lt_pow_right (n := 8) (by decide) h
theorem ofNat_bit (r : Nat) (h : r < 8) : (UInt8.ofNat (2 ^ r)).toNat = 2 ^ r := by rw [UInt8.toNat_ofNat']; exact Nat.mod_eq_of_lt (bit_lt r h)
theorem Bst.flipA {w : World} {b : List UInt8} {F i gx gy : Nat} {X Y : List UInt8} {wr : World} (h : Bst w b F i gx gy X Y wr) (hi : i < 32) (h16 : 16 ≤ i) (hF : F + i < 8 * b.length) :
    Bst w b F (i + 1) gx gy (X.set ((F + i) / 8) (bx X (F + i))) Y (wr.drew.setCell ⟨gx, (F + i) / 8, none⟩ (.int .u8 ((bx X (F + i)).toNat : Int))) := by
  have hj : (F + i) / 8 < X.length := by rw [h.lx]; omega
  obtain ⟨q, p, h1, h2, h3⟩ := h.sum
  refine { below := (h.below.drew).setCell h.gx0 _, lx := by rw [List.length_set]; exact h.lx, ly := h.ly, rx := h.rx.drew.set hj _, ry := h.ry.drew.other h.ne _, hx := by simpa [World.setCell] using h.hx, hy := by simpa [World.setCell] using h.hy, ne := h.ne, gx0 := h.gx0, gy0 := h.gy0, sum := ⟨_, p, h1.flipA hi h16, ?_, h3⟩ }
  unfold bx
  rw [getD_at X _ hj, flip32 _ _ _ hj, h2, ofNat_bit _ (by omega), h.lx, place32 b.length F i ((F + i) / 8) ((F + i) % 8) (by omega) (by omega) hF, Nat.xor_assoc, ← it32_xor]
theorem Bst.flipB {w : World} {b : List UInt8} {F i gx gy : Nat} {X Y : List UInt8} {wr : World} (h : Bst w b F i gx gy X Y wr) (hi : i < 16) (hF : F + i < 8 * b.length) :
    Bst w b F (i + 1) gx gy (X.set ((F + i) / 8) (bx X (F + i))) (Y.set ((F + i) / 8) (by' Y (F + i))) (((wr.drew.setCell ⟨gx, (F + i) / 8, none⟩ (.int .u8 ((bx X (F + i)).toNat : Int))).drew).setCell ⟨gy, (F + i) / 8, none⟩ (.int .u8 ((by' Y (F + i)).toNat : Int))) := by
  have hj : (F + i) / 8 < X.length := by rw [h.lx]; omega
  have hk : (F + i) / 8 < Y.length := by rw [h.ly]; omega
  obtain ⟨q, p, h1, h2, h3⟩ := h.sum
  have hp : p < 65536 := by rcases h1 with ⟨_, _, h1⟩ | ⟨_, _, _, _, h1⟩ <;> omega
  refine { below := ((h.below.drew).setCell h.gx0 _).drew.setCell h.gy0 _, lx := by rw [List.length_set]; exact h.lx, ly := by rw [List.length_set]; exact h.ly, rx := ((h.rx.drew.set hj _).drew).other (Ne.symm h.ne) _, ry := ((h.ry.drew.other h.ne _).drew).set hk _, hx := by simpa [World.setCell] using h.hx, hy := by simpa [World.setCell] using h.hy, ne := h.ne, gx0 := h.gx0, gy0 := h.gy0, sum := ⟨_, _, h1.flipB hi, ?_, ?_⟩ }
  · unfold bx
    rw [getD_at X _ hj, flip32 _ _ _ hj, h2, ofNat_bit _ (by omega), h.lx, place32 b.length F i ((F + i) / 8) ((F + i) % 8) (by omega) (by omega) hF, Nat.xor_assoc, ← it32_xor]
  · unfold by'
    rw [getD_at Y _ hk, flip16 (by decide) _ _ hk, h3, ofNat_bit _ (by omega), h.ly, show 2 ^ (7 - (F + i) % 8) * 256 = 2 ^ (15 - (F + i) % 8) by rw [show 15 - (F + i) % 8 = (7 - (F + i) % 8) + 8 by omega, Nat.pow_add],
      place16 b.length F i ((F + i) / 8) ((F + i) % 8) (by omega) (by omega) hF hi, Nat.xor_assoc, ← it16_xor _ hp (Nat.lt_of_le_of_lt (Nat.pow_le_pow_right (by decide) (Nat.sub_le 15 i)) (by decide))]
theorem Bst.apart {w : World} {b : List UInt8} {F i gx gy : Nat} {X Y : List UInt8} {wr : World} (h : Bst w b F i gx gy X Y wr) (hi : 0 < i) : crc32 X ≠ crc32 b ∧ crc16 Y ≠ crc16 b := by
  obtain ⟨q, p, h1, h2, h3⟩ := h.sum
  rcases h1 with ⟨h1, _⟩ | ⟨_, h4, h5, h6, h7⟩
  · omega
  · exact ⟨crc32_ne h2 h5 (by omega), crc16_ne h3 h7 (by omega)⟩
end Go.Proofs.YtijbkjkienjdaaaDoor
