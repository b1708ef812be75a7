/- The contract of the reference's put. Conditions stand in each theorem. -/
import Derived.Test.YtajlddgemkkcdaaG
namespace Go.Proofs.Ytajlddgemkkcdaa
open Go.RowKit
set_option linter.unusedVariables false
set_option maxHeartbeats 4000000
set_option maxRecDepth 100000
/-- Block g is a row of bytes. -/
def Rw (W : World) (g : Nat) (bs : List UInt8) : Prop := W.heap[g]? = some (.cells (bv bs).toArray 5 (0, 0))
theorem Rw.at {W : World} {g : Nat} {bs : List UInt8} (h : Rw W g bs) {k : Nat} (hk : k < bs.length) : W.cell? ⟨g, k, none⟩ = some (.int .u8 (bs[k].toNat : Int)) := by
  rw [cell_of_row W g k _ 5 (0, 0) h]
  simp [bv, hk]
theorem Rw.free {W : World} {g : Nat} {bs : List UInt8} (h : Rw W g bs) (k : Nat) : W.frozen? ⟨g, k, none⟩ = false := frozen_of_row W g k _ 5 h
theorem Rw.lt {W : World} {g : Nat} {bs : List UInt8} (h : Rw W g bs) : g < W.heap.size := (Array.getElem?_eq_some_iff.1 h).1
theorem Rw.set {W : World} {g : Nat} {bs : List UInt8} (h : Rw W g bs) (k : Nat) (x : UInt8) : Rw (W.setCell ⟨g, k, none⟩ (.int .u8 (x.toNat : Int))) g (bs.set k x) := by
  unfold Rw
  rw [heap_setCell_same W g k _ 5 _ h]
  congr 2
  simp [bv, List.map_set]
theorem Rw.setI {W : World} {g : Nat} {bs : List UInt8} (h : Rw W g bs) (k : Nat) (x : UInt8) (i : Int) (hx : (x.toNat : Int) = i) : Rw (W.setCell ⟨g, k, none⟩ (.int .u8 i)) g (bs.set k x) := by
  subst hx
  exact h.set k x
/-- Four bytes are put. -/
def set4 (bs : List UInt8) (k v : Nat) : List UInt8 := (((bs.set k (UInt8.ofNat v)).set (k + 1) (UInt8.ofNat (v / 256))).set (k + 2) (UInt8.ofNat (v / 256 / 256))).set (k + 3) (UInt8.ofNat (v / 256 / 256 / 256))
theorem set4_end (p : List UInt8) (m v : Nat) (hm : 4 ≤ m) : set4 (p ++ List.replicate m 0) p.length v = p ++ putB v 4 ++ List.replicate (m - 4) 0 := by
  obtain ⟨j, rfl⟩ : ∃ j, m = j + 4 := ⟨m - 4, by omega⟩
  have e : List.replicate (j + 4) (0 : UInt8) = 0 :: 0 :: 0 :: 0 :: List.replicate j 0 := rfl
  have e2 : putB v 4 = [UInt8.ofNat v, UInt8.ofNat (v / 256), UInt8.ofNat (v / 256 / 256), UInt8.ofNat (v / 256 / 256 / 256)] := by
    simp [putB, List.range_succ, Nat.div_div_eq_div_mul]
  rw [e2, e, Nat.add_sub_cancel]
  unfold set4
  rw [List.set_append_right _ _ (by omega), List.set_append_right _ _ (by omega), List.set_append_right _ _ (by omega), List.set_append_right _ _ (by omega)]
  simp
theorem u8_toNat (v : Nat) : ((UInt8.ofNat v).toNat : Int) = ((v : Nat) : Int) % 256 := by
  rw [UInt8.toNat_ofNat']
  omega
theorem chg4 (W : World) (g a b c d : Nat) (x y z u : Value) : Chg (fun i => i = g) W ((((W.setCell ⟨g, a, none⟩ x).setCell ⟨g, b, none⟩ y).setCell ⟨g, c, none⟩ z).setCell ⟨g, d, none⟩ u) :=
  ((((Chg.refl (fun i => i = g) W).setCell (p := ⟨g, a, none⟩) rfl x).setCell (p := ⟨g, b, none⟩) rfl y).setCell (p := ⟨g, c, none⟩) rfl z).setCell (p := ⟨g, d, none⟩) rfl u
theorem nat_d (v : Nat) : ((v / 256 : Nat) : Int) = (v : Int) / 256 := by omega
theorem u8_d0 (v : Nat) : ((UInt8.ofNat v).toNat : Int) = (v : Int) % 256 := u8_toNat v
theorem u8_d1 (v : Nat) : ((UInt8.ofNat (v / 256)).toNat : Int) = (v : Int) / 256 % 256 := by rw [u8_toNat, nat_d]
theorem u8_d2 (v : Nat) : ((UInt8.ofNat (v / 256 / 256)).toNat : Int) = (v : Int) / 256 / 256 % 256 := by rw [u8_toNat, nat_d, nat_d]
theorem u8_d3 (v : Nat) : ((UInt8.ofNat (v / 256 / 256 / 256)).toNat : Int) = (v : Int) / 256 / 256 / 256 % 256 := by rw [u8_toNat, nat_d, nat_d, nat_d]
theorem put_any (g n : Nat) (bs : List UInt8) (k v : Nat) (w : World) (h : Rw w g bs) (hn : bs.length = n) (hk : k + 4 ≤ n) (hn2 : n ≤ 8192) (hv : v ≤ 4294967295) :
    Calls Try.prog 27 #[.slice (some ⟨g, 0, none⟩) n n, .int .i64 (k : Int), .int .i64 (v : Int)] w fun e w' => e = .returned (.tuple #[]) ∧ Rw w' g (set4 bs k v) ∧ Chg (fun b => b = g) w w' := by
  have HR := Lib.hid h
  have hki : (k : Int) + 4 ≤ (n : Int) := by omega
  have hni : (n : Int) ≤ 8192 := by omega
  have hvi : (v : Int) ≤ 4294967295 := by omega
  have hf := h.free
  have c0 := h.at (k := k) (by omega)
  have c1 := h.at (k := k + 1) (by omega)
  have c2 := h.at (k := k + 2) (by omega)
  have c3 := h.at (k := k + 3) (by omega)
  clear h
  go_enter Try.func27, Try.ntmps27
  go_wp2
  refine wp_loop_rounds 5 ?_
  rw [rounds_succ]
  go_wp2
  rw [rounds_succ]
  go_wp2
  rw [rounds_succ]
  go_wp2
  rw [rounds_succ]
  go_wp2
  rw [rounds_succ]
  go_wp2
  clear hf c0 c1 c2 c3
  go_end0
  have e0 := u8_d0 v
  have e1 := u8_d1 v
  have e2 := u8_d2 v
  have e3 := u8_d3 v
  have r := (((HR.out.setI k _ _ e0).setI (k + 1) _ _ e1).setI (k + 2) _ _ e2).setI (k + 3) _ _ e3
  unfold set4
  exact ⟨rfl, r, chg4 _ _ _ _ _ _ _ _ _ _⟩
end Go.Proofs.Ytajlddgemkkcdaa
