/- Slices that read as bytes. No condition. -/
import Derived.Test.YtajlddgemkkcdaaD
import Derived.Below
import Derived.Laws.OwnMore
import Derived.Deep.AppendLies
import Derived.Deep.Draws
import Derived.OwnWalk
import Derived.Maps.AppendAt
import Derived.Lib.Hide
import Derived.Laws.BytesArg
import Derived.Laws.IdiomStrings
namespace Go.Proofs.Ytajlddgemkkcdaa
open Go.RowKit
set_option linter.unusedVariables false
set_option maxRecDepth 100000
set_option maxHeartbeats 400000

/-- The cells of bytes. -/
def bv (l : List UInt8) : List Value := l.map fun b => .int .u8 (b.toNat : Int)
theorem bv_length (l : List UInt8) : (bv l).length = l.length := by simp [bv]
theorem bv_append (a b : List UInt8) : bv (a ++ b) = bv a ++ bv b := by simp [bv]
theorem bv_one (l : List UInt8) : ∀ u ∈ bv l, u.oneCell' = true := by
  intro u hu
  simp only [bv, List.mem_map] at hu
  obtain ⟨b, _, rfl⟩ := hu
  rfl
theorem bv_get {l : List UInt8} {j : Nat} (h : j < l.length) : (bv l)[j]? = some (.int .u8 (l[j].toNat : Int)) := by simp [bv, h]
/-- The bytes of a field, the least significant one first. -/
def putB (v : Nat) (n : Nat) : List UInt8 := (List.range n).map fun i => UInt8.ofNat (v / 256 ^ i)
theorem putB_zero (v : Nat) : putB v 0 = [] := rfl
theorem putB_succ (v n : Nat) : putB v (n + 1) = putB v n ++ [UInt8.ofNat (v / 256 ^ n)] := by simp [putB, List.range_succ]
theorem putB_length (v n : Nat) : (putB v n).length = n := by simp [putB]
/-- A slice value that reads as the bytes l. -/
def Byt (w : World) (v : Value) (l : List UInt8) : Prop :=
  ∃ A c, v = .slice A l.length c ∧ l.length ≤ c ∧ (0 < l.length → ∃ g o, A = some ⟨g, o, none⟩ ∧ g < w.heap.size ∧ ∀ j (hj : j < l.length), w.cell? ⟨g, o + j, none⟩ = some (.int .u8 (l[j].toNat : Int)))
theorem add_plain (g o j : Nat) : (⟨g, o, none⟩ : Addr).add j = ⟨g, o + j, none⟩ := by unfold Addr.add; split <;> simp_all
theorem Byt.keep {w w' : World} {v : Value} {l : List UInt8} (h : Byt w v l) (hs : w.heap.size ≤ w'.heap.size) (hk : ∀ p : Addr, p.block < w.heap.size → w'.cell? p = w.cell? p) : Byt w' v l := by
  obtain ⟨A, c, rfl, hc, hr⟩ := h
  refine ⟨A, c, rfl, hc, fun hn => ?_⟩
  obtain ⟨g, o, rfl, hg, hcell⟩ := hr hn
  exact ⟨g, o, rfl, by omega, fun j hj => (hk _ hg).trans (hcell j hj)⟩
theorem Byt.below {w w' : World} {v : Value} {l : List UInt8} (h : Byt w v l) (hb : Below w.heap.size w w') : Byt w' v l := h.keep hb.size fun _ hp => hb.cell hp
theorem Byt.none (w : World) : Byt w (.slice none 0 0) [] := ⟨_, 0, rfl, by simp, fun h => absurd h (by simp)⟩
theorem Byt.of_own {w : World} {base n : Nat} {e : TypeId} {v : Value} {l : List UInt8} (h : w.ownsRow base e 1 v n (bv l)) : Byt w v l := by
  have hn : n = l.length := by have := h.1; rw [bv_length] at this; omega
  subst hn
  rcases h.2 with ⟨rfl, h0⟩ | ⟨g, cap, cur, rfl, _, hg, hnc, _, _, _⟩
  · exact ⟨Option.none, 0, by rw [h0], by omega, fun hp => absurd hp (by omega)⟩
  · refine ⟨_, cap, rfl, hnc, fun hp => ⟨g, 0, rfl, (Array.getElem?_eq_some_iff.1 hg).1, fun j hj => ?_⟩⟩
    rw [Nat.zero_add, h.cellAt j (by omega), bv_get hj]
/-- string(b) of such a slice. -/
theorem run_string {P : Program} (src dst e : TypeId) (hs : P.underlying src = some (.slice e)) (he : P.underlying e = some (.int .u8)) (hd : P.underlying dst = some .string)
    {w : World} {v : Value} {l : List UInt8} (h : Byt w v l) : (convert src dst v).run P w = .ok (.string ⟨l.toArray⟩) w := by
  obtain ⟨A, c, rfl, _, hr⟩ := h
  rcases Nat.eq_zero_or_pos l.length with h0 | h0
  · have hl : l = [] := List.eq_nil_of_length_eq_zero h0
    subst hl
    rcases A with _ | a
    · exact run_convert_bytes_nil w src e hs he _ c dst hd
    · exact run_convert_bytes_back w src dst e a c [] hs he hd (fun j hj => absurd hj (by simp))
  · obtain ⟨g, o, rfl, _, hc⟩ := hr h0
    exact run_convert_bytes_back w src dst e _ c l hs he hd (fun j hj => by rw [add_plain]; exact hc j hj)
/-- The value of a field. -/
def getV : List UInt8 → Nat
  | [] => 0
  | b :: t => b.toNat + 256 * getV t
theorem getV_lt : ∀ l : List UInt8, getV l < 256 ^ l.length
  | [] => by simp [getV]
  | b :: t => by
    have h := getV_lt t
    have hb : b.toNat < 256 := b.toNat_lt
    simp only [getV, List.length_cons, Nat.pow_succ]
    omega
theorem getV_snoc : ∀ (l : List UInt8) (b : UInt8), getV (l ++ [b]) = getV l + b.toNat * 256 ^ l.length
  | [], b => by simp [getV]
  | a :: t, b => by
    simp only [List.cons_append, getV, getV_snoc t b, List.length_cons, Nat.pow_succ, Nat.mul_add, Nat.add_assoc]
    congr 2
    rw [Nat.mul_left_comm, Nat.mul_comm 256]
theorem getV_take (l : List UInt8) (k : Nat) (h : k < l.length) : getV (l.take (k + 1)) = getV (l.take k) + l[k].toNat * 256 ^ k := by
  rw [List.take_succ_eq_append_getElem h, getV_snoc, List.length_take, Nat.min_eq_left (by omega)]
theorem pow256 (k : Nat) : (256 : Nat) ^ k = 2 ^ (8 * k) := by rw [Nat.pow_mul]
theorem getV_drop (l : List UInt8) (m : Nat) (h : m < l.length) : getV (l.drop m) = l[m].toNat + 256 * getV (l.drop (m + 1)) := by
  rw [List.drop_eq_getElem_cons h]; rfl
theorem byt_lit (w : World) (l : List UInt8) (fr : Nat × Nat := (0, 0)) : Byt (w.alloc (.cells (bv l).toArray 5 fr)) (.slice (some ⟨w.heap.size, 0, none⟩) l.length l.length) l := by
  refine ⟨_, l.length, rfl, Nat.le_refl _, fun _ => ⟨w.heap.size, 0, rfl, by simp, fun j hj => ?_⟩⟩
  rw [Nat.zero_add, cell_of_row _ w.heap.size j _ 5 fr (heap_alloc_new w _), List.getElem?_toArray, bv_get hj]
end Go.Proofs.Ytajlddgemkkcdaa
