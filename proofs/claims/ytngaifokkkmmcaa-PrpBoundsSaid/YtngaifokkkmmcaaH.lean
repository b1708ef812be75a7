/- The contracts of Write, Fill, reads. Conditions stand in each theorem. -/
import Derived.Test.YtngaifokkkmmcaaG
namespace Go.Proofs.Ytngaifokkkmmcaa
open Go.RowKit
set_option linter.unusedVariables false
set_option maxHeartbeats 1000000
set_option maxRecDepth 100000
/-- What a call that may store leaves. -/
def ChPost (w : World) (base b d cap : Nat) (m : Mm) (a : Nat) (n : Int) (l : List UInt8) (e : Ending) (w' : World) : Prop := e = .returned (.int .i64 (m.chk a n)) ∧ Mem w' base b d cap (m.ch a n l) ∧ Chg (fun k => k = b ∨ k = d) w w'
section
variable {w : World} {base b d cap : Nat} {m : Mm}
theorem box_cell (w : World) (v : Value) (t : TypeId) : (w.alloc (.cells #[v] t)).cell? ⟨w.heap.size, 0, none⟩ = some v := by rw [cell_of_row _ w.heap.size 0 _ t (0, 0) (heap_alloc_new w _)]; rfl
theorem ChPost.later {w0 : World} {a : Nat} {n : Int} {l : List UInt8} {e : Ending} {w' : World} (h : ChPost w base b d cap m a n l e w') (hb : Below w0.heap.size w0 w) : ChPost w0 base b d cap m a n l e w' := ⟨h.1, h.2.1, (Chg.of_below hb).also h.2.2⟩
theorem Write_any (h : Mem w base b d cap m) (hG : Gm m) (a : Nat) (v : Value) (l : List UInt8) (ha : a < 18446744073709551616) (hv : Byt w v l) (ho : Off (· = d) v l) (hl : l.length ≤ 4194304) :
    Calls Try.prog 23 #[.pointer (some ⟨b, 0, none⟩), .int .u64 (a : Int), v] w (ChPost w base b d cap m a (l.length : Int) l) := by
  have hb := below_alloc w (.cells #[v] 25)
  have HC := Lib.hid (show Calls Try.prog 30 #[.pointer (some ⟨b, 0, none⟩), .int .u64 (a : Int), .int .i64 (l.length : Int), .func (.func 53) #[] #[.pointer (some ⟨w.heap.size, 0, none⟩)]] (w.alloc (.cells #[v] 25)) (ChPost w base b d cap m a (l.length : Int) l) from
    (change34 (h.below hb) hG a (l.length : Int) l w.heap.size ha (by omega) (fun _ => rfl) (by simp) (fun W hW k hk => by
      have hq : W.cell? ⟨w.heap.size, 0, none⟩ = some v := (hW.cell (p := ⟨w.heap.size, 0, none⟩) (by simp) (by have := h.dlt; show ¬ w.heap.size = d; omega)).trans (box_cell w v 25)
      exact wf34 w.heap.size v l k W hq ((hv.below hb).chg hW ho) hk hl)).mono fun e w' hp => ChPost.later hp hb)
  have HK := Lib.hid (box_cell w v 25)
  obtain ⟨A, c, rfl, _⟩ := hv
  clear h hG ha hb ho hl
  go_enter Try.func23, Try.ntmps23
  go_wp2_with ((go_at_call 30; with_reducible refine HC.out.mono ?_); rintro e w1 ⟨rfl, hp⟩; have HP := Lib.hid hp; clear hp)
  go_ret
  exact ⟨rfl, HP.out⟩
theorem Fill_any (h : Mem w base b d cap m) (hG : Gm m) (a : Nat) (n : Int) (x : UInt8) (ha : a < 18446744073709551616) (hn : n < 9223372036854775808) :
    Calls Try.prog 13 #[.pointer (some ⟨b, 0, none⟩), .int .u64 (a : Int), .int .i64 n, .int .u8 (x.toNat : Int)] w (ChPost w base b d cap m a n (List.replicate n.toNat x)) := by
  have hb := below_alloc w (.cells #[.int .u8 (x.toNat : Int)] 5)
  have HC := Lib.hid (show Calls Try.prog 30 #[.pointer (some ⟨b, 0, none⟩), .int .u64 (a : Int), .int .i64 n, .func (.func 31) #[] #[.pointer (some ⟨w.heap.size, 0, none⟩)]] (w.alloc (.cells #[.int .u8 (x.toNat : Int)] 5)) (ChPost w base b d cap m a n (List.replicate n.toNat x)) from
    (change41 (h.below hb) hG a n (List.replicate n.toNat x) w.heap.size ha hn (fun hz => by obtain ⟨k, rfl, _⟩ := Mm.chk_ok hz; simp) (by simp) (fun W hW k hk => by
      have hq : W.cell? ⟨w.heap.size, 0, none⟩ = some (.int .u8 (x.toNat : Int)) := (hW.cell (p := ⟨w.heap.size, 0, none⟩) (by simp) (by have := h.dlt; show ¬ w.heap.size = d; omega)).trans (box_cell w _ 5)
      rw [List.getElem_replicate]
      exact wf41 w.heap.size x k W hq)).mono fun e w' hp => ChPost.later hp hb)
  clear h hG ha hb hn
  generalize (x.toNat : Int) = y at *
  go_enter Try.func13, Try.ntmps13
  go_wp2_with ((go_at_call 30; with_reducible refine HC.out.mono ?_); rintro e w1 ⟨rfl, hp⟩; have HP := Lib.hid hp; clear hp)
  go_ret
  exact ⟨rfl, HP.out⟩
end
end Go.Proofs.Ytngaifokkkmmcaa
