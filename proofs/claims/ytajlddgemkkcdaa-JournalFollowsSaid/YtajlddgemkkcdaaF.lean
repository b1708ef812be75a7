/- The contract of filled: numbers of four bytes each, followed by zeros. Conditions stand in each theorem. -/
import Derived.Test.YtajlddgemkkcdaaE
namespace Go.Proofs.Ytajlddgemkkcdaa
open Go.RowKit
set_option linter.unusedVariables false
set_option maxHeartbeats 4000000
set_option maxRecDepth 100000
/-- The bytes of numbers. -/
def bytesF (ns : List Int) : List UInt8 := (ns.map fun n => putB n.toNat 4).flatten
theorem bytesF_snoc (l : List Int) (k : Nat) (h : k < l.length) : bytesF (l.take (k + 1)) = bytesF (l.take k) ++ putB l[k].toNat 4 := by
  unfold bytesF
  rw [List.take_succ_eq_append_getElem h, List.map_append, List.flatten_append]
  simp
theorem bytesF_length (l : List Int) : (bytesF l).length = 4 * l.length := by
  unfold bytesF
  induction l with
  | nil => rfl
  | cons p r ih => rw [List.map_cons, List.flatten_cons, List.length_append, ih, putB_length, List.length_cons]; omega
theorem chk_four {room V : Int} (h1 : V ≤ 4294967295) (hr : 4 ≤ room) : chk room [(V, 4)] = 0 := by
  have e : putE V 4 = 0 := (put_ok (by omega) (by omega) (by show V ≤ 2 ^ 32 - 1; omega)).2
  unfold chk
  rw [e, if_neg (by simp), if_neg (by show ¬ room < 4; omega)]
  rfl
def FillPost (w : World) (l : List UInt8) (e : Ending) (w' : World) : Prop := (∃ v, e = .returned v ∧ w'.ownsRow w.heap.size 5 1 v l.length (bv l)) ∧ Below w.heap.size w w'
theorem filled_any (size : Nat) (A : Option Addr) (c : Nat) (ns : List Int) (w : World) (base : Nat) (h : w.ownsRow base 34 1 (.slice A ns.length c) ns.length (uv ns)) (hn : ∀ n ∈ ns, 0 ≤ n ∧ n ≤ 4294967295) (hs : 4 * ns.length ≤ size) (hs2 : size ≤ 8192) :
    Calls Try.prog 24 #[.int .i64 (size : Int), .slice A ns.length c] w (FillPost w (bytesF ns ++ List.replicate (size - 4 * ns.length) 0)) := by
  have HO := Lib.hid h
  have HN := Lib.hid hn
  have hsi : (size : Int) ≤ 8192 := by omega
  have hni : (ns.length : Int) ≤ 2048 := by omega
  have HA : Hid (0 < ns.length → ∃ g, A = some ⟨g, 0, none⟩) := Lib.hid (fun h0 => by
    rcases h.2 with ⟨e, hz⟩ | ⟨g, cap, cur, e, _⟩
    · omega
    · injection e with e1 _ _; exact ⟨g, e1⟩)
  have HBD := Lib.hid (fun (l : List Int) => bytesF_length l)
  clear h hn
  have hw0 := wr_new w
  have hb0 : Below w.heap.size w (w.alloc (.cells #[.slice none 0 0] 91)) := (Below.refl _ _).alloc (Nat.le_refl _) _
  go_enter Try.func24, Try.ntmps24
  go_upto_region 3 with fail
  obtain ⟨W0, hW0⟩ : ∃ W0, W0 = w.alloc (.cells #[.slice none 0 0] 91) := ⟨_, rfl⟩
  rw [← hW0] at hw0 hb0 ⊢
  clear hW0
  have HW0 := Lib.hid hw0
  have HB0 := Lib.hid hb0
  clear hw0 hb0
  go_loopw [10] (fun i wr => ∃ (k : Nat) (u : Value), k ≤ ns.length ∧ i = .int .i64 k ∧ Hid (Wr wr w.heap.size u (bytesF (ns.take k))) ∧ Hid (∀ b, u.ownBlock = some b → w.heap.size ≤ b) ∧ Hid (Below w.heap.size w wr)) (fun i _ => ns.length - (RowKit.intOf i).toNat)
  case atStart => exact ⟨0, _, Nat.zero_le _, rfl, HW0, Lib.hid (fun b hb => by cases hb), HB0⟩
  case round =>
    obtain ⟨k, u, hk, rfl, HW, HU, HB⟩ := hrel
    by_cases hlt : k < ns.length
    · obtain ⟨g, hg⟩ := HA.out (by omega)
      subst hg
      have hgl : g < w.heap.size := (HO.out.lt g rfl).2
      have c1 : wr.cell? ⟨g, k, none⟩ = some (.int .u64 ns[k]) := (HB.out.cell (p := ⟨g, k, none⟩) hgl).trans (HO.out.cellAt k (by omega) |>.trans (uv_get hlt))
      obtain ⟨n1, n2⟩ := HN.out _ (List.getElem_mem hlt)
      have HSN := Lib.hid (bytesF_snoc ns k hlt)
      have HL := Lib.hid (show (bytesF (ns.take k)).length ≤ 8192 by rw [HBD.out, List.length_take]; omega)
      have HAD := Lib.hid (Add_ok w.heap.size u ns[k] 4 (bytesF (ns.take k)) wr HW.out n1 (chk_four n2 (by have := HL.out; omega)))
      generalize ns[k] = x at *
      have hk0 : (0 : Int) ≤ (k : Int) := by omega
      have hk1 : (k : Int) < (ns.length : Int) := by omega
      go_wp2_with ((go_at_call 46; with_reducible refine HAD.out.mono ?_); rintro e w3 ⟨rfl, u', hw3, hc3, ho3⟩; have HW3 := Lib.hid hw3; have HC3 := Lib.hid hc3; have HO3 := Lib.hid ho3; clear hw3 hc3 ho3)
      go_roundw
      case rel =>
        refine ⟨k + 1, u', by omega, by go_num, Lib.hid (by rw [HSN.out]; exact HW3.out), Lib.hid (fun b hb => ?_), Lib.hid (HB.out.trans (HC3.out.below HB.out.size (fun i hi => ?_)))⟩
        · rcases HO3.out with h1 | ⟨b', h1, h2⟩
          · exact HU.out b (h1 ▸ hb)
          · rw [h1] at hb; cases hb; exact Nat.le_trans HB.out.size h2
        · rcases hi with rfl | hi
          · exact Nat.le_refl _
          · exact HU.out i hi
      case measure => simp [RowKit.intOf]; omega
    · obtain rfl : k = ns.length := by omega
      have HWL : Hid (Wr wr w.heap.size u (bytesF ns)) := Lib.hid (by have := HW.out; rwa [List.take_length] at this)
      have hlen := HBD.out ns
      have HLEN := Lib.hid hlen
      have HLC := Lib.hid (Len_any w.heap.size u (bytesF ns) wr HWL.out)
      rw [hlen] at HLC
      have hz : ((size - 4 * ns.length : Nat) : Int) = (size : Int) - ((4 * ns.length : Nat) : Int) := by omega
      have HZC := Lib.hid (Zero_ok w.heap.size (size - 4 * ns.length) u (bytesF ns) wr HWL.out (by omega))
      rw [hz] at HZC
      have hb4 : ((4 * ns.length : Nat) : Int) ≤ (size : Int) := by omega
      obtain ⟨n4, hn4⟩ : ∃ n4 : Nat, n4 = 4 * ns.length := ⟨_, rfl⟩
      rw [← hn4] at HLC HZC hb4
      have HN4 := Lib.hid hn4
      clear hz hlen hn4
      go_wp2_with (first
        | ((go_at_call 48; with_reducible refine HLC.out.mono ?_); rintro e w' ⟨rfl, rfl⟩)
        | ((go_at_call 47; with_reducible refine HZC.out.mono ?_); rintro e w3 ⟨rfl, u', hw3, hc3, ho3⟩; have HBY := Lib.hid (Bytes_any w.heap.size u' _ w3 hw3); have HC3 := Lib.hid hc3; clear hw3 hc3 ho3)
        | ((go_at_call 49; with_reducible refine HBY.out.mono ?_); rintro e w4 ⟨⟨v', rfl, hown⟩, hb⟩; have HOW := Lib.hid hown; have HB4 := Lib.hid hb; clear hown hb))
      go_ret
      have hz3 := HC3.out.size
      have hbw : Below w.heap.size w w3 := HB.out.trans (HC3.out.below HB.out.size (fun i hi => by
        rcases hi with rfl | hi
        · exact Nat.le_refl _
        · exact HU.out i hi))
      refine ⟨⟨v', rfl, ?_⟩, hbw.trans (HB4.out.mono hbw.size)⟩
      have h9 := HOW.out
      rw [← HN4.out]
      exact ⟨h9.1, h9.2.imp id fun ⟨g, cap, cur, e1, e2, r⟩ => ⟨g, cap, cur, e1, Nat.le_trans hbw.size e2, r⟩⟩
end Go.Proofs.Ytajlddgemkkcdaa
