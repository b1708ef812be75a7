/- act, whatever it is told. Conditions stand in each theorem. -/
import Derived.Test.YtmnlkejhhdbhlaaAW
import Derived.Test.YtmnlkejhhdbhlaaAF
import Derived.Test.YtmnlkejhhdbhlaaAK
import Derived.Test.YtmnlkejhhdbhlaaAX
import Derived.Test.YtmnlkejhhdbhlaaAY
import Derived.Test.YtmnlkejhhdbhlaaAR
import Derived.Test.YtmnlkejhhdbhlaaO
namespace Go.Proofs.Ytmnlkejhhdbhlaa
open Go.RowKit
set_option linter.unusedVariables false
set_option maxHeartbeats 8000000
set_option maxRecDepth 100000
theorem Mm.ch_len (m : Mm) (a : Nat) (n : Int) (l : List UInt8) : (m.ch a n l).L.length ≤ m.L.length + 1 := by
  unfold Mm.ch Mm.log
  split
  · split <;> simp
  · omega
theorem Mm.ch_blen (m : Mm) (a : Nat) (n : Int) (l : List UInt8) (hn : m.chk a n = 0 → n = (l.length : Int)) : (m.ch a n l).B.length = m.B.length := by
  by_cases hz : m.chk a n = 0
  · rw [Mm.ch_B hz]
    obtain ⟨k, rfl, hk⟩ := Mm.chk_ok hz
    have := hn hz
    exact pat_len (by omega)
  · unfold Mm.ch
    rw [if_neg hz]
theorem fill_n {m : Mm} {a : Nat} {n : Int} (x : UInt8) (h : m.chk a n = 0) : n = ((List.replicate n.toNat x).length : Int) := by
  obtain ⟨k, rfl, hk⟩ := Mm.chk_ok h
  simp
/-- What act leaves keeps the numbers. -/
theorem nx_ok {m : Mm} (hG : Gm m) (hc : m.L.length < 1000000) (e : KA) : Gm (nx m e) ∧ (nx m e).L.length ≤ m.L.length + 1 ∧ (nx m e).B.length = m.B.length := by
  unfold nx
  split
  · exact ⟨hG.ch hc (fun _ => rfl), m.ch_len _ _ _, m.ch_blen _ _ _ (fun _ => rfl)⟩
  · split
    · exact ⟨hG.ch hc (fill_n e.x), m.ch_len _ _ _, m.ch_blen _ _ _ (fill_n e.x)⟩
    · split
      · exact ⟨⟨hG.pos, hG.max, Nat.zero_le _, fun p hp => by cases hp⟩, by simp, rfl⟩
      · exact ⟨hG, by omega, rfl⟩
section
variable {W : World} {base b d cap : Nat} {m : Mm} {S : Nat → Prop} {A1 A2 : Option Addr} {n1 c1 n2 c2 : Nat}
theorem act_any (hm : Mem W base b d cap m) (hG : Gm m) (hcnt : m.L.length ≤ 1000) (hr : Rf W S A1 n1 c1 A2 n2 c2 m) (hSb : S b) (hSd : S d) (hSlt : ∀ k, S k → k < W.heap.size) (e : KA) (hok : KA.ok W e) (hl : e.l.length ≤ 5000) (hoff : Off (fun k => k = b ∨ k = d) e.vb e.l) (hbase : base ≤ W.heap.size) :
    Calls Try.prog 14 #[.pointer (some ⟨b, 0, none⟩), .agg #[.slice A1 n1 c1, .slice A2 n2 c2], .agg e.cells] W (AcP W base b d S (nx m e)) := by
  obtain ⟨wh, n, ad, vb, l, x⟩ := e
  obtain ⟨hv, had, hn⟩ := hok
  have hn2 : n < 9223372036854775808 := hn.2
  have had2 : ad < 18446744073709551616 := had
  by_cases h01 : wh = 0 ∨ wh = 1
  · obtain ⟨A, c, rfl, -⟩ := (show Byt W vb l from hv)
    have e1 : nx m ⟨wh, n, ad, .slice A l.length c, l, x⟩ = m.ch ad (l.length : Int) l := by unfold nx; rw [if_pos h01]
    rw [e1]
    exact act_write hm hG hcnt hr hSb hSd hSlt wh n ad x hn2 had2 hv hoff hl h01
  by_cases h2 : wh = 2
  · subst h2
    have e1 : nx m ⟨2, n, ad, vb, l, x⟩ = m.ch ad n (List.replicate n.toNat x) := by unfold nx; rw [if_neg h01, if_pos rfl]
    rw [e1]
    exact act_fill hm hG hcnt hr hSb hSd hSlt n ad vb x hn2 had2
  by_cases h5 : wh = 5
  · subst h5
    have e1 : nx m ⟨5, n, ad, vb, l, x⟩ = { m with L := [] } := by unfold nx; rw [if_neg h01, if_neg h2, if_pos rfl]
    rw [e1]
    exact act_clear hm hG hcnt hr hSb hSd hSlt n ad vb (.int .u8 (x.toNat : Int)) hn2 had2
  have e1 : nx m ⟨wh, n, ad, vb, l, x⟩ = m := by
    unfold nx
    rw [if_neg h01, if_neg h2, if_neg h5]
  rw [e1]
  by_cases h34 : wh = 3 ∨ wh = 4
  · exact act_read hm hG hcnt hr hSb hSd hSlt n ad vb (.int .u8 (x.toNat : Int)) hn2 had2 wh h34
  by_cases h6 : wh = 6
  · subst h6
    exact act_check hm hG hcnt hr hSb hSd hSlt n ad vb (.int .u8 (x.toNat : Int)) hn2 had2
  exact act_copy hm hG hcnt hr hSb hSd hSlt n ad vb (.int .u8 (x.toNat : Int)) hn2 had2 wh (by omega) hbase
end
end Go.Proofs.Ytmnlkejhhdbhlaa
