/- The contracts of reads and works. Conditions stand in each theorem. -/
import Derived.Test.YtmnlkejhhdbhlaaJ
namespace Go.Proofs.Ytmnlkejhhdbhlaa
open Go.RowKit
set_option linter.unusedVariables false
set_option maxHeartbeats 4000000
set_option maxRecDepth 100000
theorem run_string {P : Program} (src dst e : TypeId) (hs : P.underlying src = some (.slice e)) (he : P.underlying e = some (.int .u8)) (hd : P.underlying dst = some .string)
    {w : World} {v : Value} {l : List UInt8} (h : Byt w v l) : (convert src dst v).run P w = .ok (.string ⟨l.toArray⟩) w := by
  obtain ⟨A, c, rfl, _, hr⟩ := h
  rcases Nat.eq_zero_or_pos l.length with h0 | h0
  · have hl : l = [] := List.eq_nil_of_length_eq_zero h0
    subst hl
    rcases A with _ | a
    · exact run_convert_bytes_nil w src e hs he _ c dst hd
    · exact run_convert_bytes_back w src dst e a c [] hs he hd (fun j hj => absurd hj (by simp))
  · obtain ⟨g, o, rfl, _, hc⟩ := hr h0
    exact run_convert_bytes_back w src dst e _ c l hs he hd (fun j hj => by rw [add_plain]; exact hc j hj)
/-- What a read of the bytes l leaves, with the error k. -/
def RdPost (w : World) (l : List UInt8) (k : Int) (e : Ending) (w' : World) : Prop :=
  (∃ A c, e = .returned (.tuple #[.slice A l.length c, .int .i64 k]) ∧ w'.ownsRow w.heap.size 5 1 (.slice A l.length c) l.length (bv l)) ∧ Below w.heap.size w w'
theorem reads_of (pv : Value) (a n k : Int) (l : List UInt8) (w : World) (h : Calls Try.prog 26 #[pv, .int .u64 a, .int .i64 n] w (RdPost w l k)) :
    Calls Try.prog 24 #[pv, .int .u64 a, .int .i64 n, .string ⟨l.toArray⟩, .int .i64 k] w (OkB w) := by
  have H := Lib.hid h
  clear h
  go_enter Try.func24, Try.ntmps24
  go_wp2_with (first
    | ((go_at_call 26; with_reducible refine H.out.mono ?_); rintro e w1 ⟨⟨A, c, rfl, ho⟩, hb⟩; have r1 := run_string (P := Try.prog) 29 9 5 Try.underlying29 Try.underlying5 Try.underlying9 (Byt.of_own ho); have HB := Lib.hid hb; clear ho hb)
    | ((go_at_call 13; with_reducible refine (num_any _ _).mono ?_); rintro e w' ⟨rfl, rfl⟩))
  go_ret
  exact ⟨rfl, HB.out⟩
theorem Gm.ch {m : Mm} {a : Nat} {n : Int} {l : List UInt8} (h : Gm m) (hc : m.L.length < 1000000) (hn : m.chk a n = 0 → n = (l.length : Int)) : Gm (m.ch a n l) := by
  unfold Mm.ch
  by_cases hz : m.chk a n = 0
  · rw [if_pos hz]
    obtain ⟨k, rfl, hk⟩ := Mm.chk_ok hz
    have hkl : k = l.length := by have := hn hz; omega
    have hp : (pat m.B a l).length = m.B.length := pat_len (by omega)
    have h1 : Gm { m with B := pat m.B a l } := ⟨by show 0 < (pat m.B a l).length; rw [hp]; exact h.pos, by show (pat m.B a l).length ≤ _; rw [hp]; exact h.max, h.cnt, fun p hp' => by show p.1 ≤ (pat m.B a l).length ∧ p.2 ≤ (pat m.B a l).length; rw [hp]; exact h.fits p hp'⟩
    unfold Mm.log
    split
    · exact h1
    · refine ⟨h1.pos, h1.max, by show (m.L ++ [(a, l.length)]).length ≤ _; rw [List.length_append]; simp; omega, fun p hp' => ?_⟩
      rcases List.mem_append.1 hp' with h2 | h2
      · exact h1.fits p h2
      · rw [List.mem_singleton] at h2
        subst h2
        show a ≤ (pat m.B a l).length ∧ l.length ≤ (pat m.B a l).length
        rw [hp]
        omega
  · rw [if_neg hz]; exact h
theorem Gm.clear {m : Mm} (h : Gm m) : Gm { m with L := [] } := ⟨h.pos, h.max, by simp, fun p hp => by cases hp⟩
theorem Gm.new {n : Nat} (h1 : 0 < n) (h2 : n ≤ 4194304) : Gm (Mm.new n) := ⟨by simpa [Mm.new] using h1, by simpa [Mm.new] using h2, by simp [Mm.new], fun p hp => by cases hp⟩
/-- A memory of the call's own, and what was there is as it was. -/
def Kp (w : World) (b d cap : Nat) (m : Mm) (W : World) : Prop := Mem W w.heap.size b d cap m ∧ Below w.heap.size w W
section
variable {w W W' : World} {b d cap : Nat} {m m' : Mm}
theorem Kp.later (h : Kp w b d cap m W) (hb : Below W.heap.size W W') : Kp w b d cap m W' := ⟨h.1.below hb, h.2.trans (hb.mono h.2.size)⟩
theorem Kp.mv (h : Kp w b d cap m W) (hm : Mem W' w.heap.size b d cap m') (hc : Chg (fun k => k = b ∨ k = d) W W') : Kp w b d cap m' W' :=
  ⟨hm, h.2.trans (hc.below h.2.size (fun i hi => by rcases hi with rfl | rfl; exact h.1.hb; exact h.1.row.1))⟩
theorem Kp.mem (h : Kp w b d cap m W) : Mem W w.heap.size b d cap m := h.1
theorem Kp.bel (h : Kp w b d cap m W) : Below w.heap.size w W := h.2
theorem kp_new (w : World) : Calls Try.prog 11 #[.int .i64 1] w fun e w' => ∃ b d, e = .returned (.tuple #[.pointer (some ⟨b, 0, none⟩), .int .i64 0]) ∧ Kp w b d 4096 (Mm.new 4096) w' :=
  (show Calls Try.prog 11 #[.int .i64 1] w (NewPost w 4096) from New_ok 1 (by decide) (by decide) w).mono fun e w' ⟨b, d, h1, h2, h3⟩ => ⟨b, d, h1, h2, h3⟩
theorem kp_write (h : Kp w b d cap m W) (hG : Gm m) (a : Nat) (v : Value) (l : List UInt8) (k n : Int) (hn : n = (l.length : Int)) (ha : a < 18446744073709551616) (hv : Byt W v l) (ho : Off (· = d) v l) (hl : l.length ≤ 4194304) (e1 : m.chk a n = k) (e2 : m.ch a n l = m') :
    Calls Try.prog 16 #[.pointer (some ⟨b, 0, none⟩), .int .u64 (a : Int), v] W fun e w' => e = .returned (.int .i64 k) ∧ Kp w b d cap m' w' := by
  subst e1 e2 hn
  exact (Write_any h.1 hG a v l ha hv ho hl).mono fun e w' ⟨a1, a2, a3⟩ => ⟨a1, h.mv a2 a3⟩
/-- A write of a literal. -/
theorem kp_lit (h : Kp w b d cap m W) (hG : Gm m) (a : Nat) (l : List UInt8) (k n : Int) (hn : n = (l.length : Int)) (ha : a < 18446744073709551616) (hl : l.length ≤ 4194304) (e1 : m.chk a n = k) (e2 : m.ch a n l = m') :
    Calls Try.prog 16 #[.pointer (some ⟨b, 0, none⟩), .int .u64 (a : Int), .slice (some ⟨W.heap.size, 0, none⟩) l.length l.length] (W.alloc (.cells (bv l).toArray 5)) fun e w' => e = .returned (.int .i64 k) ∧ Kp w b d cap m' w' :=
  kp_write (h.later (below_alloc W _)) hG a _ l k n hn ha (byt_lit W l) (fun _ b' hb' => by
    simp only [Value.ownBlock, Option.some.injEq] at hb'
    have := h.1.dlt
    show ¬ b' = d
    omega) hl e1 e2
theorem kp_fill (h : Kp w b d cap m W) (hG : Gm m) (a : Nat) (n : Int) (x : UInt8) (k : Int) (ha : a < 18446744073709551616) (hn : n < 9223372036854775808) (e1 : m.chk a n = k) (e2 : m.ch a n (List.replicate n.toNat x) = m') :
    Calls Try.prog 25 #[.pointer (some ⟨b, 0, none⟩), .int .u64 (a : Int), .int .i64 n, .int .u8 (x.toNat : Int)] W fun e w' => e = .returned (.int .i64 k) ∧ Kp w b d cap m' w' := by
  subst e1 e2
  exact (Fill_any h.1 hG a n x ha hn).mono fun e w' ⟨a1, a2, a3⟩ => ⟨a1, h.mv a2 a3⟩
theorem kp_read (h : Kp w b d cap m W) (hG : Gm m) (a : Nat) (n : Int) (l : List UInt8) (k : Int) (ha : a < 18446744073709551616) (hn : n < 9223372036854775808) (e1 : m.chk a n = k) (e2 : m.rd a n = l) :
    Calls Try.prog 26 #[.pointer (some ⟨b, 0, none⟩), .int .u64 (a : Int), .int .i64 n] W (RdPost W l k) := by
  subst e1 e2
  exact Read_any h.1 hG a n ha hn
theorem kp_reads (h : Kp w b d cap m W) (hG : Gm m) (a : Nat) (n : Int) (l : List UInt8) (k : Int) (ha : a < 18446744073709551616) (hn : n < 9223372036854775808) (e1 : m.chk a n = k) (e2 : m.rd a n = l) :
    Calls Try.prog 24 #[.pointer (some ⟨b, 0, none⟩), .int .u64 (a : Int), .int .i64 n, .string ⟨l.toArray⟩, .int .i64 k] W fun e w' => e = .returned (.bool true) ∧ Kp w b d cap m w' :=
  (reads_of _ _ _ k l W (kp_read h hG a n l k ha hn e1 e2)).mono fun e w' ⟨a1, a2⟩ => ⟨a1, h.later a2⟩
theorem kp_clear (h : Kp w b d cap m W) (hG : Gm m) : Calls Try.prog 19 #[.pointer (some ⟨b, 0, none⟩)] W fun e w' => e = .returned (.int .i64 0) ∧ Kp w b d cap { m with L := [] } w' :=
  (Clear_any h.1 hG.pos).mono fun e w' ⟨a1, a2, a3⟩ => ⟨a1, h.mv a2 (a3.mono fun i hi => .inl hi)⟩
theorem kp_logs (h : Kp w b d cap m W) (hG : Gm m) (v : Value) (many : Int) (F : Nat) (hF : F = fr m.L) (hv : Spn W v (m.L.drop (fr m.L))) : Calls Try.prog 18 #[.pointer (some ⟨b, 0, none⟩), .int .i64 (F : Int), v, .int .i64 many] W fun e w' => e = .returned (.bool true) ∧ Kp w b d cap m w' :=
  (logs_any _ v m.L many W (fun W' hW => Writes_any (h.later hW).1 hG.pos) hG.cnt hv F hF).mono fun e w' ⟨a1, a2⟩ => ⟨a1, h.later a2⟩
end
end Go.Proofs.Ytmnlkejhhdbhlaa
