/- The contracts of Read, the closures of Write and Fill, and store. Conditions stand in each theorem. -/
import Derived.Test.YtngaifokkkmmcaaD
import Derived.Deep.Onto
namespace Go.Proofs.Ytngaifokkkmmcaa
open Go.RowKit
set_option linter.unusedVariables false
set_option maxHeartbeats 400000
set_option maxRecDepth 100000
/-- What Read returns. -/
def Mm.rd (m : Mm) (a : Nat) (n : Int) : List UInt8 := if m.chk a n = 0 then (m.B.drop a).take n.toNat else []
def ReadPost (w : World) (m : Mm) (a : Nat) (n : Int) (e : Ending) (w' : World) : Prop :=
  (∃ A c, e = .returned (.tuple #[.slice A (m.rd a n).length c, .int .i64 (m.chk a n)]) ∧ w'.ownsRow w.heap.size 5 1 (.slice A (m.rd a n).length c) (m.rd a n).length (bv (m.rd a n))) ∧ Below w.heap.size w w'
theorem Mm.chk_ok {m : Mm} {a : Nat} {n : Int} (h : m.chk a n = 0) : ∃ k : Nat, n = k ∧ a + k ≤ m.B.length := by
  unfold Mm.chk at h
  split at h
  · cases h
  · rename_i h1
    split at h
    · rename_i h2
      exact ⟨n.toNat, by omega, by omega⟩
    · cases h
theorem Mm.chk_of {m : Mm} {a n : Nat} (h : a + n ≤ m.B.length) : m.chk a (n : Int) = 0 := by
  unfold Mm.chk
  rw [if_neg (by omega), if_pos (by omega)]
section
variable {w : World} {base b d cap : Nat} {m : Mm}
theorem Mem.sub (h : Mem w base b d cap m) {a n o c : Nat} (hn : a + n ≤ m.B.length) (hc : n ≤ c) (ho : 0 < n → o = a) : Byt w (.slice (some ⟨d, o, none⟩) n c) ((m.B.drop a).take n) := by
  have hl : ((m.B.drop a).take n).length = n := by simp; omega
  refine ⟨_, c, by rw [hl], by omega, fun h0 => ⟨d, o, rfl, h.dlt, fun j hj => ?_⟩⟩
  rw [hl] at hj
  rw [ho (by omega), h.dat.cellAt (a + j) (by omega), bv_get (by omega)]
  simp
theorem Read_any (h : Mem w base b d cap m) (hG : Gm m) (a : Nat) (n : Int) (ha : a < 18446744073709551616) (hn : n < 9223372036854775808) :
    Calls Try.prog 17 #[.pointer (some ⟨b, 0, none⟩), .int .u64 (a : Int), .int .i64 n] w (ReadPost w m a n) := by
  have HC := Lib.hid (Check_any h hG a n ha hn)
  by_cases hz : m.chk a n = 0
  · obtain ⟨k, rfl, hk⟩ := Mm.chk_ok hz
    have hl : m.rd a (k : Int) = (m.B.drop a).take k := by unfold Mm.rd; rw [if_pos hz]; rfl
    have hll : ((m.B.drop a).take k).length = k := by simp; omega
    have HP : Hid (∀ W, Below w.heap.size w W → Calls Try.prog 43 #[.pointer (some ⟨b, 0, none⟩), .int .u64 (a : Int), .int .i64 (k : Int)] W fun e w' => (∃ o c, e = .returned (.slice (some ⟨d, o, none⟩) k c) ∧ k ≤ c ∧ (0 < k → o = a)) ∧ W = w') := Lib.hid fun W hb => part_any (h.below hb) a k hk hG.max
    have HCl : Hid (∀ W o c, Below w.heap.size w W → k ≤ c → (0 < k → o = a) → Calls Try.prog 42 #[.slice (some ⟨d, o, none⟩) k c] W fun e w' => (∃ A c, e = .returned (.slice A k c) ∧ w'.ownsRow W.heap.size 5 1 (.slice A k c) k (bv ((m.B.drop a).take k))) ∧ Below W.heap.size W w') := Lib.hid fun W o c hb hc ho => by
      have := Clone_any d o c ((m.B.drop a).take k) W (by rw [hll]; exact (h.below hb).sub hk hc ho) (by have := hG.max; omega)
      rw [hll] at this
      exact this
    have HPost : Hid (∀ A c w', w'.ownsRow w.heap.size 5 1 (.slice A k c) k (bv ((m.B.drop a).take k)) → Below w.heap.size w w' → ReadPost w m a (k : Int) (.returned (.tuple #[.slice A k c, .int .i64 0])) w') := Lib.hid fun A c w' h1 h2 => by
      refine ⟨⟨A, c, ?_, ?_⟩, h2⟩
      · rw [hl, hll, hz]
      · rw [hl, hll]; exact h1
    rw [hz] at HC
    clear hz hl hll h hG ha hn hk
    go_enter Try.func17, Try.ntmps17
    go_wp2
    go_step3
    go_wp2_with (first
      | ((go_at_call 22; with_reducible refine HC.out.mono ?_); rintro e w1 ⟨rfl, hb⟩; have HB := Lib.hid hb; clear hb)
      | ((go_at_call 43; with_reducible refine (HP.out _ HB.out).mono ?_); rintro e w' ⟨⟨o, c, rfl, hc, ho⟩, rfl⟩; have HQ := Lib.hid (And.intro hc ho); clear hc ho)
      | ((go_at_call 42; with_reducible refine (HCl.out _ _ _ HB.out HQ.out.1 HQ.out.2).mono ?_); rintro e w2 ⟨⟨A, c2, rfl, ho⟩, hb⟩; have HO := Lib.hid ho; have HB2 := Lib.hid hb; clear hb ho))
    go_step3
    go_wp2
    rw [Exit.noGoto_ret]
    go_ret2
    exact HPost.out _ _ _ (HO.out.mono HB.out.size) (HB.out.trans (HB2.out.mono HB.out.size))
  · have HPost : Hid (∀ w', Below w.heap.size w w' → ReadPost w m a n (.returned (.tuple #[.slice none 0 0, .int .i64 (m.chk a n)])) w') := Lib.hid fun w' h2 => by
      have hl : m.rd a n = [] := by unfold Mm.rd; rw [if_neg hz]
      refine ⟨⟨none, 0, ?_, ?_⟩, h2⟩
      · rw [hl]; rfl
      · rw [hl]; exact World.ownsRow_nil _ _ _ _
    have hne : ((m.chk a n : Int) == 0) = false := by simp [hz]
    generalize m.chk a n = z at *
    have hne2 : (z != 0) = true := by simp [hz]
    clear h hG ha hn
    go_enter Try.func17, Try.ntmps17
    go_wp2
    refine wp_scope_forward 0 rfl ?_
    go_wp2_with (first
      | ((go_at_call 22; with_reducible refine HC.out.mono ?_); rintro e w1 ⟨rfl, hb⟩; have HB := Lib.hid hb; clear hb))
    go_step3
    refine ⟨rfl, ?_⟩
    dsimp only
    go_wp2
    rw [Exit.noGoto_ret]
    go_ret2
    exact HPost.out _ HB.out
end
/-- The bytes l written over B from a on. -/
def pat (B : List UInt8) (a : Nat) (l : List UInt8) : List UInt8 := B.take a ++ l ++ B.drop (a + l.length)
theorem pat_nil (B : List UInt8) (a : Nat) : pat B a [] = B := by simp [pat]
theorem pat_len {B : List UInt8} {a : Nat} {l : List UInt8} (h : a + l.length ≤ B.length) : (pat B a l).length = B.length := by simp [pat]; omega
theorem pat_get {B : List UInt8} {a : Nat} {l : List UInt8} (h : a + l.length ≤ B.length) (i : Nat) : (pat B a l)[i]? = if i < a then B[i]? else if i < a + l.length then l[i - a]? else B[i]? := by
  have hta : (B.take a).length = a := by simp; omega
  unfold pat
  by_cases h1 : i < a
  · rw [if_pos h1, List.append_assoc, List.getElem?_append_left (by omega), List.getElem?_take, if_pos h1]
  · rw [if_neg h1]
    by_cases h2 : i < a + l.length
    · rw [if_pos h2, List.append_assoc, List.getElem?_append_right (by omega), hta, List.getElem?_append_left (by omega)]
    · rw [if_neg h2, List.getElem?_append_right (by rw [List.length_append]; omega), List.getElem?_drop, List.length_append, hta]
      congr 1
      omega
theorem pat_step {B : List UInt8} {a k : Nat} {l : List UInt8} (h : a + l.length ≤ B.length) (hk : k < l.length) : (pat B a (l.take k)).set (a + k) l[k] = pat B a (l.take (k + 1)) := by
  have e1 : (l.take k).length = k := by simp; omega
  have e2 : (l.take (k + 1)).length = k + 1 := by simp; omega
  apply List.ext_getElem?
  intro i
  rw [List.getElem?_set, pat_get (by omega), pat_get (by omega), e1, e2, pat_len (by omega)]
  by_cases h1 : a + k = i
  · subst h1
    rw [if_pos rfl, if_pos (by omega), if_neg (by omega), if_pos (by omega), List.getElem?_take, if_pos (by omega), show a + k - a = k by omega, List.getElem?_eq_getElem hk]
  · rw [if_neg h1]
    by_cases h2 : i < a
    · rw [if_pos h2, if_pos h2]
    · rw [if_neg h2, if_neg h2]
      by_cases h3 : i < a + k
      · rw [if_pos h3, if_pos (by omega), List.getElem?_take, List.getElem?_take, if_pos (by omega), if_pos (by omega)]
      · rw [if_neg h3, if_neg (by omega)]
theorem bv_set (l : List UInt8) (j : Nat) (b : UInt8) : (bv l).set j (.int .u8 (b.toNat : Int)) = bv (l.set j b) := by simp [bv, List.map_set]
theorem wf34 (q : Nat) (v : Value) (l : List UInt8) (k : Nat) (W : World) (hq : W.cell? ⟨q, 0, none⟩ = some v) (h : Byt W v l) (hk : k < l.length) (hm : l.length ≤ 4194304) :
    Calls Try.prog 53 #[.int .i64 (k : Int), .pointer (some ⟨q, 0, none⟩)] W fun e W' => e = .returned (.int .u8 (l[k].toNat : Int)) ∧ W = W' := by
  obtain ⟨A, c, rfl, hc, hr⟩ := h
  obtain ⟨g, o, rfl, hg, hcell⟩ := hr (by omega)
  have c1 := hcell k hk
  have hkl : (k : Int) < (l.length : Int) := by omega
  have hm2 : (l.length : Int) ≤ 4194304 := by omega
  clear hcell hr
  generalize (l[k].toNat : Int) = x at *
  clear hk hm
  generalize l.length = n at *
  go_enter Try.func53, Try.ntmps53
  go_wp2
  go_ret
  exact ⟨rfl, rfl⟩
theorem wf41 (q : Nat) (x : UInt8) (k : Int) (W : World) (hq : W.cell? ⟨q, 0, none⟩ = some (.int .u8 (x.toNat : Int))) :
    Calls Try.prog 31 #[.int .i64 k, .pointer (some ⟨q, 0, none⟩)] W fun e W' => e = .returned (.int .u8 (x.toNat : Int)) ∧ W = W' := by
  go_enter Try.func31, Try.ntmps31
  go_wp2
  go_ret
  exact ⟨rfl, rfl⟩
theorem store34 (base d cap a n q o c : Nat) (B l : List UInt8) (w : World) (hrow : w.ownsRow base 5 1 (.slice (some ⟨d, 0, none⟩) B.length cap) B.length (bv B)) (hn : n = l.length) (hfit : a + n ≤ B.length) (hm : B.length ≤ 4194304) (ho : 0 < n → o = a) (hc : n ≤ c)
    (HF : ∀ W, Chg (· = d) w W → ∀ k (hk : k < l.length), Calls Try.prog 53 #[.int .i64 (k : Int), .pointer (some ⟨q, 0, none⟩)] W fun e W' => e = .returned (.int .u8 (l[k].toNat : Int)) ∧ W = W') :
    Calls Try.prog 57 #[.slice (some ⟨d, o, none⟩) n c, .func (.func 53) #[] #[.pointer (some ⟨q, 0, none⟩)]] w fun e w' => (∃ v, e = .returned v) ∧ w'.ownsRow base 5 1 (.slice (some ⟨d, 0, none⟩) B.length cap) B.length (bv (pat B a l)) ∧ Chg (· = d) w w' := by
  have HFit := Lib.hid hfit
  have HRow := Lib.hid hrow
  have HFF := Lib.hid HF
  have HM := Lib.hid hm
  have HO := Lib.hid ho
  have HN := Lib.hid hn
  have hn1 : (n : Int) ≤ 4194304 := by omega
  clear HF hrow hfit hm ho hn
  go_enter Try.func57, Try.ntmps57
  go_wp2
  go_loopw [7] (fun i wr => ∃ k : Nat, k ≤ n ∧ i = .int .i64 k ∧ Hid (wr.ownsRow base 5 1 (.slice (some ⟨d, 0, none⟩) B.length cap) B.length (bv (pat B a (l.take k)))) ∧ Hid (Chg (· = d) w wr)) (fun i _ => n - (RowKit.intOf i).toNat)
  case atStart => exact ⟨0, Nat.zero_le _, rfl, Lib.hid (by rw [List.take_zero, pat_nil]; exact HRow.out), Lib.hid (Chg.refl _ _)⟩
  case round =>
    obtain ⟨k, hk, rfl, HR, HC⟩ := hrel
    by_cases hlt : k < n
    · have hkl : k < l.length := by have := HN.out; omega
      have hof := HO.out (by omega)
      have HL := Lib.hid (HFF.out wr HC.out k hkl)
      have c1 : ∃ u, wr.cell? ⟨d, o + k, none⟩ = some u := by
        have := HFit.out
        have e := HN.out
        rw [hof, HR.out.cellAt (a + k) (by omega)]
        exact ⟨_, List.getElem?_eq_getElem (by rw [bv_length, pat_len (by simp; omega)]; omega)⟩
      obtain ⟨u, c1⟩ := c1
      have f1 := HR.out.frozenAt (o + k)
      have HS : Hid ((wr.setCell ⟨d, o + k, none⟩ (.int .u8 (l[k].toNat : Int))).ownsRow base 5 1 (.slice (some ⟨d, 0, none⟩) B.length cap) B.length (bv (pat B a (l.take (k + 1))))) := Lib.hid (by
        have h2 := HR.out.stored (o + k) (.int .u8 (l[k].toNat : Int))
        have := HFit.out
        rw [bv_set, hof, pat_step (by have := HN.out; omega) hkl] at h2
        rw [hof]
        exact h2.1)
      generalize (l[k].toNat : Int) = x at *
      clear hof
      go_wp2_with ((go_at_call 53; with_reducible refine HL.out.mono ?_); rintro e w' ⟨rfl, rfl⟩)
      go_roundw
      case rel => exact ⟨k + 1, by omega, by go_num, HS, Lib.hid (HC.out.setCell rfl _)⟩
      case measure => simp [RowKit.intOf]; omega
    · obtain rfl : k = n := by omega
      have HR2 : Hid (wr.ownsRow base 5 1 (.slice (some ⟨d, 0, none⟩) B.length cap) B.length (bv (pat B a l))) := Lib.hid (by
        have := HR.out
        rw [List.take_of_length_le (by have := HN.out; omega)] at this
        exact this)
      go_wp2
      go_end0
      exact ⟨⟨_, rfl⟩, HR2.out, HC.out⟩
theorem store41 (base d cap a n q o c : Nat) (B l : List UInt8) (w : World) (hrow : w.ownsRow base 5 1 (.slice (some ⟨d, 0, none⟩) B.length cap) B.length (bv B)) (hn : n = l.length) (hfit : a + n ≤ B.length) (hm : B.length ≤ 4194304) (ho : 0 < n → o = a) (hc : n ≤ c)
    (HF : ∀ W, Chg (· = d) w W → ∀ k (hk : k < l.length), Calls Try.prog 31 #[.int .i64 (k : Int), .pointer (some ⟨q, 0, none⟩)] W fun e W' => e = .returned (.int .u8 (l[k].toNat : Int)) ∧ W = W') :
    Calls Try.prog 57 #[.slice (some ⟨d, o, none⟩) n c, .func (.func 31) #[] #[.pointer (some ⟨q, 0, none⟩)]] w fun e w' => (∃ v, e = .returned v) ∧ w'.ownsRow base 5 1 (.slice (some ⟨d, 0, none⟩) B.length cap) B.length (bv (pat B a l)) ∧ Chg (· = d) w w' := by
  have HFit := Lib.hid hfit
  have HRow := Lib.hid hrow
  have HFF := Lib.hid HF
  have HM := Lib.hid hm
  have HO := Lib.hid ho
  have HN := Lib.hid hn
  have hn1 : (n : Int) ≤ 4194304 := by omega
  clear HF hrow hfit hm ho hn
  go_enter Try.func57, Try.ntmps57
  go_wp2
  go_loopw [7] (fun i wr => ∃ k : Nat, k ≤ n ∧ i = .int .i64 k ∧ Hid (wr.ownsRow base 5 1 (.slice (some ⟨d, 0, none⟩) B.length cap) B.length (bv (pat B a (l.take k)))) ∧ Hid (Chg (· = d) w wr)) (fun i _ => n - (RowKit.intOf i).toNat)
  case atStart => exact ⟨0, Nat.zero_le _, rfl, Lib.hid (by rw [List.take_zero, pat_nil]; exact HRow.out), Lib.hid (Chg.refl _ _)⟩
  case round =>
    obtain ⟨k, hk, rfl, HR, HC⟩ := hrel
    by_cases hlt : k < n
    · have hkl : k < l.length := by have := HN.out; omega
      have hof := HO.out (by omega)
      have HL := Lib.hid (HFF.out wr HC.out k hkl)
      have c1 : ∃ u, wr.cell? ⟨d, o + k, none⟩ = some u := by
        have := HFit.out
        have e := HN.out
        rw [hof, HR.out.cellAt (a + k) (by omega)]
        exact ⟨_, List.getElem?_eq_getElem (by rw [bv_length, pat_len (by simp; omega)]; omega)⟩
      obtain ⟨u, c1⟩ := c1
      have f1 := HR.out.frozenAt (o + k)
      have HS : Hid ((wr.setCell ⟨d, o + k, none⟩ (.int .u8 (l[k].toNat : Int))).ownsRow base 5 1 (.slice (some ⟨d, 0, none⟩) B.length cap) B.length (bv (pat B a (l.take (k + 1))))) := Lib.hid (by
        have h2 := HR.out.stored (o + k) (.int .u8 (l[k].toNat : Int))
        have := HFit.out
        rw [bv_set, hof, pat_step (by have := HN.out; omega) hkl] at h2
        rw [hof]
        exact h2.1)
      generalize (l[k].toNat : Int) = x at *
      clear hof
      go_wp2_with ((go_at_call 31; with_reducible refine HL.out.mono ?_); rintro e w' ⟨rfl, rfl⟩)
      go_roundw
      case rel => exact ⟨k + 1, by omega, by go_num, HS, Lib.hid (HC.out.setCell rfl _)⟩
      case measure => simp [RowKit.intOf]; omega
    · obtain rfl : k = n := by omega
      have HR2 : Hid (wr.ownsRow base 5 1 (.slice (some ⟨d, 0, none⟩) B.length cap) B.length (bv (pat B a l))) := Lib.hid (by
        have := HR.out
        rw [List.take_of_length_le (by have := HN.out; omega)] at this
        exact this)
      go_wp2
      go_end0
      exact ⟨⟨_, rfl⟩, HR2.out, HC.out⟩
end Go.Proofs.Ytngaifokkkmmcaa
