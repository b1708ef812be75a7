/- The contract of accepts. Conditions stand in the theorem. -/
import Derived.Test.YtildofclgofjdaaF
namespace Go.Proofs.Ytildofclgofjdaa
open Go.RowKit
set_option linter.unusedVariables false
set_option maxHeartbeats 400000
set_option maxRecDepth 100000
/-- Are these loads accepted, where the numbers of seen have come? -/
def acc (L : List (Int × Int)) : List Int → List (Int × Int) → Bool
  | _, [] => true
  | seen, p :: r => if (look L p.1).isSome = false ∨ p.2 < 0 ∨ seen.contains p.1 = true then false else acc L (p.1 :: seen) r
theorem acc_no {L : List (Int × Int)} {seen : List Int} {p : Int × Int} {r : List (Int × Int)} (h : (look L p.1).isSome = false ∨ p.2 < 0 ∨ seen.contains p.1 = true) : acc L seen (p :: r) = false := by
  rw [acc, if_pos h]
theorem acc_yes {L : List (Int × Int)} {seen : List Int} {p : Int × Int} {r : List (Int × Int)} (h1 : (look L p.1).isSome = true) (h2 : 0 ≤ p.2) (h3 : seen.contains p.1 = false) : acc L seen (p :: r) = acc L (p.1 :: seen) r := by
  rw [acc, if_neg]
  rintro (h | h | h)
  · rw [h1] at h; cases h
  · omega
  · rw [h3] at h; cases h
set_option maxHeartbeats 1000000 in
theorem accepts_any (b m : Nat) (s : St) (w : World) (h : Arb w b m s) (v : Value) (l : List (Int × Int)) (hl : Lds w v l) (hR : Rng l) (hm : l.length ≤ 9000000000) :
    Calls Try.prog 32 #[.pointer (some ⟨b, 0, none⟩), v] w fun e w' => e = .returned (.bool (acc s.L [] l)) ∧ Below w.heap.size w w' := by
  obtain ⟨A, c, rfl, hc, hr⟩ := hl
  have HR := Lib.hid hr
  have HG := Lib.hid hR
  have H := Lib.hid h
  clear hr hR h
  have hmm := @run_makeMap Try.prog
  go_enter Try.func32, Try.ntmps32
  go_wp2
  go_loopw [13] (fun i wr => ∃ (k : Nat) (xs : List Int), k ≤ l.length ∧ i = .int .i64 k ∧ Hid (xs.length = k) ∧ Hid (Seen wr w.heap.size xs) ∧ Hid (acc s.L [] l = acc s.L xs (l.drop k)) ∧ Hid (Below w.heap.size w wr)) (fun i _ => l.length - (RowKit.intOf i).toNat)
  case atStart => exact ⟨0, [], Nat.zero_le _, rfl, rfl, Seen.made w, rfl, (Below.refl _ _).alloc (Nat.le_refl _) _⟩
  case round =>
    obtain ⟨k, xs, hk, rfl, HL, HS, HA, HB⟩ := hrel
    by_cases hlt : k < l.length
    · obtain ⟨g, o, rfl, hg, hcell⟩ := HR.out (by omega)
      have c1 : wr.cell? ⟨g, o + k * 2, none⟩ = some (.int .i64 l[k].1) := (HB.out.cell (by exact hg)).trans (hcell k hlt).1
      have c2 : wr.cell? ⟨g, o + k * 2 + 1, none⟩ = some (.int .i64 l[k].2) := (HB.out.cell (by exact hg)).trans (hcell k hlt).2
      have hrng := HG.out _ (List.getElem_mem hlt)
      have ha := HA.out
      rw [List.drop_eq_getElem_cons hlt] at ha
      have HA2 := Lib.hid ha
      clear ha HA
      generalize l[k] = p at *
      obtain ⟨q, n⟩ := p
      simp only at c1 c2 hrng
      have hA : Arb (wr.alloc (.cells #[.int .i64 q, .int .i64 n] 48)) b m s := (H.out.below HB.out).below ((Below.refl _ _).alloc (Nat.le_refl _) _)
      have k5 := hA.cMap
      have lk := fun nq : Nat => (hA.map.kept (w' := (wr.alloc (.cells #[.int .i64 q, .int .i64 n] 48)).drewN nq) rfl).look_ok hrng.1
      have hS2 : Seen (wr.alloc (.cells #[.int .i64 q, .int .i64 n] 48)) w.heap.size xs := HS.out.kept (Below.heap_alloc _ _ _ HS.out.lt)
      have sk := fun nq : Nat => (hS2.kept (w' := (wr.alloc (.cells #[.int .i64 q, .int .i64 n] 48)).drewN nq) rfl).look_at hrng.1
      have HQ := Lib.hid hrng
      have HS2 := Lib.hid hS2
      have hb2 : Hid (∀ nq, Below w.heap.size w ((wr.alloc (.cells #[.int .i64 q, .int .i64 n] 48)).drewN nq)) := fun nq => (HB.out.alloc HB.out.size _).trans ⟨rfl, rfl, rfl, Nat.le_refl _, fun _ _ => rfl⟩
      clear hA hrng hcell hS2
      cases hsm : (look s.L q).isSome
      · rw [hsm] at lk
        have HN := Lib.hid (acc_no (L := s.L) (seen := xs) (p := (q, n)) (r := l.drop (k + 1)) (.inl hsm))
        clear hsm
        go_wp2
        go_quiet (fail)
        go_wp2
        go_ret
        exact ⟨by rw [HA2.out, HN.out]; rfl, hb2.out _⟩
      · rw [hsm] at lk
        by_cases hneg : n < 0
        · have HN := Lib.hid (acc_no (L := s.L) (seen := xs) (p := (q, n)) (r := l.drop (k + 1)) (.inr (.inl hneg)))
          clear hsm
          go_wp2
          go_quiet (fail)
          go_wp2
          go_ret
          exact ⟨by rw [HA2.out, HN.out]; rfl, hb2.out _⟩
        · cases hct : xs.contains q
          · have HY := Lib.hid (acc_yes (L := s.L) (seen := xs) (p := (q, n)) (r := l.drop (k + 1)) hsm (by omega) hct)
            rw [hct] at sk
            have hnn : 0 ≤ n := by omega
            clear hsm hct hneg
            go_wp2
            go_quiet (fail)
            obtain ⟨w2, hrun, hs3, hg3⟩ := (HS2.out.kept (w' := (wr.alloc (.cells #[.int .i64 q, .int .i64 n] 48)).drewN nq) rfl).put (q := q) HQ.out.1 (by rw [HL.out]; unfold maxLen; omega)
            have HS3 := Lib.hid hs3
            have HB3 := Lib.hid ((hb2.out nq).grown hg3 (hb2.out nq).size (fun j e => by cases e; exact Nat.le_refl _))
            clear hs3 hg3
            go_wp2
            go_roundw
            case rel => exact ⟨k + 1, q :: xs, by omega, by go_num, by rw [List.length_cons, HL.out]; exact Lib.hid rfl, HS3.out, Lib.hid (HA2.out.trans HY.out), HB3.out⟩
            case measure => simp [RowKit.intOf]; omega
          · have HN := Lib.hid (acc_no (L := s.L) (seen := xs) (p := (q, n)) (r := l.drop (k + 1)) (.inr (.inr hct)))
            rw [hct] at sk
            have hnn : 0 ≤ n := by omega
            clear hsm hct hneg
            go_wp2
            go_quiet (fail)
            go_wp2
            go_ret
            exact ⟨by rw [HA2.out, HN.out]; rfl, hb2.out _⟩
    · go_wp2
      go_ret
      have hkl : k = l.length := by omega
      subst hkl
      have h1 := HA.out
      rw [List.drop_length] at h1
      exact ⟨by rw [h1]; rfl, HB.out⟩
end Go.Proofs.Ytildofclgofjdaa
