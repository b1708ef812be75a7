/- The contracts of the methods where there is no memory: a nil or a zero one; of few, bytes.Equal and Same. Conditions stand in each theorem. -/
import Derived.Test.YtmnlkejhhdbhlaaKW
import Derived.Test.YtmnlkejhhdbhlaaO
namespace Go.Proofs.Ytmnlkejhhdbhlaa
open Go.RowKit
set_option linter.unusedVariables false
set_option maxHeartbeats 4000000
set_option maxRecDepth 100000
/-- The pointer p leads to no memory, in w and in every later world. -/
def Mi (w : World) (p : Option Addr) : Prop := ∀ W, Below w.heap.size w W → Calls Try.prog 40 #[.pointer p] W fun e w' => e = .returned (.slice none 0 0) ∧ W = w'
theorem Mi.nil (w : World) : Mi w none := fun W _ => by
  go_enter Try.func40, Try.ntmps40
  go_wp2
  go_ret
  exact ⟨rfl, rfl⟩
theorem Mi.zero (w : World) (b : Nat) (h : w.heap[b]? = some (.cells zMem 62 (0, 0))) : Mi w (some ⟨b, 0, none⟩) := fun W hW => by
  have c1 : W.cell? ⟨b, 769, none⟩ = some (.slice none 0 0) := by
    rw [cell_of_row W b 769 zMem 62 (0, 0) ((hW.block b (Array.getElem?_eq_some_iff.1 h).1).trans h)]
    unfold zMem
    rw [Array.getElem?_push, zLog_size, if_pos rfl]
  go_enter Try.func40, Try.ntmps40
  go_wp2
  go_ret
  exact ⟨rfl, rfl⟩
theorem Mi.later {w W : World} {p : Option Addr} (h : Mi w p) (hb : Below w.heap.size w W) : Mi W p := fun W' hW' => h W' (hb.trans (hW'.mono hb.size))
section
variable {w : World} {p : Option Addr}
theorem Size_mi (h : Mi w p) : Calls Try.prog 22 #[.pointer p] w fun e w' => e = .returned (.int .i64 0) ∧ w = w' := by
  have HA := Lib.hid (h w (Below.refl _ _))
  clear h
  go_enter Try.func22, Try.ntmps22
  go_wp2_with ((go_at_call 40; with_reducible refine HA.out.mono ?_); rintro e w' ⟨rfl, rfl⟩)
  go_ret
  exact ⟨rfl, rfl⟩
theorem missing_mi (h : Mi w p) : Calls Try.prog 35 #[.pointer p] w fun e w' => e = .returned (.bool true) ∧ w = w' := by
  have HA := Lib.hid (h w (Below.refl _ _))
  clear h
  go_enter Try.func35, Try.ntmps35
  go_wp2_with ((go_at_call 40; with_reducible refine HA.out.mono ?_); rintro e w' ⟨rfl, rfl⟩)
  go_ret
  exact ⟨rfl, rfl⟩
theorem Check_mi (h : Mi w p) (a n : Int) : Calls Try.prog 23 #[.pointer p, .int .u64 a, .int .i64 n] w fun e w' => e = .returned (.int .i64 1) ∧ w = w' := by
  have HS := Lib.hid (Size_mi h)
  have HM := Lib.hid (missing_mi h)
  clear h
  go_enter Try.func23, Try.ntmps23
  go_wp2
  refine wp_scope_forward 0 rfl ?_
  go_wp2_with (first
    | ((go_at_call 22; with_reducible refine HS.out.mono ?_); rintro e w' ⟨rfl, rfl⟩)
    | ((go_at_call 35; with_reducible refine HM.out.mono ?_); rintro e w' ⟨rfl, rfl⟩))
  go_step3
  refine ⟨rfl, ?_⟩
  dsimp only
  go_wp2
  rw [Exit.noGoto_ret]
  go_ret
  exact ⟨rfl, rfl⟩
theorem Read_mi (h : Mi w p) (a n : Int) : Calls Try.prog 26 #[.pointer p, .int .u64 a, .int .i64 n] w (RdPost w [] 1) := by
  have HC := Lib.hid (Check_mi h a n)
  have HP : Hid (RdPost w [] 1 (.returned (.tuple #[.slice none 0 0, .int .i64 1])) w) := Lib.hid ⟨⟨none, 0, rfl, World.ownsRow_nil _ _ _ _⟩, Below.refl _ _⟩
  clear h
  go_enter Try.func26, Try.ntmps26
  go_wp2
  refine wp_scope_forward 0 rfl ?_
  go_wp2_with ((go_at_call 23; with_reducible refine HC.out.mono ?_); rintro e w' ⟨rfl, rfl⟩)
  go_step3
  refine ⟨rfl, ?_⟩
  dsimp only
  go_wp2
  rw [Exit.noGoto_ret]
  go_ret2
  exact HP.out
theorem change_mi (h : Mi w p) (a n : Int) (f : Value) : Calls Try.prog 33 #[.pointer p, .int .u64 a, .int .i64 n, f] w fun e w' => e = .returned (.int .i64 1) ∧ w = w' := by
  have HC := Lib.hid (Check_mi h a n)
  clear h
  go_enter Try.func33, Try.ntmps33
  go_wp2
  refine wp_scope_forward 0 rfl ?_
  go_wp2_with ((go_at_call 23; with_reducible refine HC.out.mono ?_); rintro e w' ⟨rfl, rfl⟩)
  go_step3
  refine ⟨rfl, ?_⟩
  dsimp only
  go_wp2
  rw [Exit.noGoto_ret]
  go_ret
  exact ⟨rfl, rfl⟩
theorem Write_mi (h : Mi w p) (a : Int) (A : Option Addr) (n c : Nat) : Calls Try.prog 16 #[.pointer p, .int .u64 a, .slice A n c] w fun e w' => e = .returned (.int .i64 1) ∧ Below w.heap.size w w' := by
  have HC := Lib.hid (change_mi (h.later (below_alloc w (.cells #[.slice A n c] 29))) a (n : Int) (.func (.func 34) #[] #[.pointer (some ⟨w.heap.size, 0, none⟩)]))
  clear h
  go_enter Try.func16, Try.ntmps16
  go_wp2_with ((go_at_call 33; with_reducible refine HC.out.mono ?_); rintro e w' ⟨rfl, rfl⟩)
  go_ret
  exact ⟨rfl, below_alloc _ _⟩
theorem Fill_mi (h : Mi w p) (a n x : Int) : Calls Try.prog 25 #[.pointer p, .int .u64 a, .int .i64 n, .int .u8 x] w fun e w' => e = .returned (.int .i64 1) ∧ Below w.heap.size w w' := by
  have HC := Lib.hid (change_mi (h.later (below_alloc w (.cells #[.int .u8 x] 5))) a n (.func (.func 41) #[] #[.pointer (some ⟨w.heap.size, 0, none⟩)]))
  clear h
  go_enter Try.func25, Try.ntmps25
  go_wp2_with ((go_at_call 33; with_reducible refine HC.out.mono ?_); rintro e w' ⟨rfl, rfl⟩)
  go_ret
  exact ⟨rfl, below_alloc _ _⟩
theorem zLog_lg0 : Lg zLog [] := by
  have h := zLog_lg (.bool false) rfl
  refine ⟨zLog_last, fun u hu => h.one u ?_, fun i hi => absurd hi (by simp)⟩
  simp only [Array.toList_push, List.mem_append]
  exact .inl hu
theorem Writes_mi (h : Mi w p) : Calls Try.prog 17 #[.pointer p] w (WrPost w []) := by
  have HM := Lib.hid (missing_mi h)
  have HW := Lib.hid (writes_any zLog w)
  have hz := zero60
  have HP : Hid (WrPost w [] (.returned (.func (.func 46) #[] #[.pointer (some ⟨w.heap.size, 0, none⟩)])) (w.alloc (.cells zLog 60))) := Lib.hid ⟨_, rfl, Nat.le_refl _, ⟨_, heap_alloc_new w _, zLog_size, zLog_lg0⟩, below_alloc _ _⟩
  clear h
  go_enter Try.func17, Try.ntmps17
  go_wp2_with (first
    | ((go_at_call 35; with_reducible refine HM.out.mono ?_); rintro e w' ⟨rfl, rfl⟩)
    | ((go_at_call 36; with_reducible refine HW.out.mono ?_); rintro e w1 ⟨rfl, rfl⟩))
  go_ret
  exact HP.out
theorem Clear_mi (h : Mi w p) : Calls Try.prog 19 #[.pointer p] w fun e w' => e = .returned (.int .i64 1) ∧ w = w' := by
  have HM := Lib.hid (missing_mi h)
  clear h
  go_enter Try.func19, Try.ntmps19
  go_wp2
  refine wp_scope_forward 0 rfl ?_
  go_wp2_with ((go_at_call 35; with_reducible refine HM.out.mono ?_); rintro e w' ⟨rfl, rfl⟩)
  go_step3
  refine ⟨rfl, ?_⟩
  dsimp only
  go_wp2
  rw [Exit.noGoto_ret]
  go_ret
  exact ⟨rfl, rfl⟩
theorem Copy_mi (h : Mi w p) : Calls Try.prog 20 #[.pointer p] w fun e w' => e = .returned (.pointer none) ∧ w = w' := by
  have HM := Lib.hid (missing_mi h)
  clear h
  go_enter Try.func20, Try.ntmps20
  go_wp2_with ((go_at_call 35; with_reducible refine HM.out.mono ?_); rintro e w' ⟨rfl, rfl⟩)
  go_ret
  exact ⟨rfl, rfl⟩
end
theorem Equal_any (v1 v2 : Value) (x y : List UInt8) (w : World) (h1 : Byt w v1 x) (h2 : Byt w v2 y) : Calls Try.prog 39 #[v1, v2] w fun e w' => e = .returned (.bool (decide (x = y))) ∧ w = w' := by
  have r1 := run_string (P := Try.prog) 29 9 5 Try.underlying29 Try.underlying5 Try.underlying9 h1
  have r2 := run_string (P := Try.prog) 29 9 5 Try.underlying29 Try.underlying5 Try.underlying9 h2
  clear h1 h2
  go_enter Try.func39, Try.ntmps39
  go_wp2
  go_ret
  refine ⟨?_, rfl⟩
  show Ending.returned (.bool (x == y)) = _
  by_cases h : x = y <;> simp [h]
/-- Whatever the pointer leads to, its bytes are l. -/
def Ba (w : World) (p : Option Addr) (l : List UInt8) : Prop := Calls Try.prog 40 #[.pointer p] w fun e w' => (∃ v, e = .returned v ∧ Byt w v l) ∧ w = w'
theorem Ba.of_mi {w : World} {p : Option Addr} (h : Mi w p) : Ba w p [] := (h w (Below.refl _ _)).mono fun e w' ⟨a1, a2⟩ => ⟨⟨_, a1, Byt.nil w⟩, a2⟩
theorem Ba.of_mem {w : World} {base b d cap : Nat} {m : Mm} (h : Mem w base b d cap m) : Ba w (some ⟨b, 0, none⟩) m.B := (all_any h).mono fun e w' ⟨a1, a2⟩ => ⟨⟨_, a1, h.byt⟩, a2⟩
theorem Same_any {w : World} {p1 p2 : Option Addr} {l1 l2 : List UInt8} (h1 : Ba w p1 l1) (h2 : Ba w p2 l2) : Calls Try.prog 21 #[.pointer p1, .pointer p2] w fun e w' => e = .returned (.bool (decide (l1 = l2))) ∧ w = w' := by
  unfold Ba at h1 h2
  have H1 := Lib.hid h1
  have H2 := Lib.hid h2
  clear h1 h2
  go_enter Try.func21, Try.ntmps21
  go_wp2_with (first
    | ((go_at_call 40; with_reducible refine H1.out.mono ?_); rintro e w' ⟨⟨v1, rfl, hb⟩, rfl⟩; have HB1 := Lib.hid hb; obtain ⟨A1, c1, rfl, -⟩ := hb; clear H1)
    | ((go_at_call 40; with_reducible refine H2.out.mono ?_); rintro e w' ⟨⟨v2, rfl, hb⟩, rfl⟩; have HB2 := Lib.hid hb; obtain ⟨A2, c2, rfl, -⟩ := hb; clear H2)
    | ((go_at_call 39; with_reducible refine (Equal_any _ _ _ _ _ HB1.out HB2.out).mono ?_); rintro e w' ⟨rfl, rfl⟩))
  go_ret
  exact ⟨rfl, rfl⟩
/-- At most most calls with at most 5000 bytes each. -/
def fewB (L : List KA) (most : Int) : Bool := decide ((L.length : Int) ≤ most) && L.all fun e => decide (e.l.length ≤ 5000)
theorem few_any (v : Value) (L : List KA) (most : Int) (w : World) (hL : Acts w v L) (hok : ∀ e ∈ L, KA.ok w e) (hm : L.length ≤ 4611686018427387904) : Calls Try.prog 9 #[v, .int .i64 most] w fun e w' => e = .returned (.bool (fewB L most)) ∧ w = w' := by
  obtain ⟨A, c, rfl, hr⟩ := hL
  have HR := Lib.hid hr
  have HK := Lib.hid hok
  unfold fewB
  by_cases h1 : (L.length : Int) ≤ most
  · have g1 : decide ((L.length : Int) > most) = false := decide_eq_false (by omega)
    have g2 : decide (most < (L.length : Int)) = false := decide_eq_false (by omega)
    have HE := Lib.hid (decide_eq_true h1)
    have hlm : (L.length : Int) ≤ 4611686018427387904 := by omega
    clear hr hok h1 hm
    go_enter Try.func9, Try.ntmps9
    go_wp2
    go_loopw [5] (fun i wr => ∃ k : Nat, k ≤ L.length ∧ i = .int .i64 k ∧ Hid (∀ j (hj : j < L.length), j < k → L[j].l.length ≤ 5000) ∧ wr = w) (fun i _ => L.length - (RowKit.intOf i).toNat)
    case atStart => exact ⟨0, Nat.zero_le _, rfl, Lib.hid (fun j hj h => absurd h (by omega)), rfl⟩
    case round =>
      obtain ⟨k, hk, rfl, HA, rfl⟩ := hrel
      by_cases hlt : k < L.length
      · obtain ⟨g, o, rfl, hg, hcell⟩ := HR.out (by omega)
        obtain ⟨-, -, -, c3, -⟩ := hcell k hlt
        obtain ⟨hb, -, -⟩ := HK.out L[k] (List.getElem_mem hlt)
        obtain ⟨Au, cu, hu, -⟩ := hb
        rw [hu] at c3
        by_cases hbig : L[k].l.length ≤ 5000
        · have HNX : Hid (∀ j (hj : j < L.length), j < k + 1 → L[j].l.length ≤ 5000) := Lib.hid (fun j hj h => by
            rcases Nat.lt_or_ge j k with h1 | h1
            · exact HA.out j hj h1
            · have : j = k := by omega
              subst this
              exact hbig)
          have q1 : decide ((L[k].l.length : Int) > 5000) = false := decide_eq_false (by omega)
          have q2 : decide ((5000 : Int) < (L[k].l.length : Int)) = false := decide_eq_false (by omega)
          have q3 : decide (5000 < L[k].l.length) = false := decide_eq_false (by omega)
          have hki : (k : Int) < (L.length : Int) := by omega
          clear hcell hu hbig
          generalize L[k].l.length = n at *
          go_wp2
          go_roundw
          case rel => exact ⟨k + 1, by omega, by go_num, HNX, trivial⟩
          case measure => simp [RowKit.intOf]; omega
        · have HF : Hid ((L.all fun e => decide (e.l.length ≤ 5000)) = false) := Lib.hid (by
            rw [List.all_eq_false]
            exact ⟨L[k], List.getElem_mem hlt, by simpa using hbig⟩)
          have q1 : decide ((L[k].l.length : Int) > 5000) = true := decide_eq_true (by omega)
          have q2 : decide ((5000 : Int) < (L[k].l.length : Int)) = true := decide_eq_true (by omega)
          have q3 : decide (5000 < L[k].l.length) = true := decide_eq_true (by omega)
          have hki : (k : Int) < (L.length : Int) := by omega
          clear hcell hu hbig
          generalize L[k].l.length = n at *
          go_wp2
          go_ret
          exact ⟨by rw [HE.out, HF.out]; rfl, rfl⟩
      · have hkl : k = L.length := by omega
        have HT : Hid ((L.all fun e => decide (e.l.length ≤ 5000)) = true) := Lib.hid (by
          rw [List.all_eq_true]
          intro e he
          obtain ⟨j, hj, rfl⟩ := List.getElem_of_mem he
          exact decide_eq_true (HA.out j hj (by omega)))
        have q1 : decide ((k : Int) < (L.length : Int)) = false := decide_eq_false (by omega)
        have q2 : decide (k < L.length) = false := decide_eq_false (by omega)
        clear hkl hlt
        go_wp2
        go_ret
        exact ⟨by rw [HE.out, HT.out]; rfl, rfl⟩
  · have g1 : decide ((L.length : Int) > most) = true := decide_eq_true (by omega)
    have g2 : decide (most < (L.length : Int)) = true := decide_eq_true (by omega)
    have HE := Lib.hid (decide_eq_false h1)
    clear hr hok h1 hm
    go_enter Try.func9, Try.ntmps9
    go_wp2
    go_ret
    exact ⟨by rw [HE.out]; rfl, rfl⟩
end Go.Proofs.Ytmnlkejhhdbhlaa
