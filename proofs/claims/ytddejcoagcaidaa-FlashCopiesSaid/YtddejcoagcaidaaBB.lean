/- The contracts of the reference's Right, the law's small and few. Conditions stand in each theorem. -/
import Derived.Test.YtddejcoagcaidaaBA
namespace Go.Proofs.Ytddejcoagcaidaa
open Go.RowKit
set_option linter.unusedVariables false
set_option maxHeartbeats 2000000
set_option maxRecDepth 100000
theorem valB_eq (nb np sz en : Int) : valB nb np sz en = decide (2 ≤ nb ∧ nb ≤ 4096 ∧ 2 ≤ np ∧ np ≤ 512 ∧ 1 ≤ sz ∧ sz ≤ 8192 ∧ 1 ≤ en ∧ en ≤ 1048576) := by
  unfold valB wiB
  rw [Bool.eq_iff_iff]
  simp only [Bool.and_eq_true, decide_eq_true_eq]
  omega
theorem Right_any (nb np sz en : Int) (w : World) : Calls Try.prog 16 #[.agg #[.int .i64 nb, .int .i64 np, .int .i64 sz, .int .i64 en]] w fun e w' => e = .returned (.bool (valB nb np sz en)) ∧ Below w.heap.size w w' := by
  by_cases hall : 2 ≤ nb ∧ nb ≤ 4096 ∧ 2 ≤ np ∧ np ≤ 512 ∧ 1 ≤ sz ∧ sz ≤ 8192 ∧ 1 ≤ en ∧ en ≤ 1048576
  · rw [valB_eq, decide_eq_true hall]
    obtain ⟨a1, a2, a3, a4, a5, a6, a7, a8⟩ := hall
    go_enter Try.func16, Try.ntmps16
    go_wp2
    go_ret
    exact ⟨rfl, below_alloc w _⟩
  · rw [valB_eq, decide_eq_false hall]
    by_cases a1 : 2 ≤ nb
    rotate_left
    · clear hall
      go_enter Try.func16, Try.ntmps16
      go_wp2
      go_ret
      exact ⟨rfl, below_alloc w _⟩
    by_cases a2 : nb ≤ 4096
    rotate_left
    · clear hall
      go_enter Try.func16, Try.ntmps16
      go_wp2
      go_ret
      exact ⟨rfl, below_alloc w _⟩
    by_cases a3 : 2 ≤ np
    rotate_left
    · clear hall
      go_enter Try.func16, Try.ntmps16
      go_wp2
      go_ret
      exact ⟨rfl, below_alloc w _⟩
    by_cases a4 : np ≤ 512
    rotate_left
    · clear hall
      go_enter Try.func16, Try.ntmps16
      go_wp2
      go_ret
      exact ⟨rfl, below_alloc w _⟩
    by_cases a5 : 1 ≤ sz
    rotate_left
    · clear hall
      go_enter Try.func16, Try.ntmps16
      go_wp2
      go_ret
      exact ⟨rfl, below_alloc w _⟩
    by_cases a6 : sz ≤ 8192
    rotate_left
    · clear hall
      go_enter Try.func16, Try.ntmps16
      go_wp2
      go_ret
      exact ⟨rfl, below_alloc w _⟩
    by_cases a7 : 1 ≤ en
    rotate_left
    · clear hall
      go_enter Try.func16, Try.ntmps16
      go_wp2
      go_ret
      exact ⟨rfl, below_alloc w _⟩
    by_cases a8 : en ≤ 1048576
    rotate_left
    · clear hall
      go_enter Try.func16, Try.ntmps16
      go_wp2
      go_ret
      exact ⟨rfl, below_alloc w _⟩
    exact absurd ⟨a1, a2, a3, a4, a5, a6, a7, a8⟩ hall
def smB (nb np sz en : Int) : Bool := !valB nb np sz en || decide (nb ≤ 8 ∧ np ≤ 8 ∧ sz ≤ 40)
theorem small_any (nb np sz en : Int) (w : World) : Calls Try.prog 8 #[.agg #[.int .i64 nb, .int .i64 np, .int .i64 sz, .int .i64 en]] w fun e w' => e = .returned (.bool (smB nb np sz en)) ∧ Below w.heap.size w w' := by
  unfold smB
  have hr := fun W => Right_any nb np sz en W
  cases hv : valB nb np sz en
  · rw [hv] at hr
    have HR := Lib.hid hr
    clear hr
    go_enter Try.func8, Try.ntmps8
    go_wp2_with ((go_at_call 16; with_reducible refine (HR.out _).mono ?_); rintro e w1 ⟨rfl, hb⟩; obtain ⟨⟨k0, k1, k2, k3⟩, hwl, hbb⟩ := geo_cells hb; have HB := Lib.hid hbb; clear hb hbb)
    go_ret
    exact ⟨rfl, HB.out⟩
  · rw [hv] at hr
    have HR := Lib.hid hr
    clear hr
    by_cases a1 : nb ≤ 8 <;> by_cases a2 : np ≤ 8 <;> by_cases a3 : sz ≤ 40
    all_goals
      go_enter Try.func8, Try.ntmps8
      go_wp2_with ((go_at_call 16; with_reducible refine (HR.out _).mono ?_); rintro e w1 ⟨rfl, hb⟩; obtain ⟨⟨k0, k1, k2, k3⟩, hwl, hbb⟩ := geo_cells hb; have HB := Lib.hid hbb; clear hb hbb)
      go_ret
      exact ⟨by simp [a1, a2, a3], HB.out⟩
/-- A call of the laws. -/
structure KA where
  wh : Int
  bl : Int
  pg : Int
  vd : Value
  vs : Value
  x : List UInt8
  y : List UInt8
def KA.enc (e : KA) : List Value := [.int .i64 e.wh, .int .i64 e.bl, .int .i64 e.pg, e.vd, e.vs]
/-- The bytes of a call lie in w. -/
def KA.ok (w : World) (e : KA) : Prop := Byt w e.vd e.x ∧ Byt w e.vs e.y
/-- A slice value that reads as the calls L. -/
def Acts (w : World) (v : Value) (L : List KA) : Prop :=
  ∃ A c, v = .slice A L.length c ∧ (0 < L.length → ∃ g o, A = some ⟨g, o, none⟩ ∧ g < w.heap.size ∧ ∀ j (hj : j < L.length), w.cell? ⟨g, o + j * 5, none⟩ = some (.int .i64 L[j].wh) ∧ w.cell? ⟨g, o + j * 5 + 1, none⟩ = some (.int .i64 L[j].bl) ∧ w.cell? ⟨g, o + j * 5 + 2, none⟩ = some (.int .i64 L[j].pg) ∧ w.cell? ⟨g, o + j * 5 + 3, none⟩ = some L[j].vd ∧ w.cell? ⟨g, o + j * 5 + 4, none⟩ = some L[j].vs)
def fewE (e : KA) : Bool := decide (e.x.length ≤ 100) && decide (e.y.length ≤ 100)
def fewA (L : List KA) : Bool := L.all fewE
def fewB (L : List KA) (most : Nat) : Bool := decide (L.length ≤ most) && fewA L
def OkB (b : Bool) (w : World) (e : Ending) (w' : World) : Prop := e = .returned (.bool b) ∧ w = w'
theorem few_any (v : Value) (L : List KA) (most : Nat) (w : World) (h : Acts w v L) (hok : ∀ e ∈ L, KA.ok w e) (hm : most ≤ 100) : Calls Try.prog 9 #[v, .int .i64 (most : Int)] w (OkB (fewB L most) w) := by
  obtain ⟨A, c, rfl, hr⟩ := h
  have HR := Lib.hid hr
  have HK := Lib.hid hok
  have hm2 : (most : Int) ≤ 100 := by omega
  clear hr hok
  by_cases hl : L.length ≤ most
  · have hl2 : (L.length : Int) ≤ most := by omega
    unfold fewB
    rw [decide_eq_true hl, Bool.true_and]
    go_enter Try.func9, Try.ntmps9
    go_wp2
    go_loop [5] (fun i => ∃ k : Nat, k ≤ L.length ∧ i = .int .i64 k ∧ Hid (fewA (L.take k) = true)) (fun i => L.length - (RowKit.intOf i).toNat)
    case atStart => exact ⟨0, Nat.zero_le _, rfl, Lib.hid rfl⟩
    case round =>
      obtain ⟨k, hk, rfl, HP⟩ := hrel
      by_cases hlt : k < L.length
      · obtain ⟨g, o, rfl, hg, hcell⟩ := HR.out (by omega)
        obtain ⟨_, _, _, c3, c4⟩ := hcell k hlt
        obtain ⟨b1, b2⟩ := HK.out _ (List.getElem_mem hlt)
        have HT := Lib.hid (show fewA (L.take (k + 1)) = (fewA (L.take k) && fewE L[k]) by unfold fewA; rw [List.take_succ_eq_append_getElem hlt, List.all_append]; simp)
        have HN := Lib.hid (fun (h : fewE L[k] = false) => show fewA L = false by unfold fewA; rw [List.all_eq_false]; exact ⟨_, List.getElem_mem hlt, by rw [h]; simp⟩)
        generalize L[k] = e at *
        obtain ⟨A1, k1, e1⟩ := byt_form b1
        obtain ⟨A2, k2, e2⟩ := byt_form b2
        rw [e1] at c3
        rw [e2] at c4
        clear hcell b1 b2 e1 e2
        by_cases h1 : e.x.length ≤ 100
        · by_cases h2 : e.y.length ≤ 100
          · have HF := Lib.hid (show fewE e = true by unfold fewE; rw [decide_eq_true h1, decide_eq_true h2]; rfl)
            go_wp2
            go_round
            case rel => exact ⟨k + 1, by omega, by go_num, Lib.hid (by rw [HT.out, HP.out, HF.out]; rfl)⟩
            case measure => simp [RowKit.intOf]; omega
          · have HF := Lib.hid (HN.out (show fewE e = false by unfold fewE; rw [decide_eq_false h2, Bool.and_false]))
            go_wp2
            go_ret
            exact ⟨by rw [HF.out]; rfl, rfl⟩
        · have HF := Lib.hid (HN.out (show fewE e = false by unfold fewE; rw [decide_eq_false h1, Bool.false_and]))
          go_wp2
          go_ret
          exact ⟨by rw [HF.out]; rfl, rfl⟩
      · have hkl : k = L.length := by omega
        subst hkl
        have hp := HP.out
        rw [List.take_length] at hp
        have HP2 := Lib.hid hp
        clear hp
        go_wp2
        go_ret
        exact ⟨by rw [HP2.out]; rfl, rfl⟩
  · have hf : fewB L most = false := by unfold fewB; rw [decide_eq_false hl, Bool.false_and]
    rw [hf]
    clear hf
    go_enter Try.func9, Try.ntmps9
    go_wp2
    go_ret
    exact ⟨rfl, rfl⟩
end Go.Proofs.Ytddejcoagcaidaa
