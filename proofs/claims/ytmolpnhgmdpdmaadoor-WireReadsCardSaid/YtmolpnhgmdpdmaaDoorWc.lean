/- A slice of calls and how it lies in memory; the law own function few. Conditions stand in each theorem. -/
import Derived.Test.YtmolpnhgmdpdmaaDoorWb
namespace Go.Proofs.YtmolpnhgmdpdmaaDoor
open Go.RowKit
set_option linter.unusedVariables false
set_option maxHeartbeats 1000000

structure ActD where
  K : Int
  V : Int
  N : Int
  fv : Value
  bv : Value
  fs : List (Int × Int)
  B : List UInt8
def ActD.ok (w : World) (a : ActD) : Prop := 0 ≤ a.V ∧ a.V ≤ 18446744073709551615 ∧ Fl w a.fv a.fs ∧ (∀ f ∈ a.fs, 0 ≤ f.1 ∧ f.1 ≤ 18446744073709551615) ∧ Byt w a.bv a.B ∧ a.fs.length ≤ maxLen ∧ a.B.length ≤ maxLen
/-- The calls of a slice, and what lies behind them. -/
def Al (w : World) (v : Value) (xs : List ActD) : Prop :=
  ∃ A c, v = .slice A xs.length c ∧ xs.length ≤ c ∧ xs.length ≤ maxLen ∧ (∀ a ∈ xs, a.ok w) ∧ (0 < xs.length → ∃ b o, A = some ⟨b, o, none⟩ ∧ b < w.heap.size ∧ ∀ j (hj : j < xs.length),
    w.cell? ⟨b, o + j * 5, none⟩ = some (.int .i64 xs[j].K) ∧ w.cell? ⟨b, o + j * 5 + 1, none⟩ = some (.int .u64 xs[j].V) ∧ w.cell? ⟨b, o + j * 5 + 2, none⟩ = some (.int .i64 xs[j].N) ∧ w.cell? ⟨b, o + j * 5 + 3, none⟩ = some xs[j].fv ∧ w.cell? ⟨b, o + j * 5 + 4, none⟩ = some xs[j].bv)
def ActD.few (a : ActD) : Prop := a.fs.length ≤ 20 ∧ a.B.length ≤ 100 ∧ a.N ≤ 1000
def FewPost (xs : List ActD) (w : World) (e : Ending) (w' : World) : Prop := ((e = .returned (.bool true) ∧ xs.length ≤ 40 ∧ ∀ a ∈ xs, a.few) ∨ e = .returned (.bool false)) ∧ w = w'
set_option maxRecDepth 100000 in
theorem few_any (v : Value) (xs : List ActD) (w : World) (h : Al w v xs) : Calls Tryd.prog 25 #[v] w (FewPost xs w) := by
  obtain ⟨A, c, rfl, hc, hm, hok, hr⟩ := h
  have hm' : (xs.length : Int) ≤ 9223372036854775807 := by have := hm; unfold maxLen at this; omega
  have Hok := Lib.hid hok; have Hr := Lib.hid hr
  clear hok hr hm
  by_cases h40 : 40 < xs.length
  · have d : (40 : Int) < xs.length := by omega
    clear h40
    go_enter Tryd.func25, Tryd.ntmps25
    go_wp2
    go_ret
    exact ⟨.inr rfl, rfl⟩
  · have h40' : (xs.length : Int) ≤ 40 := by omega
    clear h40
    go_enter Tryd.func25, Tryd.ntmps25
    go_wp2
    go_loop [3] (fun i => ∃ k : Nat, k ≤ xs.length ∧ i = .int .i64 k ∧ Hid (∀ a ∈ xs.take k, a.few)) (fun i => xs.length - (intOf i).toNat)
    case atStart => exact ⟨0, Nat.zero_le _, rfl, Lib.hid (by simp)⟩
    case round =>
      obtain ⟨k, hk, rfl, HF⟩ := hrel
      by_cases hlt : k < xs.length
      · obtain ⟨b, o, rfl, hb, hcell⟩ := Hr.out (by omega)
        obtain ⟨-, -, c2, c3, c4⟩ := hcell k hlt
        obtain ⟨-, -, ⟨Af, cf, ef, -, -⟩, -, ⟨Ab, cb, eb, -, -⟩, hfl, hbl⟩ := Hok.out xs[k] (List.getElem_mem hlt)
        rw [ef] at c3
        rw [eb] at c4
        have HT := Lib.hid (show xs[k].few → ∀ a ∈ xs.take (k + 1), a.few from fun hf a ha => by
          rw [List.take_succ_eq_append_getElem hlt] at ha
          rcases List.mem_append.1 ha with ha | ha
          · exact HF.out a ha
          · rw [List.mem_singleton.1 ha]; exact hf)
        obtain ⟨nf, hnf⟩ : ∃ n, n = xs[k].fs.length := ⟨_, rfl⟩
        obtain ⟨nb, hnb⟩ : ∃ n, n = xs[k].B.length := ⟨_, rfl⟩
        obtain ⟨NN, hNN⟩ : ∃ n, n = xs[k].N := ⟨_, rfl⟩
        rw [← hnf] at c3 hfl
        rw [← hnb] at c4 hbl
        rw [← hNN] at c2
        have hfl' : (nf : Int) ≤ 9223372036854775807 := by unfold maxLen at hfl; omega
        have hbl' : (nb : Int) ≤ 9223372036854775807 := by unfold maxLen at hbl; omega
        have HE := Lib.hid (show nf ≤ 20 → nb ≤ 100 → NN ≤ 1000 → xs[k].few from fun a1 a2 a3 => ⟨by omega, by omega, by omega⟩)
        have i0 : (0 : Int) ≤ k := by omega
        have i1 : (k : Int) < xs.length := by omega
        clear hcell ef eb hnf hnb hNN hfl hbl HF hb
        by_cases g1 : 20 < nf
        · have g1' : (20 : Int) < nf := by omega
          clear g1 HT HE
          go_wp2
          go_ret
          exact ⟨.inr rfl, rfl⟩
        · have g1' : (nf : Int) ≤ 20 := by omega
          clear g1
          by_cases g2 : 100 < nb
          · have g2' : (100 : Int) < nb := by omega
            clear g2 HT HE
            go_wp2
            go_ret
            exact ⟨.inr rfl, rfl⟩
          · have g2' : (nb : Int) ≤ 100 := by omega
            clear g2
            by_cases g3 : 1000 < NN
            · clear HT HE
              go_wp2
              go_ret
              exact ⟨.inr rfl, rfl⟩
            · have g3' : NN ≤ 1000 := by omega
              have HT2 := Lib.hid (HT.out (HE.out (by omega) (by omega) g3'))
              clear g3 HT HE
              go_wp2
              go_round
              case rel => exact ⟨k + 1, hlt, by go_num, HT2⟩
              case measure => simp [intOf]; omega
      · have He := Lib.hid (show k = xs.length by omega)
        clear Hok Hr
        go_wp2
        go_ret
        have hf := HF.out
        rw [He.out, List.take_length] at hf
        exact ⟨.inl ⟨rfl, by omega, hf⟩, rfl⟩
end Go.Proofs.YtmolpnhgmdpdmaaDoor
