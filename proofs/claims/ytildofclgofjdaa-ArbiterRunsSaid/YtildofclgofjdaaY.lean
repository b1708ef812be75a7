/- The walk of ArbiterTurns. Conditions stand in each theorem. -/
import Derived.Test.YtildofclgofjdaaX
namespace Go.Proofs.Ytildofclgofjdaa
open Go.RowKit
set_option linter.unusedVariables false
set_option maxHeartbeats 400000
set_option maxRecDepth 100000
/-- A slice value that reads as the integers ws. -/
def Ints (w : World) (v : Value) (ws : List Int) : Prop :=
  ∃ A c, v = .slice A ws.length c ∧ ws.length ≤ c ∧ (0 < ws.length → ∃ g o, A = some ⟨g, o, none⟩ ∧ g < w.heap.size ∧ ∀ j (hj : j < ws.length), w.cell? ⟨g, o + j, none⟩ = some (.int .i64 ws[j]))
def OkPost (w : World) (e : Ending) (w' : World) : Prop := e = .returned (.bool true) ∧ Below w.heap.size w w'
def tS (bu : Int) (k : Nat) : St := (St.new false bu 0 0 0).with (tQ k)
theorem tS_ok {bu : Int} (h : valB false bu 0 0 0 = true) (k : Nat) (hk : k ≤ 20) : Ok (tS bu k) := with_ok (new_ok h) (tQ_srt k hk)
theorem t_add (bu : Int) (ba ma k : Nat) (W : World) (h : Arb W ba ma (tS bu k)) (hk : k < 20) :
    Calls Try.prog 16 #[.pointer (some ⟨ba, 0, none⟩), .int .i64 (3 * (k : Int)), .int .i64 ((k : Int) % 4)] W (MapPost W ba ma (tS bu k) 0 (tQ (k + 1))) := by
  have hc := Add_any ba ma (tS bu k) W h (tQ_srt k (by omega)) (3 * (k : Int)) ((k : Int) % 4)
  have e1 : 3 * (k : Int) = ((3 * k : Nat) : Int) := by omega
  have e2 : (k : Int) % 4 = ((k % 4 : Nat) : Int) := by omega
  rw [e1, e2] at hc ⊢
  have h1 : addE (tS bu k).L ((3 * k : Nat) : Int) ((k % 4 : Nat) : Int) = 0 := tQ_addE k hk
  have h2 : addL (tS bu k).L ((3 * k : Nat) : Int) ((k % 4 : Nat) : Int) = tQ (k + 1) := tQ_addL k hk
  rw [h1, h2] at hc
  exact hc
/-- Between two rounds of the first loop. -/
structure T1 (w wN : World) (ba ma : Nat) (bu : Int) (ws : List Int) (k : Nat) (v : Value) (wr : World) : Prop where
  arb : Arb wr ba ma (tS bu k)
  row : wr.ownsRow wN.heap.size 48 2 v k (lv (tL ws k))
  below : Below w.heap.size w wr
  size : wN.heap.size ≤ wr.heap.size
  pos : ∀ i, i < k → 0 < ws.getD i 0
theorem T1.step {w wN : World} {ba ma : Nat} {bu : Int} {ws : List Int} {k : Nat} {v : Value} {wr W2 W3 : World} {v' : Value} (h : T1 w wN ba ma bu ws k v wr) (hb : ba < wN.heap.size) (hmm : ma < wN.heap.size) (hwm : w.heap.size ≤ ma) (hwN : w.heap.size ≤ wN.heap.size)
    (hA : Arb W2 ba ma ((tS bu k).with (tQ (k + 1)))) (hC : Chg (· = ma) wr W2) (o : Obj) (ho : W3.ownsRow wN.heap.size 48 2 v' (k + 1) (lv (tL ws (k + 1)))) (hg : (W2.alloc o).grownBy W3 v.ownBlock) (hp : 0 < ws.getD k 0) : T1 w wN ba ma bu ws (k + 1) v' W3 := by
  have hb2 : Below w.heap.size w W2 := h.below.trans (hC.below h.below.size (fun i hi => by omega))
  have hb3 : Below w.heap.size w (W2.alloc o) := hb2.alloc hb2.size o
  have hne : ∀ i, i < wN.heap.size → some i ≠ v.ownBlock := fun i hi e => by have := (h.row.lt i e.symm).1; omega
  have hA2 := hA.below (below_alloc W2 o)
  refine ⟨?_, ho, hb3.grown hg hb3.size (fun i e => by have := (h.row.lt i e).1; omega), ?_, fun i hi => ?_⟩
  · exact hA2.kept (hg.block ba hA2.lt (hne ba hb)) (hg.block ma hA2.map.lt (hne ma hmm))
  · have h1 := hC.size
    have h2 := hg.size
    have h3 : (W2.alloc o).heap.size = W2.heap.size + 1 := World.size_alloc _ _
    have h4 := h.size
    omega
  · rcases Nat.lt_or_ge i k with h1 | h1
    · exact h.pos i h1
    · have : i = k := by omega
      subst this
      exact hp
/-- Between two picks. -/
structure T2 (w wN : World) (ba ma : Nat) (bu : Int) (ws : List Int) (v : Value) (la : Int) (wr : World) : Prop where
  arb : ∃ s, Arb wr ba ma s ∧ Tst s ws.length bu la
  row : wr.ownsRow wN.heap.size 48 2 v ws.length (lv (tL ws ws.length))
  below : Below w.heap.size w wr
theorem getD_eq (ws : List Int) (k : Nat) (h : k < ws.length) : ws.getD k 0 = ws[k] := by simp [h]
theorem rng_tL {ws : List Int} (hr : ∀ x ∈ ws, I64 x) (hn : ws.length ≤ 20) : Rng (tL ws ws.length) := fun p hp => by
  obtain ⟨i, hi, rfl⟩ := tL_mem.1 hp
  refine ⟨by unfold I64; simp only; omega, ?_⟩
  show I64 (ws.getD i 0)
  rw [getD_eq ws i hi]
  exact hr _ (List.getElem_mem hi)
def T2Post (w wN : World) (ba ma : Nat) (bu : Int) (ws : List Int) (v : Value) (la : Int) (e : Ending) (w' : World) : Prop := e = .returned (.bool true) ∧ T2 w wN ba ma bu ws v la w'
theorem T2.pick {w wN : World} {ba ma : Nat} {bu : Int} {ws : List Int} {v : Value} {i : Nat} {f : Bool} {wr : World} (h : T2 w wN ba ma bu ws v (prev ws.length i f) wr) (hb : ba < wN.heap.size) (hwb : w.heap.size ≤ ba) (hr : ∀ x ∈ ws, I64 x) (hp : ∀ i, i < ws.length → 0 < ws.getD i 0) (hi : i < ws.length) (hn : ws.length ≤ 20) :
    Calls Try.prog 18 #[.pointer (some ⟨ba, 0, none⟩), .int .i64 (3 * (i : Int)), .int .i64 (bst bu (ws.getD i 0)), v] wr (T2Post w wN ba ma bu ws v ((3 * i : Nat) : Int)) := by
  obtain ⟨s, hA, hT⟩ := h.arb
  obtain ⟨h1, h2, h3, h4⟩ := hT.pick hp hi hn
  have e1 : 3 * (i : Int) = ((3 * i : Nat) : Int) := by omega
  rw [e1]
  have hld : Lds wr v (tL ws ws.length) := Lds.of_own (by rw [tL_length]; exact h.row)
  refine (picks_yes ba ma s wr hA hT.ok v (tL ws ws.length) hld (rng_tL hr hn) (by rw [tL_length]; omega) (by rw [hT.L]; exact acc_tL hn hp) (any_tL (by omega) hp) _ _ (by rw [h2]) h3).mono ?_
  rintro e w' ⟨rfl, hA2, hC⟩
  refine ⟨rfl, ⟨_, hA2, h4⟩, h.row.kept (row := some ba) ⟨hC.os, hC.tape, hC.output, hC.size, fun k hk hne => hC.block k hk (fun e => hne (by rw [e]))⟩ ?_, h.below.trans (hC.below h.below.size (fun j hj => by omega))⟩
  cases e : v.ownBlock with
  | none => exact .inl rfl
  | some j => right; intro e'; have := (h.row.lt j e).1; cases e'; omega
theorem bst_pos {bu x : Int} (h : 0 < bu) : bst bu x = min x bu := by unfold bst; rw [if_neg (by omega)]
theorem bst_zero {bu x : Int} (h : bu = 0) : bst bu x = x := by unfold bst; rw [if_pos h]
theorem prev_succ (n j : Nat) (f : Bool) : prev n (j + 1) f = ((3 * j : Nat) : Int) := by unfold prev; rw [if_neg (by omega)]; rfl
theorem prev_end (n : Nat) (f : Bool) : ∃ g, prev n n f = prev n 0 g := by
  cases n with
  | zero => exact ⟨f, rfl⟩
  | succ n => exact ⟨false, by rw [prev_succ]; rfl⟩
set_option maxHeartbeats 4000000 in
theorem turns_walk (bu turns : Int) (v : Value) (ws : List Int) (w : World) (hv : Ints w v ws) (hr : ∀ x ∈ ws, I64 x) (hlen : ws.length ≤ 9223372036854775807) :
    Calls Try.prog 5 #[.int .i64 bu, v, .int .i64 turns] w (OkPost w) := by
  obtain ⟨A, c, rfl, hc, hrow⟩ := hv
  have HROW := Lib.hid hrow
  have HRG := Lib.hid hr
  clear hrow hr
  cases hval : valB false bu 0 0 0
  · have N1 := Lib.hid (fun W => New_bad false bu 0 0 0 W hval)
    clear hval
    go_enter Try.func5, Try.ntmps5
    go_wp2_with (first
      | ((go_at_call 10; with_reducible refine (N1.out _).mono ?_); rintro e w1 ⟨rfl, hb⟩; have HB1 := Lib.hid hb; clear hb)
      | ((go_at_call 12; with_reducible refine (known_any _).mono ?_); rintro e w2 ⟨rfl, hb2⟩))
    go_ret
    exact ⟨rfl, HB1.out.trans (hb2.mono HB1.out.size)⟩
  · have N1 := Lib.hid (fun W => New_ok false bu 0 0 0 W hval)
    by_cases h20 : 20 < ws.length
    · have h20i : (20 : Int) < (ws.length : Int) := by omega
      go_enter Try.func5, Try.ntmps5
      go_wp2_with (first
        | ((go_at_call 10; with_reducible refine (N1.out _).mono ?_); rintro e w1 ⟨ba, ma, rfl, hA, hga, hgm, hb⟩; have HB1 := Lib.hid hb; clear hb hA hga hgm)
        | ((go_at_call 12; with_reducible refine (known_any _).mono ?_); rintro e w2 ⟨rfl, hb2⟩))
      go_ret
      exact ⟨rfl, HB1.out.trans (hb2.mono HB1.out.size)⟩
    by_cases ht : turns < 0 ∨ 3 < turns
    · have h20i : ((ws.length : Nat) : Int) ≤ 20 := by omega
      by_cases ht0 : turns < 0
      · go_enter Try.func5, Try.ntmps5
        go_wp2_with (first
          | ((go_at_call 10; with_reducible refine (N1.out _).mono ?_); rintro e w1 ⟨ba, ma, rfl, hA, hga, hgm, hb⟩; have HB1 := Lib.hid hb; clear hb hA hga hgm)
          | ((go_at_call 12; with_reducible refine (known_any _).mono ?_); rintro e w2 ⟨rfl, hb2⟩))
        go_ret
        exact ⟨rfl, HB1.out.trans (hb2.mono HB1.out.size)⟩
      · have ht3 : 3 < turns := by omega
        clear ht
        go_enter Try.func5, Try.ntmps5
        go_wp2_with (first
          | ((go_at_call 10; with_reducible refine (N1.out _).mono ?_); rintro e w1 ⟨ba, ma, rfl, hA, hga, hgm, hb⟩; have HB1 := Lib.hid hb; clear hb hA hga hgm)
          | ((go_at_call 12; with_reducible refine (known_any _).mono ?_); rintro e w2 ⟨rfl, hb2⟩))
        go_ret
        exact ⟨rfl, HB1.out.trans (hb2.mono HB1.out.size)⟩
    have hn20 : ws.length ≤ 20 := by omega
    have h20i : ((ws.length : Nat) : Int) ≤ 20 := by omega
    have ht0 : 0 ≤ turns := by omega
    have ht3 : turns ≤ 3 := by omega
    have HVAL := Lib.hid hval
    clear hval h20 ht hlen
    obtain ⟨i48, hi48, hz0, hz1, hz2⟩ := info_parts info48
    have hd1 : decide ((20 : Int) < ((ws.length : Nat) : Int)) = false := by simp; omega
    have hd2 : decide (turns < 0) = false := by simp; omega
    have hd3 : decide (3 < turns) = false := by simp; omega
    go_enter Try.func5, Try.ntmps5
    go_wp2_with ((go_at_call 10; with_reducible refine (N1.out _).mono ?_); rintro e w1 ⟨ba, ma, rfl, hA, hga, hgm, hb⟩; have HB1 := Lib.hid hb; have HA1 := Lib.hid hA; have HGA := Lib.hid hga; have HGM := Lib.hid hgm; clear hb hA hga hgm)
    have hba : ba < w1.heap.size := HA1.out.lt
    have hma : ma < w1.heap.size := HA1.out.map.lt
    have hwb : w.heap.size ≤ ba := HGA.out
    have hwm : w.heap.size ≤ ma := HGM.out
    go_loopw [9, 10] (fun v' i wr => ∃ k : Nat, k ≤ ws.length ∧ i = .int .i64 k ∧ Hid (T1 w w1 ba ma bu ws k v' wr)) (fun _ i _ => ws.length - (RowKit.intOf i).toNat)
    case atStart => exact ⟨0, Nat.zero_le _, rfl, ⟨HA1.out, World.ownsRow_nil _ _ _ _, HB1.out, Nat.le_refl _, fun i hi => absurd hi (by omega)⟩⟩
    case round =>
      obtain ⟨k, hk, rfl, HT⟩ := hrel
      by_cases hlt : k < ws.length
      · obtain ⟨g, o, rfl, hg, hcell⟩ := HROW.out (by omega)
        have c1 : wr.cell? ⟨g, o + k, none⟩ = some (.int .i64 ws[k]) := (HT.out.below.cell (by exact hg)).trans (hcell k hlt)
        have HX := Lib.hid (getD_eq ws k hlt)
        have HTL := Lib.hid (tL_succ ws k)
        rw [HX.out] at HTL
        generalize ws[k] = x at *
        clear hcell
        by_cases hx : x < 1
        · go_wp2_with ((go_at_call 12; with_reducible refine (known_any _).mono ?_); rintro e w2 ⟨rfl, hb2⟩)
          go_ret
          exact ⟨rfl, HT.out.below.trans (hb2.mono HT.out.below.size)⟩
        · have HAD := Lib.hid (t_add bu ba ma k wr HT.out.arb (by omega))
          have hki : ((k : Nat) : Int) < 20 := by omega
          go_wp2_with (first
            | ((go_at_call 16; with_reducible refine HAD.out.mono ?_); rintro e w2 ⟨rfl, hA2, hC2⟩
               have HA2 := Lib.hid hA2
               have HC2 := Lib.hid hC2
               have c2 : w2.cell? ⟨g, o + k, none⟩ = some (.int .i64 x) := (hC2.cell (p := ⟨g, o + k, none⟩) (by have := HT.out.below.size; show g < wr.heap.size; omega) (by show ¬ g = ma; omega)).trans c1
               have HO2 := Lib.hid (HT.out.row.kept (row := some ma) (w' := w2) ⟨hC2.os, hC2.tape, hC2.output, hC2.size, fun j hj hne => hC2.block j hj (fun e => hne (by rw [e]))⟩ (by
                 cases e : u9.ownBlock with
                 | none => exact .inl rfl
                 | some j => right; intro e'; have := (HT.out.row.lt j e).1; cases e'; omega))
               have hsz2 : w1.heap.size ≤ w2.heap.size := Nat.le_trans HT.out.size hC2.size
               clear hA2 hC2)
            | (at_builtin; refine wpList_append_own _ rfl _ _ 40 rfl w1.heap.size 48 i48 (.agg #[.int .i64 0, .int .i64 0]) 2 16 Try.underlying40 hi48 hz0 hz1 hz2 rfl (by decide) _ _ _ rfl (HO2.out.alloc _) ⟨w2.heap.size, 0, none⟩ 1 1 [.int .i64 (3 * (k : Int)), .int .i64 x] rfl rfl (cell_two_new w2 _ _ 48) (by intro u hu; simp at hu; rcases hu with rfl | rfl <;> rfl) (by unfold maxLen; omega) (by omega) (by simp; omega) ?_; intro v3 w3 ho3 hg3 _; have HO3 := Lib.hid ho3; have HG3 := Lib.hid hg3; clear ho3 hg3))
          go_roundw
          case rel =>
            refine ⟨k + 1, by omega, by go_num, HT.out.step hba hma hwm HB1.out.size HA2.out HC2.out _ ?_ HG3.out (by rw [HX.out]; omega)⟩
            rw [HTL.out, lv_append]
            have := HO3.out
            rw [show (3 * (k : Int)) = ((3 * k : Nat) : Int) by omega] at this
            exact this
          case measure => simp [RowKit.intOf]; omega
      · have hkl : k = ws.length := by omega
        subst hkl
        have hT := HT.out
        have HP := Lib.hid hT.pos
        have HT2 : Hid (T2 w w1 ba ma bu ws u9 (prev ws.length 0 true) wr) := ⟨⟨_, hT.arb, rfl, rfl, rfl, rfl, tS_ok HVAL.out _ hn20⟩, hT.row, hT.below⟩
        clear hT HT
        obtain ⟨wf, hwf⟩ : ∃ wf : World, wf = wr := ⟨_, rfl⟩
        subst hwf
        have hbu0 : 0 ≤ bu := by have := HVAL.out; unfold valB at this; rw [Bool.and_eq_true] at this; exact (bur_in this.1).1
        go_wp2
        go_loopw [11] (fun i wr => ∃ (t : Nat) (f : Bool), (t : Int) ≤ turns ∧ i = .int .i64 t ∧ Hid (T2 w w1 ba ma bu ws u9 (prev ws.length 0 f) wr)) (fun i _ => turns.toNat - (RowKit.intOf i).toNat)
        case atStart => exact ⟨0, true, by omega, rfl, HT2.out⟩
        case round =>
          obtain ⟨t, f, ht, rfl, HT⟩ := hrel
          by_cases htt : (t : Int) < turns
          · obtain ⟨wo, hwo⟩ : ∃ wo : World, wo = wr := ⟨_, rfl⟩
            subst hwo
            go_wp2
            go_loopw [12, 13] (fun i _ wr => ∃ (j : Nat), j ≤ ws.length ∧ i = .int .i64 j ∧ Hid (T2 w w1 ba ma bu ws u9 (prev ws.length j f) wr)) (fun i _ _ => ws.length - (RowKit.intOf i).toNat)
            case atStart => exact ⟨0, Nat.zero_le _, rfl, HT.out⟩
            case round =>
              obtain ⟨j, hj, rfl, HTJ⟩ := hrel
              by_cases hlj : j < ws.length
              · obtain ⟨g, o, rfl, hg, hcell⟩ := HROW.out (by omega)
                have c1 : wr.cell? ⟨g, o + j, none⟩ = some (.int .i64 ws[j]) := (HTJ.out.below.cell (by exact hg)).trans (hcell j hlj)
                have hpk := HTJ.out.pick hba hwb HRG.out HP.out hlj hn20
                rw [getD_eq ws j hlj] at hpk
                have hji : ((j : Nat) : Int) < 20 := by omega
                generalize ws[j] = x at *
                clear hcell
                by_cases hbp : 0 < bu
                · rw [bst_pos hbp] at hpk
                  have HPK := Lib.hid hpk
                  clear hpk
                  go_wp2_with ((go_at_call 18; with_reducible refine HPK.out.mono ?_); rintro e w2 ⟨rfl, hT3⟩; have HT3 := Lib.hid hT3; clear hT3)
                  go_roundw
                  case rel => exact ⟨j + 1, by omega, by go_num, by rw [prev_succ]; exact HT3.out⟩
                  case measure => simp [RowKit.intOf]; omega
                · have hbz : bu = 0 := by omega
                  rw [bst_zero hbz] at hpk
                  have HPK := Lib.hid hpk
                  clear hpk hbz
                  go_wp2_with ((go_at_call 18; with_reducible refine HPK.out.mono ?_); rintro e w2 ⟨rfl, hT3⟩; have HT3 := Lib.hid hT3; clear hT3)
                  go_roundw
                  case rel => exact ⟨j + 1, by omega, by go_num, by rw [prev_succ]; exact HT3.out⟩
                  case measure => simp [RowKit.intOf]; omega
              · have hjl : j = ws.length := by omega
                subst hjl
                obtain ⟨gg, hgg⟩ := prev_end ws.length f
                have HTE : Hid (T2 w w1 ba ma bu ws u9 (prev ws.length 0 gg) wr) := by have := HTJ.out; rw [hgg] at this; exact this
                clear hgg HTJ
                go_wp2
                go_roundw
                case rel => exact ⟨t + 1, gg, by omega, by go_num, HTE.out⟩
                case measure => simp [RowKit.intOf]; omega
          · go_wp2_with ((go_at_call 12; with_reducible refine (known_any _).mono ?_); rintro e w2 ⟨rfl, hb2⟩)
            go_ret
            exact ⟨rfl, HT.out.below.trans (hb2.mono HT.out.below.size)⟩
end Go.Proofs.Ytildofclgofjdaa
