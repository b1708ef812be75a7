/- The contract of New. Conditions stand in each theorem. -/
import Derived.Test.YtddejcoagcaidaaV
import Derived.Maps.OwnIn
namespace Go.Proofs.Ytddejcoagcaidaa
open Go.RowKit
set_option linter.unusedVariables false
set_option maxHeartbeats 2000000
set_option maxRecDepth 100000
theorem New_bad (nb np sz en : Int) (v : Value) (w : World) (hv : valB nb np sz en = false) : Calls Try.prog 11 #[.agg #[.int .i64 nb, .int .i64 np, .int .i64 sz, .int .i64 en], v] w fun e w' => e = .returned (.tuple #[.pointer none, .int .i64 2]) ∧ Below w.heap.size w w' := by
  go_enter Try.func11, Try.ntmps11
  go_wp2_with ((go_at_call 33; with_reducible refine (valid_any _ _ _ _ _).mono ?_); rintro e w1 ⟨rfl, hb⟩)
  go_ret2
  exact ⟨rfl, (below_alloc w _).trans (hb.mono (by simp))⟩
def NewMid (w : World) (nb np sz : Nat) (en : Int) (v : Value) (w' : World) : Prop := ∃ b g m, v = .pointer (some ⟨b, 0, none⟩) ∧ Dv w' w.heap.size b g m (fun _ => .slice none 0 0) (Dev.new nb np sz en []) ∧ Below w.heap.size w w'
theorem new_mid {w W : World} {b g m nb np sz : Nat} {en : Int} (hB : Below w.heap.size w W) (hb : W.heap[b]? = some (.cells (devCells (Dev.new nb np sz en []) g m) 64 (0, 0))) (hg : W.heap[g]? = some (.cells (zb nb) 94 (0, 0))) (hm : Seen W m []) (h1 : w.heap.size ≤ b) (h2 : w.heap.size ≤ g) (h3 : w.heap.size ≤ m) :
    NewMid w nb np sz en (.pointer (some ⟨b, 0, none⟩)) W :=
  ⟨b, g, m, rfl, ⟨hb, h1, h2, h3, ⟨zb nb, hg, zb_size nb, fun i hi => zb_at nb i hi⟩, fun i hi => ⟨[], World.ownsRow_nil _ _ _ _, trivial⟩, fun i j _ _ _ => .inl rfl, hm, Nat.zero_le _⟩, hB⟩
theorem geo_cells {w w1 : World} {a b c d : Value} {t : TypeId} (hb : Below (w.alloc (.cells #[a, b, c, d] t)).heap.size (w.alloc (.cells #[a, b, c, d] t)) w1) :
    (w1.cell? ⟨w.heap.size, 0, none⟩ = some a ∧ w1.cell? ⟨w.heap.size, 1, none⟩ = some b ∧ w1.cell? ⟨w.heap.size, 2, none⟩ = some c ∧ w1.cell? ⟨w.heap.size, 3, none⟩ = some d) ∧ w.heap.size < w1.heap.size ∧ Below w.heap.size w w1 := by
  have h0 : w1.heap[w.heap.size]? = some (.cells #[a, b, c, d] t (0, 0)) := (hb.block _ (by simp)).trans (heap_alloc_new w _)
  have e := fun k => cell_of_row w1 w.heap.size k _ t (0, 0) h0
  exact ⟨⟨e 0, e 1, e 2, e 3⟩, (Array.getElem?_eq_some_iff.1 h0).1, (below_alloc w _).trans (hb.mono (by simp))⟩
theorem three_new (w : World) (o1 o2 o3 : Obj) : (((w.alloc o1).alloc o2).alloc o3).heap[w.heap.size]? = some o1 ∧ (((w.alloc o1).alloc o2).alloc o3).heap[w.heap.size + 1]? = some o2 ∧ (((w.alloc o1).alloc o2).alloc o3).heap[w.heap.size + 1 + 1]? = some o3 ∧ Below w.heap.size w (((w.alloc o1).alloc o2).alloc o3) := by
  have k1 := heap_alloc_new w o1
  have z1 : (w.alloc o1).heap.size = w.heap.size + 1 := World.size_alloc _ _
  have b0 := below_alloc w o1
  generalize w.alloc o1 = W1 at *
  have k2 := heap_alloc_new W1 o2
  have z2 : (W1.alloc o2).heap.size = W1.heap.size + 1 := World.size_alloc _ _
  have b1 := below_alloc W1 o2
  generalize W1.alloc o2 = W2 at *
  have k3 := heap_alloc_new W2 o3
  have b2 := below_alloc W2 o3
  generalize W2.alloc o3 = W3 at *
  refine ⟨(b2.block _ (by omega)).trans ((b1.block _ (by omega)).trans k1), ?_, ?_, (b0.trans (b1.mono (by omega))).trans (b2.mono (by omega))⟩
  · rw [← z1]; exact (b2.block _ (by omega)).trans k2
  · rw [← z1, ← z2]; exact k3
theorem Dv.remap {w w' : World} {base b g m : Nat} {V : Nat → Value} {s : Dev} (h : Dv w base b g m V s) (hc : Chg (· = m) w w') {F : List Int} (hm : Seen w' m F) : Dv w' base b g m V { s with F := F } := by
  have hNB : NoBytes (· = m) w := fun k hk e cs fr e2 => by
    subst e
    obtain ⟨es, c, hm⟩ := h.flt.isMap
    rw [hm] at e2
    cases e2
  obtain ⟨G, hG, r⟩ := h.grid
  refine ⟨(hc.block b h.lt (fun e => h.ne_mb e.symm)).trans h.blk, h.hb, h.hg, h.hm, ⟨G, (hc.block g h.glt (fun e => h.ne_mg e.symm)).trans hG, r⟩, fun i hi => ?_, h.apart, hm, h.lw⟩
  obtain ⟨xs, ho, hr⟩ := h.row i hi
  refine ⟨xs, ho.kept (row := some m) ⟨hc.os, hc.tape, hc.output, hc.size, fun k hk hn => hc.block k hk (fun e => hn (by rw [e]))⟩ (.inr (h.row_m hi)), hr.chg_of hc hNB⟩
def posB (xs : List Int) : Bool := xs.all fun x => decide (0 ≤ x)
theorem posB_true {xs : List Int} (h : ∀ x ∈ xs, 0 ≤ x) : posB xs = true := by
  unfold posB
  rw [List.all_eq_true]
  intro x hx
  exact decide_eq_true (h x hx)
theorem posB_false {xs : List Int} {k : Nat} (hk : k < xs.length) (h : xs[k] < 0) : posB xs = false := by
  unfold posB
  rw [List.all_eq_false]
  exact ⟨_, List.getElem_mem hk, by simp; omega⟩
/-- What New leaves, if the geometry is valid. -/
def NewPost (w : World) (nb np sz : Nat) (en : Int) (xs : List Int) (e : Ending) (w' : World) : Prop :=
  (posB xs = false ∧ e = .returned (.tuple #[.pointer none, .int .i64 2]) ∧ Below w.heap.size w w') ∨
  (posB xs = true ∧ ∃ b g m, e = .returned (.tuple #[.pointer (some ⟨b, 0, none⟩), .int .i64 0]) ∧ Dv w' w.heap.size b g m (fun _ => .slice none 0 0) (Dev.new nb np sz en xs.reverse) ∧ Below w.heap.size w w')
theorem New_ok (nb np sz : Nat) (en : Int) (v : Value) (xs : List Int) (w : World) (hv : valB nb np sz en = true) (hx : Ints w v xs) (hR : ∀ x ∈ xs, I64 x) (hl : xs.length ≤ 1000) : Calls Try.prog 11 #[.agg #[.int .i64 (nb : Int), .int .i64 (np : Int), .int .i64 (sz : Int), .int .i64 en], v] w (NewPost w nb np sz en xs) := by
  have hmm := @run_makeMap Try.prog
  have hnb : nb ≤ 4096 := by obtain ⟨a, b, c, e1, e2, e3, _⟩ := valB_nat hv; omega
  have hmk := make_blocks nb hnb
  have HX := Lib.hid hx
  have HR := Lib.hid hR
  obtain ⟨A, c, rfl, hr⟩ := hx
  have HRR := Lib.hid hr
  clear hR hr
  go_enter Try.func11, Try.ntmps11
  go_upto_region 3 with ((go_at_call 33; with_reducible refine (valid_any _ _ _ _ _).mono ?_); rintro e w1 ⟨rfl, hb⟩; obtain ⟨⟨k0, k1, k2, k3⟩, hwl, hbb⟩ := geo_cells hb; have HB := Lib.hid hbb; clear hb hbb)
  go_cut [6] (fun v wx => NewMid w nb np sz en v wx)
  case first =>
    go_region
    all_goals
      go_wp2
      go_meet
      have hsz := HB.out.size
    · obtain ⟨q1, q2, q3, q4⟩ := three_new w1 (.cells (zb nb) 94) (.map #[] 0) (.cells (devCells (Dev.new nb np sz en []) w1.heap.size (w1.heap.size + 1)) 64)
      have hS : Seen (((w1.alloc (.cells (zb nb) 94)).alloc (.map #[] 0)).alloc (.cells (devCells (Dev.new nb np sz en []) w1.heap.size (w1.heap.size + 1)) 64)) (w1.heap.size + 1) [] := by
        have := Seen.made (w1.alloc (.cells (zb nb) 94))
        rw [World.size_alloc] at this
        exact this.kept (q2.trans (by have := heap_alloc_new (w1.alloc (.cells (zb nb) 94)) (.map #[] 0); rw [World.size_alloc] at this; exact this.symm))
      exact new_mid (HB.out.trans (q4.mono hsz)).drew q3 q1 hS (by omega) (by omega) (by omega)
    · obtain ⟨q1, q2, q3, q4⟩ := three_new w1 (.map #[] 0) (.cells (zb nb) 94) (.cells (devCells (Dev.new nb np sz en []) (w1.heap.size + 1) w1.heap.size) 64)
      have hS : Seen (((w1.alloc (.map #[] 0)).alloc (.cells (zb nb) 94)).alloc (.cells (devCells (Dev.new nb np sz en []) (w1.heap.size + 1) w1.heap.size) 64)) w1.heap.size [] :=
        (Seen.made w1).kept (q1.trans (heap_alloc_new w1 (.map #[] 0)).symm)
      exact new_mid (HB.out.trans (q4.mono hsz)).drew q3 q2 hS (by omega) (by omega) (by omega)
  case rest =>
    obtain ⟨b, g, m, rfl, hD, hBe⟩ := hcut
    have HD := Lib.hid hD
    have HBE := Lib.hid hBe
    clear hD hBe HB k0 k1 k2 k3 hmm hmk
    go_wp2
    go_loopw [22] (fun i wr => ∃ k : Nat, k ≤ xs.length ∧ i = .int .i64 k ∧ Hid (Dv wr w.heap.size b g m (fun _ => .slice none 0 0) (Dev.new nb np sz en (xs.take k).reverse)) ∧ Hid (Below w.heap.size w wr) ∧ Hid (∀ x ∈ xs.take k, 0 ≤ x)) (fun i _ => xs.length - (RowKit.intOf i).toNat)
    case atStart => exact ⟨0, Nat.zero_le _, rfl, HD, HBE, Lib.hid (by simp)⟩
    case round =>
      obtain ⟨k, hk, rfl, HD2, HB2, HP⟩ := hrel
      by_cases hlt : k < xs.length
      · obtain ⟨gx, o, rfl, hg, hcell⟩ := HRR.out (by omega)
        have c1 : wr.cell? ⟨gx, o + k, none⟩ = some (.int .i64 xs[k]) := (HB2.out.cell (by exact hg)).trans (hcell k hlt)
        have hq := HR.out _ (List.getElem_mem hlt)
        have HT := Lib.hid (show (xs.take (k + 1)).reverse = xs[k] :: (xs.take k).reverse by rw [List.take_succ_eq_append_getElem hlt, List.reverse_append]; rfl)
        have HT2 := Lib.hid (show xs.take (k + 1) = xs.take k ++ [xs[k]] from List.take_succ_eq_append_getElem hlt)
        have HPF := Lib.hid (fun h => posB_false hlt h)
        have c5 := HD2.out.c5
        obtain ⟨w2, hrun, hs2, hg2⟩ := HD2.out.flt.put hq (by simp [Dev.new]; unfold maxLen; omega)
        have HS2 := Lib.hid hs2
        have HG2 := Lib.hid hg2
        have HQ := Lib.hid hq
        generalize xs[k] = q at *
        clear hcell hs2 hg2 hq
        by_cases h0 : 0 ≤ q
        · go_wp2
          go_roundw
          case rel =>
            have hc : Chg (· = m) wr w2 := (Chg.of_grown HG2.out).mono fun i hi => by cases hi; rfl
            refine ⟨k + 1, by omega, by go_num, Lib.hid ?_, Lib.hid (HB2.out.trans (hc.below HB2.out.size (fun i hi => by rw [hi]; exact HD2.out.hm))), Lib.hid ?_⟩
            · rw [HT.out]
              exact HD2.out.remap hc HS2.out
            · rw [HT2.out]
              intro x hx
              rw [List.mem_append] at hx
              rcases hx with hx | hx
              · exact HP.out x hx
              · simp at hx; omega
          case measure => simp [RowKit.intOf]; omega
        · have hneg : q < 0 := by omega
          go_wp2
          go_ret2
          exact .inl ⟨HPF.out hneg, rfl, HB2.out⟩
      · have hkl : k = xs.length := by omega
        subst hkl
        have hd := HD2.out
        have hp := HP.out
        rw [List.take_length] at hd hp
        have HD3 := Lib.hid hd
        have HP3 := Lib.hid (posB_true hp)
        clear hd hp
        go_wp2
        go_ret2
        exact .inr ⟨HP3.out, b, g, m, rfl, HD3.out, HB2.out⟩
end Go.Proofs.Ytddejcoagcaidaa
