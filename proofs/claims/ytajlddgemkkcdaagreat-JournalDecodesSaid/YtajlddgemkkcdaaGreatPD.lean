/- The contracts of require, read and readEntry. Conditions stand in each theorem. -/
import Derived.Test.YtajlddgemkkcdaaGreatPC
import Derived.Test.YtajlddgemkkcdaaGreatPM
namespace Go.Proofs.YtajlddgemkkcdaaGreat
open Go.RowKit
set_option linter.unusedVariables false
set_option maxHeartbeats 2000000
set_option maxRecDepth 100000
/-- The error ErrFormat is raised. -/
def Raised (e : Ending) : Prop := e = .panicked [{ v := .iface 25 (.int .i64 6), recovered := false }]
theorem require_yes (w : World) : Calls Tryz.prog 20 #[.bool true] w fun e w' => e = .returned (.tuple #[]) ∧ w = w' := by
  go_enter Tryz.func20, Tryz.ntmps20
  go_wp2
  go_end0
  exact ⟨rfl, rfl⟩
theorem require_no (w : World) : Calls Tryz.prog 20 #[.bool false] w fun e w' => Raised e ∧ w = w' := by
  go_enter Tryz.func20, Tryz.ntmps20
  go_wp2
  exact ⟨rfl, rfl, rfl⟩
theorem Ints.slice {k : IntKind} {w : World} {v : Value} {l : List Int} (h : Ints k w v l) : ∃ A c, v = .slice A l.length c := by
  obtain ⟨A, c, rfl, _⟩ := h
  exact ⟨A, c, rfl⟩
theorem read_ok (g : Nat) (vd sv : Value) (l : List UInt8) (a : Nat) (ns : List Int) (w : World) (hr : Rd w g vd l a) (hs : Ints .i64 w sv ns) (hsb : ∀ b, sv.ownBlock = some b → b < w.heap.size) (hok : okAll l a ns) (hlen : ns.length ≤ 1048576) (hend : endp a ns ≤ l.length) :
    Calls Tryz.prog 18 #[.pointer (some ⟨g, 0, none⟩), sv] w fun e w' => (∃ A c, e = .returned (.slice A (vals l a ns).length c) ∧ Ints .u64 w' (.slice A (vals l a ns).length c) (vals l a ns)) ∧ Rd w' g vd l (endp a ns) ∧ Chg (· = g) w w' := by
  have HA := Lib.hid (All_ok g vd sv l a ns w hr hs hsb hok hlen hend)
  obtain ⟨A, c, rfl⟩ := hs.slice
  clear hr hs hsb hok hlen hend
  generalize vals l a ns = vs at *
  go_enter Tryz.func18, Tryz.ntmps18
  go_wp2_with (first
    | ((go_at_call 42; with_reducible refine HA.out.mono ?_); rintro e w1 ⟨⟨v, rfl, hi⟩, hrd, hch⟩; (obtain ⟨B, d, rfl⟩ := hi.slice); have HI := Lib.hid hi; have HRD := Lib.hid hrd; have HCH := Lib.hid hch; clear hi hrd hch)
    | ((go_at_call 20; with_reducible refine (require_yes _).mono ?_); rintro e w2 ⟨rfl, rfl⟩))
  go_ret
  exact ⟨⟨_, _, rfl, HI.out⟩, HRD.out, HCH.out⟩
theorem read_no (g : Nat) (vd sv : Value) (l : List UInt8) (a : Nat) (ns : List Int) (w : World) (hr : Rd w g vd l a) (hs : Ints .i64 w sv ns) (hne : rdAllE l a ns ≠ 0) (hlen : ns.length ≤ 1048576) :
    Calls Tryz.prog 18 #[.pointer (some ⟨g, 0, none⟩), sv] w fun e w' => Raised e ∧ Chg (· = g) w w' := by
  have HA := Lib.hid (All_err g vd sv l a ns w hr hs hne hlen)
  obtain ⟨A, c, rfl⟩ := hs.slice
  clear hr hs hlen
  generalize rdAllE l a ns = E at *
  have hb : (E == 0) = false := by simpa using hne
  clear hne
  go_enter Tryz.func18, Tryz.ntmps18
  go_wp2_with (first
    | ((go_at_call 42; with_reducible refine HA.out.mono ?_); rintro e w1 ⟨rfl, hrd, hch⟩; have HCH := Lib.hid hch; clear hrd hch)
    | ((go_at_call 20; with_reducible refine (require_no _).mono ?_); rintro e w2 ⟨hR, rfl⟩; unfold Raised at hR; subst hR))
  exact ⟨rfl, rfl, HCH.out⟩
/-- The sizes of an entry's numbers. -/
theorem okAll_two {l : List UInt8} {a : Nat} (h : a + 8 ≤ l.length) : okAll l a [4, 4] := ⟨by omega, by omega, by show a + 4 ≤ _; omega, by omega, by omega, by show a + 4 + 4 ≤ _; omega, trivial⟩
theorem vals_two (l : List UInt8) (a : Nat) : vals l a [4, 4] = [(g4 l a : Int), (g4 l (a + 4) : Int)] := rfl
theorem rd_two {l : List UInt8} {a : Nat} (h : l.length < a + 8) : rdAllE l a [4, 4] ≠ 0 := by
  intro e
  have := okAll_of _ _ e
  have h2 : a + 4 + 4 ≤ l.length := this.2.2.2.2.2.1
  omega
theorem ints_box (w : World) (t : TypeId) : Ints .i64 (w.alloc (.cells #[.int .i64 4, .int .i64 4] t)) (.slice (some ⟨w.heap.size, 0, none⟩) 2 2) [4, 4] := by
  refine ⟨_, 2, rfl, Nat.le_refl _, fun _ => ⟨w.heap.size, 0, rfl, by simp, fun j hj => ?_⟩⟩
  rw [Nat.zero_add, cell_of_row _ w.heap.size j _ t (0, 0) (heap_alloc_new w _)]
  match j, hj with
  | 0, _ => rfl
  | 1, _ => rfl
theorem read_two (g : Nat) (vd : Value) (l : List UInt8) (a : Nat) (w W : World) (n : Nat) (hn : n = W.heap.size) (h : Rd w g vd l a) (hb : Below w.heap.size w W) (hf : a + 8 ≤ l.length) :
    Calls Tryz.prog 18 #[.pointer (some ⟨g, 0, none⟩), .slice (some ⟨n, 0, none⟩) 2 2] (W.alloc (.cells #[.int .i64 4, .int .i64 4] 3)) fun e w' =>
      (∃ b o c, e = .returned (.slice (some ⟨b, o, none⟩) 2 c) ∧ 2 ≤ c ∧ w'.cell? ⟨b, o, none⟩ = some (.int .u64 (g4 l a : Int)) ∧ w'.cell? ⟨b, o + 1, none⟩ = some (.int .u64 (g4 l (a + 4) : Int))) ∧ Rd w' g vd l (a + 8) ∧ Chg (· = g) (W.alloc (.cells #[.int .i64 4, .int .i64 4] 3)) w' := by
  subst hn
  refine (read_ok g vd _ l a [4, 4] _ ((h.below hb).below (alloc_below W _)) (ints_box W 3) (fun b hb => by cases hb; simp) (okAll_two hf) (by simp) (by show a + 4 + 4 ≤ _; omega)).mono ?_
  rintro e w' ⟨⟨A, c, rfl, hi⟩, hrd, hch⟩
  rw [vals_two] at hi ⊢
  obtain ⟨A', c', he, hc, hr⟩ := hi
  cases he
  obtain ⟨b, o, rfl, -, hcell⟩ := hr (by simp)
  exact ⟨⟨b, o, c, rfl, hc, hcell 0 (by simp), hcell 1 (by simp)⟩, hrd, hch⟩
theorem read_two_no (g : Nat) (vd : Value) (l : List UInt8) (a : Nat) (w W : World) (n : Nat) (hn : n = W.heap.size) (h : Rd w g vd l a) (hb : Below w.heap.size w W) (hf : l.length < a + 8) :
    Calls Tryz.prog 18 #[.pointer (some ⟨g, 0, none⟩), .slice (some ⟨n, 0, none⟩) 2 2] (W.alloc (.cells #[.int .i64 4, .int .i64 4] 3)) fun e w' => Raised e ∧ Chg (· = g) (W.alloc (.cells #[.int .i64 4, .int .i64 4] 3)) w' := by
  subst hn
  exact read_no g vd _ l a [4, 4] _ ((h.below hb).below (alloc_below W _)) (ints_box W 3) (rd_two hf) (by simp)
theorem ent_box {w w1 : World} {g : Nat} (hgl : g < w.heap.size) (hch : Chg (· = g) ((w.alloc (.cells #[.int .i64 0, .int .i64 0] 37)).alloc (.cells #[.int .i64 4, .int .i64 4] 3)) w1) : w1.heap[w.heap.size]? = some (.cells #[.int .i64 0, .int .i64 0] 37 (0, 0)) ∧ Chg (· = g) w w1 := by
  have hb := ((Below.refl w.heap.size w).alloc (Nat.le_refl _) (.cells #[.int .i64 0, .int .i64 0] 37)).alloc (by simp) (.cells #[.int .i64 4, .int .i64 4] 3)
  refine ⟨?_, (Chg.of_below hb : Chg (· = g) _ _).trans hch (fun i hi _ => hi)⟩
  rw [hch.block w.heap.size (by simp; omega) (by omega), Below.heap_alloc _ _ _ (by simp)]
  exact heap_alloc_new w _
theorem Rd.box {w : World} {g n j : Nat} {vd u : Value} {l : List UInt8} {a : Nat} (h : Rd w g vd l a) (hg : g ≠ n) (hv : ∀ b, vd.ownBlock = some b → b ≠ n) : Rd (w.setCell ⟨n, j, none⟩ u) g vd l a := by
  have e : ∀ k, k ≠ n → (w.setCell ⟨n, j, none⟩ u).heap[k]? = w.heap[k]? := fun k hk => Below.heap_setCell w ⟨n, j, none⟩ u k hk
  have hs : (w.setCell ⟨n, j, none⟩ u).heap.size = w.heap.size := by simp [World.setCell]
  refine ⟨h.blk.imp fun t ht => (e _ hg).trans ht, ?_, h.le, h.small, h.ne, fun b hb => by rw [hs]; exact h.lo b hb⟩
  obtain ⟨A, c', hv', hc, hr⟩ := h.byt
  refine ⟨A, c', hv', hc, fun h0 => ?_⟩
  obtain ⟨b, o, rfl, hb, hcell⟩ := hr h0
  have hbn := hv b (by rw [hv']; rfl)
  exact ⟨b, o, rfl, by rw [hs]; exact hb, fun j' hj' => (World.cell?_of_block (a := ⟨b, o + j', none⟩) (e b hbn)).trans (hcell j' hj')⟩
theorem box_row (w : World) (g j : Nat) (c : Array Value) (t : TypeId) (v : Value) (h : w.heap[g]? = some (.cells c t (0, 0))) : (w.setCell ⟨g, j, none⟩ v).heap[g]? = some (.cells (c.setIfInBounds j v) t (0, 0)) := by
  simp [World.setCell, Array.getElem?_modify, h]
/-- What is stored into a box that is younger than the world w. -/
theorem chg_box {w w3 : World} {g n j : Nat} {u : Value} (h : Chg (· = g) w w3) (hn : w.heap.size ≤ n) : Chg (· = g) w (w3.setCell ⟨n, j, none⟩ u) := by
  refine ⟨h.os, h.tape, h.output, by simpa [World.setCell] using h.size, fun k hk hne => ?_⟩
  rw [Below.heap_setCell w3 ⟨n, j, none⟩ u k (by show k ≠ n; omega)]
  exact h.block k hk hne
theorem entry_any (g : Nat) (vd : Value) (l : List UInt8) (a : Nat) (w : World) (h : Rd w g vd l a) (hf : a + 8 ≤ l.length) (vb : Bool) (hv : vldB (entAt l a) = vb) :
    Calls Tryz.prog 19 #[.pointer (some ⟨g, 0, none⟩)] w fun e w' => (if vb = true then e = .returned (.agg #[.int .i64 (entAt l a).1, .int .i64 (entAt l a).2]) ∧ Rd w' g vd l (a + 8) else Raised e) ∧ Chg (· = g) w w' := by
  have hgl := h.lt
  have HLO := Lib.hid h.lo
  have HRD := Lib.hid (read_two g vd l a w (w.alloc (.cells #[.int .i64 0, .int .i64 0] 37)) (w.heap.size + 1) (by simp) h (alloc_below w _) hf)
  have HIV := Lib.hid (fun W => isValid_any (entAt l a) W)
  rw [hv] at HIV
  have x1 := g4_lt l a
  have x2 := g4_lt l (a + 4)
  unfold entAt at HIV ⊢
  clear h hv hf
  generalize g4 l a = X at *
  generalize g4 l (a + 4) = Y at *
  have x3 : (X : Int) ≤ 4294967295 := by omega
  have x4 : (Y : Int) ≤ 4294967295 := by omega
  have x5 : (0 : Int) ≤ X := by omega
  have x6 : (0 : Int) ≤ Y := by omega
  have hsub : (Y : Int) - 1 = Y + -1 := by omega
  rw [hsub] at HIV ⊢
  clear hsub
  cases vb
  all_goals
    go_enter Tryz.func19, Tryz.ntmps19
    go_upto_region 2 with ((go_at_call 18; with_reducible refine HRD.out.mono ?_); rintro e w1 ⟨⟨b, o, c, rfl, hc, hc0, hc1⟩, hrd, hch⟩; (obtain ⟨hbox, hcw⟩ := ent_box hgl hch); have HRD1 := Lib.hid hrd; have HCW := Lib.hid hcw; clear hrd hch hcw)
    have k0 := cell_of_row w1 w.heap.size 0 _ _ _ hbox
    have k1 := cell_of_row w1 w.heap.size 1 _ _ _ hbox
    have kf := fun j => frozen_of_row w1 w.heap.size j _ _ hbox
    have hbl := World.block_lt_of_cell? w1 _ hc0
    have e0 := ((alloc_below w1 (.cells #[.int .i64 0, .int .i64 0] 37)).cell (p := ⟨b, o, none⟩) hbl).trans hc0
    have e1 := ((alloc_below w1 (.cells #[.int .i64 0, .int .i64 0] 37)).cell (p := ⟨b, o + 1, none⟩) hbl).trans hc1
    have hbb := World.block_lt_of_cell? w1 _ k0
    have j0 := ((alloc_below w1 (.cells #[.int .i64 0, .int .i64 0] 37)).cell (p := ⟨w.heap.size, 0, none⟩) hbb).trans k0
    have j1 := ((alloc_below w1 (.cells #[.int .i64 0, .int .i64 0] 37)).cell (p := ⟨w.heap.size, 1, none⟩) hbb).trans k1
    have jf := fun j => ((alloc_below w1 (.cells #[.int .i64 0, .int .i64 0] 37)).frozen (p := ⟨w.heap.size, j, none⟩) hbb).trans (kf j)
    go_region
    have hW : Below w1.heap.size w1 (w1.alloc (.cells #[.int .i64 X, .int .i64 (Y + -1)] 37)).drew := below_drewN (alloc_below w1 _) 1
    have hb2 := hW.block w.heap.size hbb
    have HB2 := Lib.hid (hb2.trans hbox)
    have m0 := cell_of_row _ w.heap.size 0 _ _ _ (hb2.trans hbox)
    have m1 := cell_of_row _ w.heap.size 1 _ _ _ (hb2.trans hbox)
    have mf := fun j => frozen_of_row _ w.heap.size j _ _ (hb2.trans hbox)
    have n0 := cell_of_row (w1.alloc (.cells #[.int .i64 X, .int .i64 (Y + -1)] 37)).drew w1.heap.size 0 _ _ _ (heap_alloc_new w1 _)
    have n1 := cell_of_row (w1.alloc (.cells #[.int .i64 X, .int .i64 (Y + -1)] 37)).drew w1.heap.size 1 _ _ _ (heap_alloc_new w1 _)
    have HRD2 := Lib.hid (HRD1.out.below hW)
    have HCW2 := Lib.hid (HCW.out.trans (Chg.of_below hW : Chg (· = g) _ _) (fun i hi _ => hi))
    clear e0 e1 j0 j1 jf k0 k1 kf hb2 hW HRD1 HCW hbox
    generalize (w1.alloc (.cells #[.int .i64 X, .int .i64 (Y + -1)] 37)).drew = W2 at *
    have hl2 := World.block_lt_of_cell? W2 _ m0
    have hl3 := World.block_lt_of_cell? W2 _ n0
    go_wp2_with (first
      | ((go_at_call 43; with_reducible refine (HIV.out _).mono ?_); rintro e w3 ⟨rfl, hg⟩; (have hg2 := hg.below); have HB3 := Lib.hid ((hg2.block w.heap.size hl2).trans HB2.out); have p0 := (hg2.cell (p := ⟨w.heap.size, 0, none⟩) hl2).trans m0; have p1 := (hg2.cell (p := ⟨w.heap.size, 1, none⟩) hl2).trans m1; have pf := fun j => (hg2.frozen (p := ⟨w.heap.size, j, none⟩) hl2).trans (mf j); have q0 := (hg2.cell (p := ⟨w1.heap.size, 0, none⟩) hl3).trans n0; have q1 := (hg2.cell (p := ⟨w1.heap.size, 1, none⟩) hl3).trans n1; have HRD3 := Lib.hid (HRD2.out.below hg2); have HCW3 := Lib.hid (HCW2.out.trans (Chg.of_below hg2 : Chg (· = g) _ _) (fun i hi _ => hi)); clear hg hg2)
      | ((go_at_call 20; with_reducible refine (require_yes _).mono ?_); rintro e w4 ⟨rfl, rfl⟩)
      | ((go_at_call 20; with_reducible refine (require_no _).mono ?_); rintro e w4 ⟨hR, rfl⟩; unfold Raised at hR; subst hR))
    first
      | exact ⟨rfl, rfl, HCW3.out⟩
      | (refine bodyPost_ret (results_cell_row rfl _ _ w.heap.size 37 #[.int .i64 X, .int .i64 (Y + -1)] (0, 0) _ rfl (box_row _ _ 1 _ _ _ (box_row _ _ 0 _ _ _ HB3.out)) Tryz.underlying37 rfl (by kernel_rfl)) rfl ?_
         refine ⟨⟨rfl, ?_⟩, ?_⟩
         · exact ((HRD3.out.box (by omega) (fun b hb => by have := HLO.out b hb; omega)).box (by omega) (fun b hb => by have := HLO.out b hb; omega))
         · exact chg_box (chg_box HCW3.out (Nat.le_refl _)) (Nat.le_refl _))
end Go.Proofs.YtajlddgemkkcdaaGreat
