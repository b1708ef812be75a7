/- The closures of byIndex; the sort of places by their indices. Conditions stand in each theorem. -/
import Derived.Test.YtajlddgemkkcdaaQC
import Derived.Test.YtajlddgemkkcdaaX
namespace Go.Proofs.Ytajlddgemkkcdaa
open Go.Shelf Go.RowKit Go.Lib Go.Sort
set_option linter.unusedVariables false
set_option maxHeartbeats 4000000
set_option maxRecDepth 100000
/-- What byIndex's closures read: the box of the list, the closure that they call, the pages. -/
structure By (W : World) (b : Nat) (A : Option Addr) (c : Nat) (l : List Pg) : Prop where
  bx : W.heap[b]? = some (.cells #[.slice A l.length c] 35 (0, 0))
  fn : W.heap[b + 1]? = some (.cells #[.func (.func 65) #[] #[.pointer (some ⟨b, 0, none⟩)]] 31 (0, 0))
  pg : Pgs W (.slice A l.length c) l
theorem By.below {W W' : World} {b c : Nat} {A : Option Addr} {l : List Pg} (h : By W b A c l) (hb : Below W.heap.size W W') : By W' b A c l :=
  ⟨(hb.block b (Array.getElem?_eq_some_iff.1 h.bx).1).trans h.bx, (hb.block (b + 1) (Array.getElem?_eq_some_iff.1 h.fn).1).trans h.fn, h.pg.below hb⟩
theorem ixF_at {l : List Pg} {p : Nat} (h : p < l.length) : ixF l p = l[p].s.i := by
  unfold ixF
  rw [List.getElem?_eq_getElem h]
theorem byidx_any {W : World} {b c : Nat} {A : Option Addr} {l : List Pg} (h : By W b A c l) (p : Nat) (hp : p < l.length) : Calls Try.prog 65 #[.int .i64 (p : Int), .pointer (some ⟨b, 0, none⟩)] W (Ret W (.int .i64 (ixF l p))) := by
  have c0 := cell_of_row W b 0 _ _ _ h.bx
  obtain ⟨A', c', he, hc, hr⟩ := h.pg
  cases he
  obtain ⟨g, o, rfl, hg, hcell⟩ := hr (by omega)
  have x4 := (hcell p hp).c4
  rw [← ixF_at hp] at x4
  generalize ixF l p = X at *
  have p0 : (0 : Int) ≤ (p : Int) := by omega
  have p1 : (p : Int) < (l.length : Int) := by omega
  clear h hr hcell
  go_enter Try.func65, Try.ntmps65
  go_wp2
  go_ret
  exact ⟨rfl, Gr.refl _⟩
theorem bycmp_any {W : World} {b c : Nat} {A : Option Addr} {l : List Pg} (h : By W b A c l) (p q : Nat) (hp : p < l.length) (hq : q < l.length) : Calls Try.prog 68 #[.int .i64 (p : Int), .int .i64 (q : Int), .pointer (some ⟨b + 1, 0, none⟩)] W (Ret W (.int .i64 (cmpI (ixF l p) (ixF l q)))) := by
  have HP := Lib.hid (fun r : Gw W => byidx_any (h.below r.h.below) p hp)
  have HQ := Lib.hid (fun r : Gw W => byidx_any (h.below r.h.below) q hq)
  have k1 := fun r : Gw W => cell_of_row r.W (b + 1) 0 _ _ _ (h.below r.h.below).fn
  have hne := gw_ne W
  generalize ixF l p = X at *
  generalize ixF l q = Y at *
  clear h
  go_enter Try.func68, Try.ntmps68
  go_upto_region 1 with fail
  refine wp_region_gw (by kernel_rfl) (by kernel_rfl) ?_
  repeat (go_big_quiet_step (first | (go_at_call 65; first | exact gw_of _ (HP.out _) | exact gw_of _ (HQ.out _)) | (go_at_call 55; exact gw_of _ (cmpi_any X Y _))))
  refine wpQuiet_nil ?_
  rintro w6 ⟨⟨_, hg6⟩, rfl⟩
  clear k1 hne
  go_wp2
  go_ret
  exact ⟨rfl, hg6⟩
theorem byeq_any {W : World} {b c : Nat} {A : Option Addr} {l : List Pg} (h : By W b A c l) (p q : Nat) (hp : p < l.length) (hq : q < l.length) : Calls Try.prog 70 #[.int .i64 (p : Int), .int .i64 (q : Int), .pointer (some ⟨b + 1, 0, none⟩)] W (Ret W (.bool (ixF l p == ixF l q))) := by
  have HP := Lib.hid (fun r : Gw W => byidx_any (h.below r.h.below) p hp)
  have HQ := Lib.hid (fun r : Gw W => byidx_any (h.below r.h.below) q hq)
  have k1 := fun r : Gw W => cell_of_row r.W (b + 1) 0 _ _ _ (h.below r.h.below).fn
  have hne := gw_ne W
  generalize ixF l p = X at *
  generalize ixF l q = Y at *
  clear h
  go_enter Try.func70, Try.ntmps70
  go_upto_region 1 with fail
  refine wp_region_gw (by kernel_rfl) (by kernel_rfl) ?_
  repeat (go_big_quiet_step ((go_at_call 65; first | exact gw_of _ (HP.out _) | exact gw_of _ (HQ.out _))))
  refine wpQuiet_nil ?_
  rintro w6 ⟨⟨_, hg6⟩, rfl⟩
  clear k1 hne
  go_wp2
  go_ret
  exact ⟨rfl, hg6⟩
theorem cmpI_lt (a b : Int) : cmpI a b < 0 ↔ a < b := by unfold cmpI; split <;> (try split) <;> omega
/-- The places of a list of pages; their order by index and place. -/
abbrev Pl (l : List Pg) := {p : Nat // p < l.length}
def encP (l : List Pg) (p : Pl l) : Value := .int .i64 (p.1 : Int)
def cfP (l : List Pg) (x y : Pl l) : Int := cmpI (ixF l x.1) (ixF l y.1)
def ByQ (l : List Pg) (x y : Nat) : Prop := ixF l x < ixF l y ∨ ixF l x = ixF l y ∧ x < y
theorem ByQ.trans {l : List Pg} {x y z : Nat} (h1 : ByQ l x y) (h2 : ByQ l y z) : ByQ l x z := by unfold ByQ at *; omega
section
variable {α : Type} [Inhabited α] (enc : α → Value)
/-- A world of the sort's keeps the other blocks. -/
theorem sw_block {w : World} {g : Nat} (m : Nat) (os : Array Obj) (dk : Array α) {k : Nat} (hk : k < w.heap.size) (hne : k ≠ g) : (sortWorld enc w g 0 m dk os).heap[k]? = w.heap[k]? := by
  unfold sortWorld
  simp only [grow, putRow, mapBlock]
  rw [Array.getElem?_append_left (by simpa [Sort.ahead] using hk), Array.getElem?_modify, if_neg (fun e => hne e.symm)]
  rfl
theorem sw_size {w : World} {g : Nat} (m : Nat) (os : Array Obj) (dk : Array α) : w.heap.size ≤ (sortWorld enc w g 0 m dk os).heap.size := by
  unfold sortWorld
  simp [grow, putRow, mapBlock, Sort.ahead]
theorem sw_chg {w W : World} {g : Nat} {dk : Array α} (h : SW enc w g 0 dk W) : Chg (· = g) w W := by
  obtain ⟨m, os, rfl⟩ := h
  exact ⟨rfl, rfl, rfl, sw_size enc m os dk, fun k hk hne => sw_block enc m os dk hk hne⟩
end
/-- What the closures read lies elsewhere than the places. -/
structure Far (b c g : Nat) (A : Option Addr) (n : Nat) : Prop where
  b0 : b ≠ g
  b1 : b + 1 ≠ g
  a : ∀ k, (Value.slice A n c).ownBlock = some k → n ≠ 0 → k ≠ g
theorem By.chg {w W : World} {b c g : Nat} {A : Option Addr} {l : List Pg} (h : By w b A c l) (hf : Far b c g A l.length) (hc : Chg (· = g) w W) : By W b A c l := by
  refine ⟨(hc.block b (Array.getElem?_eq_some_iff.1 h.bx).1 hf.b0).trans h.bx, (hc.block (b + 1) (Array.getElem?_eq_some_iff.1 h.fn).1 hf.b1).trans h.fn, ?_⟩
  obtain ⟨A', c', he, hcc, hr⟩ := h.pg
  cases he
  refine ⟨A, c, rfl, hcc, fun hn => ?_⟩
  obtain ⟨g1, o, rfl, hg1, hcell⟩ := hr hn
  have hlt := hf.a g1 rfl hn
  exact ⟨g1, o, rfl, Nat.lt_of_lt_of_le hg1 hc.size, fun j hj => (hcell j hj).keep fun i => World.cell?_of_block (hc.block g1 hg1 hlt)⟩
/-- Block g holds places from its begin on. -/
def IC (W : World) (g : Nat) (xs : List Nat) : Prop := (∃ cur, W.heap[g]? = some (.cells cur 3 (0, 0))) ∧ ∀ j (h : j < xs.length), W.cell? ⟨g, j, none⟩ = some (.int .i64 (xs[j] : Int)) ∧ W.frozen? ⟨g, j, none⟩ = false
theorem IC.below {W W' : World} {g : Nat} {xs : List Nat} (h : IC W g xs) (hb : Below W.heap.size W W') : IC W' g xs := by
  obtain ⟨⟨cur, hc⟩, h⟩ := h
  refine ⟨⟨cur, (hb.block g (Array.getElem?_eq_some_iff.1 hc).1).trans hc⟩, fun j hj => ?_⟩
  have hl := World.block_lt_of_cell? W _ (h j hj).1
  exact ⟨(hb.cell (p := ⟨g, j, none⟩) hl).trans (h j hj).1, (hb.frozen (p := ⟨g, j, none⟩) hl).trans (h j hj).2⟩
theorem IC.pls {W : World} {g c : Nat} {xs : List Nat} (h : IC W g xs) (hc : xs.length ≤ c) : Pls W (.slice (some ⟨g, 0, none⟩) xs.length c) xs := by
  obtain ⟨⟨cur, hg⟩, h⟩ := h
  refine ⟨_, c, rfl, hc, fun _ => ⟨g, cur, rfl, hg, fun j hj => ?_⟩⟩
  have := (h j hj).1
  rwa [cell_of_row W g j cur 3 (0, 0) hg] at this
theorem IC.of_own {W : World} {base g c n : Nat} {xs : List Nat} (h : W.ownsRow base 3 1 (.slice (some ⟨g, 0, none⟩) n c) xs.length (iv xs)) : IC W g xs := by
  rcases h.2 with ⟨e, h0⟩ | ⟨g', cap, cur, e, hb, hg, h1, h2, h3, h4⟩
  · cases e
  · injection e with e1 _ e3
    injection e1 with e1
    injection e1 with e1 _ _
    subst e1
    refine ⟨⟨cur, hg⟩, fun j hj => ⟨?_, frozen_of_row W g j _ 3 hg⟩⟩
    rw [cell_of_row W g j cur 3 (0, 0) hg, ← iv_get hj, ← h4, List.getElem?_take, if_pos (by omega)]
    simp
theorem sw_row {α : Type} [Inhabited α] (enc : α → Value) {w W : World} {g : Nat} {dk : Array α} (h : SW enc w g 0 dk W) {cur : Array Value} (hc : w.heap[g]? = some (.cells cur 3 (0, 0))) : ∃ cur', W.heap[g]? = some (.cells cur' 3 (0, 0)) := by
  obtain ⟨m, os, rfl⟩ := h
  have hg := (Array.getElem?_eq_some_iff.1 hc).1
  refine ⟨putCells enc 0 dk cur, ?_⟩
  unfold sortWorld
  simp only [grow, putRow, mapBlock]
  rw [Array.getElem?_append_left (by simpa [Sort.ahead] using hg), Array.getElem?_modify, if_pos rfl]
  show Option.map _ w.heap[g]? = _
  rw [hc]
  rfl
def SoBy (w : World) (g : Nat) (l : List Pg) (P : List Nat) (e : Ending) (w' : World) : Prop := e = .returned (.tuple #[]) ∧ ∃ ms : List Nat, ms.Perm P ∧ ms.Pairwise (ByQ l) ∧ IC w' g ms ∧ Chg (· = g) w w'
theorem sortP_any {w : World} {b c g cap : Nat} {A : Option Addr} {l : List Pg} {P : List Nat} (hby : By w b A c l) (hf : Far b c g A l.length) (hI : IC w g P) (hP : ∀ p ∈ P, p < l.length) (hinc : P.Pairwise (· < ·)) (hlen : P.length < 40) (h0 : 0 < P.length) :
    Calls Try.prog 67 #[.slice (some ⟨g, 0, none⟩) P.length cap, .func (.func 68) #[] #[.pointer (some ⟨b + 1, 0, none⟩)]] w (SoBy w g l P) := by
  have hl0 : 0 < l.length := by have := hP _ (List.getElem_mem h0); omega
  haveI : Inhabited (Pl l) := ⟨⟨0, hl0⟩⟩
  obtain ⟨d, hd⟩ : ∃ d : Array (Pl l), d.toList.map (·.1) = P := ⟨(P.attachWith (fun p => p < l.length) hP).toArray, by simp⟩
  have hsz : d.size = P.length := by rw [← hd]; simp
  have el : ∀ i (h : i < d.size), d[i]!.1 = P[i]'(by omega) := fun i h => by
    rw [getElem!_pos d i h]; subst hd; simp
  have hgl : g < w.heap.size := World.block_lt_of_cell? w _ (hI.2 0 h0).1
  have R : Row1 (encP l) w g 0 d := ⟨fun x => rfl, fun j hj => by
    have := hI.2 j (by omega)
    rw [Nat.zero_add]
    unfold encP
    rw [el j hj]
    exact this, hgl⟩
  have ht : Tie (fun x y : Pl l => ByQ l x.1 y.1) (ltOf (cfP l)) d 0 d.size := fun i j _ hij hj => by
    have hlt : d[i]!.1 < d[j]!.1 := by
      rw [el i (by omega), el j hj]
      exact List.pairwise_iff_getElem.1 hinc i j (by omega) (by omega) hij
    generalize d[i]! = x at *
    generalize d[j]! = y at *
    refine ⟨fun h => ?_, fun h => ?_⟩
    · have h2 : cfP l y x < 0 := of_decide_eq_true h
      exact .inl ((cmpI_lt _ _).1 h2)
    · have h2 : ¬ cfP l y x < 0 := of_decide_eq_false h
      have h3 : ¬ ixF l y.1 < ixF l x.1 := fun h4 => h2 ((cmpI_lt _ _).2 h4)
      show ByQ l x.1 y.1
      unfold ByQ
      omega
  have hcmp : CmpLays1 Try.prog 68 #[.pointer (some ⟨b + 1, 0, none⟩)] (encP l) (cfP l) g 0 d.size w := fun m os dk hdk x y => by
    have hc : Chg (· = g) w (sortWorld (encP l) w g 0 m dk os) := sw_chg (encP l) ⟨m, os, rfl⟩
    refine (show Calls Try.prog 68 #[.int .i64 (x.1 : Int), .int .i64 (y.1 : Int), .pointer (some ⟨b + 1, 0, none⟩)] _ _ from bycmp_any (hby.chg hf hc) x.1 y.1 x.2 y.2).mono ?_
    rintro e w' ⟨rfl, q, os', rfl⟩
    exact ⟨rfl, q, os', rfl⟩
  have h := sortStable_any (encP l) (cfP l) 68 #[.pointer (some ⟨b + 1, 0, none⟩)] g 0 cap d w (fun x y : Pl l => ByQ l x.1 y.1) (fun x y z h1 h2 => h1.trans h2) (enters_of Try.func68 (by kernel_rfl) rfl) hcmp R (by omega) ht
  rw [hsz] at h
  refine h.mono ?_
  rintro e w' ⟨rfl, d', hp', ho', hS⟩
  rw [hsz] at hp' ho'
  have hs' : d'.size = d.size := hp'.1
  refine ⟨rfl, d'.toList.map (·.1), ?_, ?_, ⟨hI.1.elim fun cur hc => sw_row (encP l) hS hc, fun j hj => ?_⟩, sw_chg (encP l) hS⟩
  · have h1 := hp'.2.2
    have e1 : d'.extract 0 P.length = d' := by rw [← hsz, ← hs']; simp
    have e2 : d.extract 0 P.length = d := by rw [← hsz]; simp
    rw [e1, e2] at h1
    rw [← hd]
    exact h1.map _
  · rw [List.pairwise_iff_getElem]
    intro i j hi hj hij
    have hj' : j < d'.size := by simpa using hj
    have := ho' i j (Nat.zero_le _) hij (by omega)
    rw [getElem!_pos d' i (by omega), getElem!_pos d' j hj'] at this
    simpa using this
  · have hj' : j < d'.size := by simpa using hj
    have x1 := hS.c1 R hs' j hj'
    have x2 := hS.f1 R hs' j hj'
    rw [Nat.zero_add] at x1 x2
    refine ⟨?_, x2⟩
    rw [x1, getElem!_pos d' j hj']
    unfold encP
    simp
end Go.Proofs.Ytajlddgemkkcdaa
