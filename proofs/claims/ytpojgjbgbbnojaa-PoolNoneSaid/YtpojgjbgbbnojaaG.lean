/- The contract of New. Conditions stand in each theorem. -/
import Derived.Test.YtpojgjbgbbnojaaD
namespace Go.Proofs.Ytpojgjbgbbnojaa
open Go.RowKit
set_option linter.unusedVariables false
set_option maxHeartbeats 1000000
set_option maxRecDepth 100000
/-- A slice value that reads as the numbers xs. -/
def Ints (w : World) (v : Value) (xs : List Int) : Prop :=
  ∃ A c, v = .slice A xs.length c ∧ (0 < xs.length → ∃ g o, A = some ⟨g, o, none⟩ ∧ g < w.heap.size ∧ ∀ j (hj : j < xs.length), w.cell? ⟨g, o + j, none⟩ = some (.int .i64 xs[j]))
theorem Ints.below {w W : World} {v : Value} {xs : List Int} (hx : Ints w v xs) (hW : Below w.heap.size w W) : Ints W v xs := by
  obtain ⟨A, c, e, h⟩ := hx
  refine ⟨A, c, e, fun h0 => ?_⟩
  obtain ⟨g, o, e', hg, hc⟩ := h h0
  exact ⟨g, o, e', Nat.lt_of_lt_of_le hg hW.size, fun j hj => (hW.cell (p := ⟨g, o + j, none⟩) hg).trans (hc j hj)⟩
def mk (xs : List Int) : List Blk := xs.map fun n => ⟨n, 1⟩
def erAll (xs : List Int) : Bool := xs.all erB
/-- The cells of blocks, as a row. -/
def pv (xs : List Int) : List Value := xs.flatMap fun n => [.int .i64 n, .int .i64 1]
theorem pv_length (xs : List Int) : (pv xs).length = xs.length * 2 := by
  unfold pv
  induction xs with
  | nil => rfl
  | cons e r ih => rw [List.flatMap_cons, List.length_append, ih]; simp; omega
theorem pv_snoc (xs : List Int) (n : Int) : pv (xs ++ [n]) = pv xs ++ [.int .i64 n, .int .i64 1] := by simp [pv]
theorem pv_at (xs : List Int) (j : Nat) (h : j < xs.length) : (pv xs)[j * 2]? = some (.int .i64 xs[j]) ∧ (pv xs)[j * 2 + 1]? = some (.int .i64 1) := by
  induction xs generalizing j with
  | nil => cases h
  | cons e r ih =>
    cases j with
    | zero => exact ⟨rfl, rfl⟩
    | succ j =>
      have h2 := ih j (by simpa using h)
      have key : ∀ t, (pv (e :: r))[(j + 1) * 2 + t]? = (pv r)[j * 2 + t]? := fun t => by
        show ([Value.int .i64 e, Value.int .i64 1] ++ pv r)[(j + 1) * 2 + t]? = _
        rw [List.getElem?_append_right (by simp; omega)]
        congr 1
        simp; omega
      exact ⟨(key 0).trans h2.1, (key 1).trans h2.2⟩
theorem row_of_own {w : World} {base n : Nat} {v : Value} {xs : List Int} (h : w.ownsRow base 69 2 v n (pv xs)) (h0 : 0 < n) : ∃ g cap, v = .slice (some ⟨g, 0, none⟩) n cap ∧ base ≤ g ∧ n = xs.length ∧ Row w g cap (mk xs) := by
  have hn : n = xs.length := by have := h.1; rw [pv_length] at this; omega
  rcases h.2 with ⟨_, e⟩ | ⟨g, cap, cur, rfl, hb, hg, hnc, hcm, hcs, ht⟩
  · omega
  · refine ⟨g, cap, rfl, hb, hn, cur, hg, by unfold mk; rw [List.length_map]; omega, hcm, hcs, fun i hi => ?_⟩
    unfold mk at hi ⊢
    rw [List.length_map] at hi
    obtain ⟨e1, e2⟩ := pv_at xs i hi
    have key : ∀ t u, t < n * 2 → (pv xs)[t]? = some u → cur[t]? = some u := fun t u htn hu => by
      rw [← ht, List.getElem?_take_of_lt htn] at hu
      simpa using hu
    simp only [List.getElem_map]
    exact ⟨key _ _ (by omega) e1, key _ _ (by omega) e2⟩
/-- What New leaves. -/
def NewPost (w : World) (xs : List Int) (e : Ending) (w' : World) : Prop := ∃ b g cap, e = .returned (.tuple #[.pointer (some ⟨b, 0, none⟩), .int .i64 0]) ∧ Pl w' w.heap.size b g cap (mk xs) ∧ Below w.heap.size w w'
def NewBad (w : World) (e : Ending) (w' : World) : Prop := e = .returned (.tuple #[.pointer none, .int .i64 2]) ∧ Below w.heap.size w w'
/-- What New leaves, if the number of blocks fits. -/
def NewP (w : World) (xs : List Int) (e : Ending) (w' : World) : Prop := if erAll xs = true then NewPost w xs e w' else NewBad w e w'
theorem New_len (v : Value) (xs : List Int) (w : World) (hx : Ints w v xs) (hl : xs.length = 0 ∨ 4096 < xs.length) : Calls Try.prog 9 #[v] w (NewBad w) := by
  obtain ⟨A, c, rfl, _⟩ := hx
  have HW := Lib.hid (show Calls Try.prog 27 #[.int .i64 (xs.length : Int), .int .i64 1, .int .i64 4096] w fun e w' => e = .returned (.bool false) ∧ w = w' from by
    have := within_any (xs.length : Int) 1 4096 w
    rwa [show wiB (xs.length : Int) 1 4096 = false from decide_eq_false (by omega)] at this)
  clear hl
  go_enter Try.func9, Try.ntmps9
  go_wp2_with ((go_at_call 27; with_reducible refine HW.out.mono ?_); rintro e w' ⟨rfl, rfl⟩)
  go_ret2
  exact ⟨rfl, Below.refl _ _⟩
theorem wpList_append_run {P : Program} {w : World} {ops : Array Oper} {rest : List Oper} {o : Oper} {a : Act} {Q : Exit → Act → World → Prop} (hgd : o.guard = none) (s x : Operand) (t tx : TypeId)
    (ho : o.op = .call { callee := .builtin .append, args := #[s, x], argTypes := #[t, tx] }) (v xv v' : Value) (w' : World) (hs : a.eval s = v) (hx : a.eval x = xv)
    (hr : (Builtin.append_ #[t, tx] o.type #[v, xv]).run P w = .ok v' w') (h : wpList P ops Q rest (a.put o.dst v') w') : wpList P ops Q (o :: rest) a w := by
  refine wpList_plain hgd fun K hK => ?_
  unfold Oper.wp execOp
  simp only [ho, resolve, invoke, builtin, Sem.run_bind, Sem.run_pure, Result.andThen_ok, List.map_toArray, List.map_cons, List.map_nil, hs, hx, hr]
  exact hK _ _ h
theorem erAll_no {xs : List Int} {k : Nat} (hk : k < xs.length) (h : erB xs[k] = false) : erAll xs = false := by
  unfold erAll
  rw [List.all_eq_false]
  exact ⟨_, List.getElem_mem hk, by simp [h]⟩
/-- The state of New behind k blocks. -/
def NewInv (w : World) (xs : List Int) (k : Nat) (wr : World) : Prop :=
  ∃ v, wr.heap[w.heap.size]? = some (.cells #[v, .int .i64 0, .int .i64 0, .int .i64 0, .int .i64 0, .int .i64 0] 51 (0, 0)) ∧ wr.ownsRow (w.heap.size + 1) 69 2 v k (pv (xs.take k)) ∧ v.ownBlock ≠ some w.heap.size ∧ erAll (xs.take k) = true ∧ Below w.heap.size w wr
theorem NewInv.start (w : World) (xs : List Int) : NewInv w xs 0 (w.alloc (.cells #[.slice none 0 0, .int .i64 0, .int .i64 0, .int .i64 0, .int .i64 0, .int .i64 0] 51)) :=
  ⟨_, heap_alloc_new w _, World.ownsRow_nil _ _ _ _, by simp [Value.ownBlock], by simp [erAll], below_alloc w _⟩
theorem NewInv.step {w wr w2 : World} {xs : List Int} {k ga capa n : Nat} {x : Int} {cs : Array Value} (h : NewInv w xs k wr) (v : Value) (hv : wr.heap[w.heap.size]? = some (.cells #[v, .int .i64 0, .int .i64 0, .int .i64 0, .int .i64 0, .int .i64 0] 51 (0, 0))) (hvo : v.ownBlock ≠ some w.heap.size)
    (ht : xs.take (k + 1) = xs.take k ++ [x]) (he : erB x = true) (ho : w2.ownsRow (w.heap.size + 1) 69 2 (.slice (some ⟨ga, 0, none⟩) (k + 1) capa) (k + 1) (pv (xs.take k) ++ [.int .i64 x, .int .i64 1])) (hg : (wr.alloc (.cells cs 69)).grownBy w2 v.ownBlock) (hl : v.ownBlock = some ga ∨ ga = n) :
    NewInv w xs (k + 1) (w2.setCell ⟨w.heap.size, 0, none⟩ (.slice (some ⟨ga, 0, none⟩) (k + 1) capa)) := by
  obtain ⟨v', hv', ho', _, hall, hbe⟩ := h
  rw [hv] at hv'
  injection hv' with hv'
  injection hv' with hv' _ _
  simp only [Array.mk.injEq, List.cons.injEq, and_true] at hv'
  subst hv'
  have hlt0 : w.heap.size < wr.heap.size := (Array.getElem?_eq_some_iff.1 hv).1
  have hw2 : w2.heap[w.heap.size]? = some (.cells #[v, .int .i64 0, .int .i64 0, .int .i64 0, .int .i64 0, .int .i64 0] 51 (0, 0)) := (hg.block _ (by simp; omega) (fun e => hvo e.symm)).trans ((Below.heap_alloc wr _ _ hlt0).trans hv)
  have hga : w.heap.size + 1 ≤ ga := (ho.lt ga rfl).1
  have hgr : Chg (fun k => v.ownBlock = some k) wr w2 := (Chg.of_below (below_alloc wr _)).also (Chg.of_grown hg)
  have hvb : ∀ k, v.ownBlock = some k → w.heap.size + 1 ≤ k := fun k hk => (ho'.lt k hk).1
  have hb2 : Below w.heap.size w w2 := hbe.trans (hgr.below hbe.size (fun i hi => by have := hvb i hi; omega))
  refine ⟨_, heap_setCell_same w2 w.heap.size 0 _ 51 _ hw2, ?_, by simp [Value.ownBlock]; omega, ?_, hb2.setCell (Nat.le_refl _) _⟩
  · rw [ht, pv_snoc]
    refine ho.kept (row := some w.heap.size) ⟨rfl, rfl, rfl, by simp [World.setCell], fun j hj hne => Below.heap_setCell w2 _ _ j (fun e => hne (by rw [e]))⟩ (.inr ?_)
    simp [Value.ownBlock]; omega
  · rw [ht]
    unfold erAll at hall ⊢
    rw [List.all_append, hall]
    simp [he]
theorem mk_ok {xs : List Int} (h : erAll xs = true) : ∀ b ∈ mk xs, b.ok := by
  intro b hb
  obtain ⟨n, hn, rfl⟩ := List.mem_map.1 hb
  unfold erAll at h
  rw [List.all_eq_true] at h
  have := h n hn
  unfold erB wiB at this
  have := of_decide_eq_true this
  unfold Blk.ok
  dsimp only
  omega
theorem cnt_mk (xs : List Int) : cnt (mk xs) 0 = 0 ∧ cnt (mk xs) 1 = xs.length ∧ cnt (mk xs) 2 = 0 ∧ cnt (mk xs) 3 = 0 ∧ cnt (mk xs) 4 = 0 := by
  have key : ∀ s : Int, cnt (mk xs) s = if (1 : Int) = s then (xs.length : Int) else 0 := fun s => by
    induction xs with
    | nil => simp [mk, cnt]
    | cons x r ih =>
      rw [show mk (x :: r) = ⟨x, 1⟩ :: mk r from rfl, cnt_cons, ih]
      by_cases h : (1 : Int) = s <;> simp [h]; omega
  refine ⟨key 0, key 1, key 2, key 3, key 4⟩
theorem NewInv.fin {w wr : World} {xs : List Int} (h : NewInv w xs xs.length wr) (h1 : 0 < xs.length) (h2 : xs.length ≤ 4096) : NewPost w xs (.returned (.tuple #[.pointer (some ⟨w.heap.size, 0, none⟩), .int .i64 0])) (wr.setCell ⟨w.heap.size, 2, none⟩ (.int .i64 (xs.length : Int))) := by
  obtain ⟨v, hv, ho, hvo, hall, hbe⟩ := h
  rw [List.take_length] at ho hall
  obtain ⟨g, cap, rfl, hg, _, hr⟩ := row_of_own ho h1
  obtain ⟨c0, c1, c2, c3, c4⟩ := cnt_mk xs
  have hml : (mk xs).length = xs.length := by unfold mk; rw [List.length_map]
  refine ⟨w.heap.size, g, cap, rfl, ⟨?_, hr.keep (Below.heap_setCell wr _ _ g (by show g ≠ w.heap.size; omega)), Nat.le_refl _, by omega, ⟨by omega, by omega, mk_ok hall⟩⟩, hbe.setCell (Nat.le_refl _) _⟩
  have := heap_setCell_same wr w.heap.size 2 _ 51 (.int .i64 (xs.length : Int)) hv
  rw [this]
  unfold plCells
  rw [c0, c1, c2, c3, c4, hml]
  rfl
theorem info69 : (Try.prog.info? 69).map (fun i => (i.zero, i.size, i.bytes)) = some (some (.agg #[.int .i64 0, .int .i64 0]), 2, 16) := by kernel_rfl
theorem New_any (v : Value) (xs : List Int) (w : World) (hx : Ints w v xs) (hl1 : 1 ≤ xs.length) (hl2 : xs.length ≤ 4096) : Calls Try.prog 9 #[v] w (NewP w xs) := by
  obtain ⟨i69, hi69, hz0, hz1, hz2⟩ := info_parts info69
  have HW := Lib.hid (show Calls Try.prog 27 #[.int .i64 (xs.length : Int), .int .i64 1, .int .i64 4096] w fun e w' => e = .returned (.bool true) ∧ w = w' from by
    have := within_any (xs.length : Int) 1 4096 w
    rwa [show wiB (xs.length : Int) 1 4096 = true from decide_eq_true (by omega)] at this)
  obtain ⟨A, c, rfl, hr⟩ := hx
  obtain ⟨gx, o, rfl, hgx, hcell⟩ := hr (by omega)
  have HC := Lib.hid hcell
  clear hr hcell
  go_enter Try.func9, Try.ntmps9
  go_wp2_with ((go_at_call 27; with_reducible refine HW.out.mono ?_); rintro e w' ⟨rfl, rfl⟩)
  go_loopw [15] (fun i wr => ∃ k : Nat, k ≤ xs.length ∧ i = .int .i64 k ∧ Hid (NewInv w xs k wr)) (fun i _ => xs.length - (RowKit.intOf i).toNat)
  case atStart => exact ⟨0, Nat.zero_le _, rfl, Lib.hid (NewInv.start w xs)⟩
  case round =>
    obtain ⟨k, hk, rfl, HI⟩ := hrel
    obtain ⟨v, hv, ho, hvo, hall, hbe⟩ := HI.out
    have hsz := hbe.size
    have HB := Lib.hid hbe
    have k0 := cell_of_row wr w.heap.size 0 _ 51 (0, 0) hv
    have hlt0 : w.heap.size < wr.heap.size := (Array.getElem?_eq_some_iff.1 hv).1
    by_cases hlt : k < xs.length
    · have c1 : wr.cell? ⟨gx, o + k, none⟩ = some (.int .i64 xs[k]) := (HB.out.cell hgx).trans (HC.out k hlt)
      have HT := Lib.hid (List.take_succ_eq_append_getElem hlt)
      have HN := Lib.hid (fun h => erAll_no hlt h)
      generalize xs[k] = n at *
      have HE := Lib.hid (fun W => isErases_any n W)
      cases he : erB n
      · rw [he] at HE
        have HNN := Lib.hid (HN.out he)
        clear hv ho hvo hall hbe he HN HI
        go_wp2_with ((go_at_call 28; with_reducible refine (HE.out _).mono ?_); rintro e w' ⟨rfl, rfl⟩)
        go_ret2
        unfold NewP
        rw [if_neg (by rw [HNN.out]; decide)]
        exact ⟨rfl, HB.out⟩
      · rw [he] at HE
        obtain ⟨ga, capa, w2, hrun, hown2, hgrow, hlies, _⟩ := run_append_lies (P := Try.prog) (wr.alloc (.cells #[.int .i64 n, .int .i64 1] 69)) 48 48 (w.heap.size + 1) 69 i69 _ 2 16 Try.underlying48 hi69 hz0 hz1 hz2 rfl (by decide) v k (pv (xs.take k)) (ho.alloc _) ⟨wr.heap.size, 0, none⟩ 1 1 [.int .i64 n, .int .i64 1] rfl (World.news_of_block (heap_alloc_new wr _)) (by intro u hu; simp at hu; rcases hu with rfl | rfl <;> rfl) (by omega) (by unfold maxLen; omega) (by omega) (by simp; omega) wr.heap.size.succ (by simp)
        have hst : NewInv w xs (k + 1) (w2.setCell ⟨w.heap.size, 0, none⟩ (.slice (some ⟨ga, 0, none⟩) (k + 1) capa)) := NewInv.step HI.out v hv hvo HT.out he hown2 hgrow hlies
        have hw2 : w2.heap[w.heap.size]? = some (.cells #[v, .int .i64 0, .int .i64 0, .int .i64 0, .int .i64 0, .int .i64 0] 51 (0, 0)) := (hgrow.block _ (by simp; omega) (fun e => hvo e.symm)).trans ((Below.heap_alloc wr _ _ hlt0).trans hv)
        have k1 := cell_of_row w2 w.heap.size 0 _ 51 (0, 0) hw2
        have f1 := frozen_of_row w2 w.heap.size 0 _ 51 hw2
        have Hrun := Lib.hid hrun
        have HST := Lib.hid hst
        clear hv ho hvo hall hbe he HN HI hrun hown2 hgrow hlies hst hw2
        go_wp2_with (first
          | ((go_at_call 28; with_reducible refine (HE.out _).mono ?_); rintro e w' ⟨rfl, rfl⟩)
          | (at_builtin; refine wpList_append_run rfl (.tmp 26) (.tmp 30) 48 48 rfl _ _ _ w2 rfl rfl Hrun.out ?_))
        go_roundw
        case rel => exact ⟨k + 1, by omega, by go_num, HST⟩
        case measure => simp [RowKit.intOf]; omega
    · have hkl : k = xs.length := by omega
      subst hkl
      have hf : NewPost w xs (.returned (.tuple #[.pointer (some ⟨w.heap.size, 0, none⟩), .int .i64 0])) (wr.setCell ⟨w.heap.size, 2, none⟩ (.int .i64 (xs.length : Int))) := NewInv.fin HI.out (by omega) hl2
      have HF := Lib.hid hf
      have f2 := frozen_of_row wr w.heap.size 2 _ 51 hv
      have k2 := cell_of_row wr w.heap.size 2 _ 51 (0, 0) hv
      rw [List.take_length] at hall
      have HA := Lib.hid hall
      clear hv ho hvo hall hbe hf HI
      go_wp2
      go_ret2
      unfold NewP
      rw [if_pos HA.out]
      exact HF.out
end Go.Proofs.Ytpojgjbgbbnojaa
