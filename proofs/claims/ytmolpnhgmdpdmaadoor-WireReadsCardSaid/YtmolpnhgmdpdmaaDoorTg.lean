/- The contract of wire.Pad where it returns no error. Conditions: the text is plain and fits. -/
import Derived.Test.YtmolpnhgmdpdmaaDoorTf
import Derived.Deep.AppendSrc
import Derived.Deep.Upon
namespace Go.Proofs.YtmolpnhgmdpdmaaDoor
open Go.RowKit
set_option linter.unusedVariables false
set_option maxHeartbeats 400000

theorem Byt.src {w : World} {v : Value} {l : List UInt8} (h : Byt w v l) : Src Tryd.prog 1 23 v l.length (bv l) w := by
  obtain ⟨A, c, rfl, _, hr⟩ := h
  rcases Nat.eq_zero_or_pos l.length with h0 | h0
  · have hl : l = [] := List.eq_nil_of_length_eq_zero h0
    subst hl
    rcases A with _ | a
    · exact Src.ofNil w Tryd.underlying23 c
    · exact Src.ofSlice w Tryd.underlying23 a 0 c [] (by simp) (by simp) (by simp)
  · obtain ⟨g, o, rfl, _, hc⟩ := hr h0
    refine Src.ofSlice w Tryd.underlying23 _ l.length c _ (by rw [bv_length]; omega) (fun j u hu => ?_) (bv_one l)
    have hj : j < l.length := by
      rcases Nat.lt_or_ge j l.length with h | h
      · exact h
      · rw [List.getElem?_eq_none (by rw [bv_length]; exact h)] at hu; cases hu
    rw [bv_get hj] at hu
    rw [add_plain, hc j hj, hu]

theorem size_setCells (w : World) (g : Nat) : ∀ (vs : List Value) (o : Nat), (w.setCells g o vs).heap.size = w.heap.size := by
  intro vs
  induction vs generalizing w with
  | nil => intro o; rfl
  | cons v vs ih => intro o; simp only [World.setCells]; rw [ih]; simp [World.setCell]
theorem tape_setCells (w : World) (g : Nat) : ∀ (vs : List Value) (o : Nat), (w.setCells g o vs).tape = w.tape := by
  intro vs
  induction vs generalizing w with
  | nil => intro o; rfl
  | cons v vs ih => intro o; simp only [World.setCells]; rw [ih]; rfl
theorem below_setCells (w : World) (g : Nat) (vs : List Value) (o : Nat) : Below g w (w.setCells g o vs) := by
  refine ⟨World.os_setCells _ _ _ _, tape_setCells _ _ _ _, World.output_setCells _ _ _ _, by rw [size_setCells]; exact Nat.le_refl _, fun k hk => ?_⟩
  rcases Nat.lt_or_ge k w.heap.size with h | h
  · exact World.heap_setCells_other w g o vs h (by omega)
  · rw [Array.getElem?_eq_none h, Array.getElem?_eq_none (by rw [size_setCells]; exact h)]

theorem run_append_bytes (w : World) (g cap : Nat) (l m : List UInt8) (xv : Value) (ty : TypeId) (hg : g < w.heap.size) (hcap : l.length ≤ cap)
    (hc : ∀ j (hj : j < l.length), w.cell? ⟨g, j, none⟩ = some (.int .u8 (l[j].toNat : Int))) (hs : ∀ j, j < cap → (w.cell? ⟨g, j, none⟩).isSome = true) (hf : ∀ j, j < cap → w.frozen? ⟨g, j, none⟩ = false)
    (hx : Byt w xv m) (hsz : l.length + m.length ≤ 1099511627776) :
    ∃ v' w', (Builtin.append_ #[23, 23] ty #[.slice (some ⟨g, 0, none⟩) l.length cap, xv]).run Tryd.prog w = .ok v' w' ∧ Byt w' v' (l ++ m) ∧ Below g w w' := by
  obtain ⟨i0, hi0, hz0, hz1, hz2⟩ := info_parts u8_info
  have hsrc := hx.src
  rw [← hz1] at hsrc
  by_cases hroom : l.length + m.length ≤ cap
  · have hrun := run_append_room_src (P := Tryd.prog) w 23 23 ty 5 i0 Tryd.underlying23 hi0 g 0 l.length cap xv m.length (bv m) hsrc hroom
      (fun j hj => by rw [bv_length] at hj; rw [hz1]; exact hs _ (by omega)) (fun j hj => by rw [bv_length] at hj; rw [hz1]; exact hf _ (by omega))
    refine ⟨_, _, hrun, ?_, below_setCells _ _ _ _⟩
    rw [hz1, Nat.mul_one, Nat.zero_add]
    refine ⟨_, cap, by rw [List.length_append], by simpa using hroom, fun _ => ⟨g, 0, rfl, by rw [size_setCells]; exact hg, fun j hj => ?_⟩⟩
    rw [Nat.zero_add]
    by_cases hjl : j < l.length
    · rw [World.cell?_setCells_out g (bv m) l.length w ⟨g, j, none⟩ (fun _ _ => .inl hjl), hc j hjl, List.getElem_append_left hjl]
    · rw [List.length_append] at hj
      have := World.cell?_setCells_in g (bv m) l.length w (fun i hi => hs _ (by rw [bv_length] at hi; omega)) (j - l.length) (by rw [bv_length]; omega)
      rw [show l.length + (j - l.length) = j by omega] at this
      rw [this, List.getElem_append_right (by omega)]
      simp [bv]
  · have hold : (Builtin.firstCells i0.size l.length (.slice (some ⟨g, 0, none⟩) l.length cap)).run Tryd.prog w.drew = .ok (bv l).toArray w.drew := by
      rw [hz1]
      refine run_firstCells_some w.drew 1 l.length _ l.length cap (bv l) (by rw [bv_length]; omega) (fun j u hu => ?_)
      have hj : j < l.length := by
        rcases Nat.lt_or_ge j l.length with h | h
        · exact h
        · rw [List.getElem?_eq_none (by rw [bv_length]; exact h)] at hu; cases hu
      rw [bv_get hj] at hu
      rw [add_plain, Nat.zero_add]
      exact (hc j hj).trans hu
    have hrun := run_append_grow_src (P := Tryd.prog) w 23 23 ty 5 i0 (.int .u8 0) Tryd.underlying23 hi0 hz0 (some ⟨g, 0, none⟩) l.length cap (bv l) hold xv m.length (bv m) hsrc (by omega) (by omega)
      (growslice_fits (by omega) (by rw [hz2]; omega))
    refine ⟨_, _, hrun, ?_, (Below.refl _ _).drew.alloc (by simp; omega) _⟩
    have hge := grownCap_ge w (l.length + m.length) cap 5
    refine ⟨_, _, by rw [List.length_append], by rw [List.length_append]; exact hge, fun _ => ⟨w.heap.size, 0, rfl, by simp, fun j hj => ?_⟩⟩
    rw [Nat.zero_add, cell_of_row _ w.heap.size j _ 5 (0, 0) (heap_alloc_new w.drew _), ← bv_append, Array.getElem?_append_left (by simp only [List.size_toArray]; rw [bv_length]; exact hj), List.getElem?_toArray, bv_get hj]
theorem wpList_append_run {P : Program} {w : World} {ops : Array Oper} {rest : List Oper} {o : Oper} {a : Act} {Q : Exit → Act → World → Prop} (hgd : o.guard = none) (s x : Operand) (t tx : TypeId)
    (ho : o.op = .call { callee := .builtin .append, args := #[s, x], argTypes := #[t, tx] }) (v xv v' : Value) (w' : World) (hs : a.eval s = v) (hx : a.eval x = xv)
    (hr : (Builtin.append_ #[t, tx] o.type #[v, xv]).run P w = .ok v' w') (h : wpList P ops Q rest (a.put o.dst v') w') : wpList P ops Q (o :: rest) a w := by
  refine wpList_plain hgd fun K hK => ?_
  unfold Oper.wp execOp
  simp only [ho, resolve, invoke, builtin, Sem.run_bind, Sem.run_pure, Result.andThen_ok, List.map_toArray, List.map_cons, List.map_nil, hs, hx, hr]
  exact hK _ _ h

/-- The bytes of Pad, and its error. -/
def padL (l : List UInt8) (n : Int) : List UInt8 := if n < 0 ∨ plainL l = false then [] else if n < l.length ∨ 1048576 < n then [] else l ++ List.replicate (n.toNat - l.length) 32
def padE (l : List UInt8) (n : Int) : Int := if n < 0 ∨ plainL l = false then 2 else if n < l.length ∨ 1048576 < n then 5 else 0

theorem bytesRow_cell (s : ByteArray) (cap : Nat) (j : Nat) (hj : j < s.data.toList.length) : (bytesRow s cap)[j]? = some (.int .u8 (s.data.toList[j].toNat : Int)) := by
  unfold bytesRow
  simp at hj
  rw [Array.getElem?_append_left (by simpa using hj)]
  simp [hj]
theorem bytesRow_size (s : ByteArray) (cap : Nat) (h : s.size ≤ cap) : (bytesRow s cap).size = cap := by
  unfold bytesRow
  simp
  have : s.data.size = s.size := rfl
  omega

theorem repeatZ (g : Nat) (c : Int) (w : World) (h0 : 0 ≤ c) (h : c ≤ 1048576) (hg : g < w.heap.size) (hc : w.cell? ⟨g, 0, none⟩ = some (.int .u8 32)) :
    Calls Tryd.prog 52 #[.slice (some ⟨g, 0, none⟩) 1 1, .int .i64 c] w fun e w' => (∃ v, e = .returned v ∧ Byt w' v (List.replicate c.toNat 32)) ∧ Below w.heap.size w w' := by
  obtain ⟨n, rfl⟩ := Int.eq_ofNat_of_zero_le h0
  rcases Nat.eq_zero_or_pos n with rfl | hn
  · exact repeat_none g w
  · exact repeat_any g n w hn (by omega) hg hc
theorem pad_append (s : ByteArray) (cap : Nat) (w w3 : World) (m : List UInt8) (vr : Value) (ty : TypeId) (o : Obj) (hge : s.size ≤ cap)
    (hbel : Below (w.heap.size + 2) ((w.alloc (.cells (bytesRow s cap) 5 ((bytesRow s cap).size, (bytesRow s cap).size + 1))).alloc o).drew w3) (hb : Byt w3 vr m) (hsz : s.size + m.length ≤ 1099511627776) :
    ∃ v' w', (Builtin.append_ #[23, 23] ty #[.slice (some ⟨w.heap.size, 0, none⟩) s.size cap, vr]).run Tryd.prog w3 = .ok v' w' ∧ Byt w' v' (s.data.toList ++ m) ∧ Below w.heap.size w w' := by
  have hrow : w3.heap[w.heap.size]? = some (.cells (bytesRow s cap) 5 ((bytesRow s cap).size, (bytesRow s cap).size + 1)) := by
    rw [hbel.block w.heap.size (by omega)]
    show ((w.alloc _).alloc o).heap[w.heap.size]? = _
    rw [Below.heap_alloc _ _ _ (by simp)]
    exact heap_alloc_new w _
  have hlt : w.heap.size < w3.heap.size := (Array.getElem?_eq_some_iff.1 hrow).1
  have hcell : ∀ j, w3.cell? ⟨w.heap.size, j, none⟩ = (bytesRow s cap)[j]? := fun j => cell_of_row w3 w.heap.size j _ 5 _ hrow
  obtain ⟨v', w4, hrun, hB, hbw⟩ := run_append_bytes w3 w.heap.size cap s.data.toList m vr ty hlt hge
    (fun j hj => by rw [hcell, bytesRow_cell s cap j hj])
    (fun j hj => by rw [hcell, Array.getElem?_eq_getElem (by rw [bytesRow_size s cap hge]; exact hj)]; rfl)
    (fun j hj => by
      have hsz := bytesRow_size s cap hge
      simp [World.frozen?, hrow, hsz]
      omega)
    hb hsz
  refine ⟨v', w4, hrun, hB, ?_⟩
  refine Below.trans ?_ hbw
  have h0 : Below w.heap.size w ((w.alloc (.cells (bytesRow s cap) 5 ((bytesRow s cap).size, (bytesRow s cap).size + 1))).alloc o).drew := (((Below.refl _ _).alloc (Nat.le_refl _) _).alloc (by simp) _).drew
  exact h0.trans (hbel.mono (by omega))
set_option maxRecDepth 100000 in
theorem Pad_ok (s : ByteArray) (n : Int) (w : World) (hp : plainL s.data.toList = true) (h1 : (s.size : Int) ≤ n) (h2 : n ≤ 1048576) :
    Calls Tryd.prog 21 #[.string s, .int .i64 n] w (BytErr w (s.data.toList ++ List.replicate (n.toNat - s.size) 32) 0) := by
  have hcv := run_bytes_of_string (P := Tryd.prog) w 9 23 5 s Tryd.underlying9 Tryd.underlying23 Tryd.underlying5
  obtain ⟨cap, hcap⟩ : ∃ cap, grownCap w s.size 0 5 = cap := ⟨_, rfl⟩
  have hge : s.size ≤ cap := by rw [← hcap]; exact grownCap_ge _ _ _ _
  rw [hcap] at hcv
  have Hcap := Lib.hid hcap; clear hcap
  have Hp := Lib.hid hp; clear hp
  go_enter Tryd.func21, Tryd.ntmps21
  go_wp2_with fail
  refine (isText_any _ _ (by omega)).mono ?_
  rintro e w' ⟨rfl, rfl⟩
  rw [Hp.out]
  go_wp2_with fail
  refine (repeatZ _ _ _ (by omega) (by omega) (by simp) (by simp)).mono ?_
  rintro e w3 ⟨⟨vr, rfl, hb⟩, hbel⟩
  obtain ⟨v', w4, hrun, hB, hbw⟩ := pad_append s cap w w3 _ vr 23 _ hge (by simpa using hbel) hb (by simp; omega)
  have HB := Lib.hid hB
  have Hbw := Lib.hid hbw
  have Hrun := Lib.hid hrun
  clear hB hbw hrun hb hbel hcv
  go_wp2_with (at_builtin; refine wpList_append_run rfl (.tmp 22) (.tmp 28) 23 23 rfl _ _ v' w4 rfl rfl Hrun.out ?_)
  go_ret2
  refine ⟨v', rfl, ?_, Hbw.out⟩
  have := HB.out
  rwa [show (n - (s.size : Int)).toNat = n.toNat - s.size by omega] at this
end Go.Proofs.YtmolpnhgmdpdmaaDoor
