/- The contracts of the reference's Plain, Pad and Text: they agree with wire's. Conditions stand in each theorem. -/
import Derived.Test.YtmolpnhgmdpdmaaDoorTn
namespace Go.Proofs.YtmolpnhgmdpdmaaDoor
open Go.RowKit
set_option linter.unusedVariables false
set_option maxHeartbeats 400000

theorem plain_yes {l : List UInt8} (h : plainL l = true) (k : Nat) (hk : k < l.length) : okB l[k] = true := by
  unfold plainL at h
  rw [List.all_eq_true] at h
  exact h _ (List.getElem_mem hk)
theorem plain_all {l : List UInt8} (h : ∀ k (hk : k < l.length), okB l[k] = true) : plainL l = true := by
  unfold plainL
  rw [List.all_eq_true]
  intro b hb
  obtain ⟨k, hk, rfl⟩ := List.mem_iff_getElem.1 hb
  exact h k hk
theorem refPlain_any (v : Value) (l : List UInt8) (w : World) (h : Byt w v l) (hl : l.length ≤ 9223372036854775807) : Calls Tryd.prog 53 #[v] w fun e w' => e = .returned (.bool (plainL l)) ∧ w = w' := by
  obtain ⟨A, c, rfl, hc, hr⟩ := h
  have Hr := Lib.hid hr; clear hr
  go_enter Tryd.func53, Tryd.ntmps53
  go_wp2
  go_loop [3] (fun i => ∃ k : Nat, k ≤ l.length ∧ i = .int .i64 k ∧ Hid (∀ j (hj : j < l.length), j < k → okB l[j] = true)) (fun i => l.length - (intOf i).toNat)
  case atStart => exact ⟨0, Nat.zero_le _, rfl, fun j _ h => absurd h (by omega)⟩
  case round =>
    obtain ⟨k, hk, rfl, hall⟩ := hrel
    by_cases hlt : k < l.length
    · obtain ⟨g, o, rfl, hg, hcell⟩ := Hr.out (by omega)
      have hck := hcell k hlt
      clear hcell
      cases hok : okB l[k] with
      | true =>
        have ⟨h1, h2⟩ := okB_yes hok
        have hall' : Hid (∀ j (hj : j < l.length), j < k + 1 → okB l[j] = true) := fun j hj hjk => by
          by_cases e : j = k
          · subst e; exact hok
          · exact hall.out j hj (by omega)
        clear hok hall
        go_wp2
        go_round
        case rel => exact ⟨k + 1, by omega, by go_num, hall'⟩
        case measure => simp [intOf]; omega
      | false =>
        have hno : plainL l = false := by
          cases hp : plainL l with
          | false => rfl
          | true => rw [plain_yes hp k hlt] at hok; cases hok
        have Hno := Lib.hid hno; clear hno
        have h12 := okB_no hok
        clear hok hall
        rcases h12 with h1 | h1
        · go_wp2
          go_ret
          exact ⟨by rw [Hno.out]; rfl, rfl⟩
        · have h0 : 32 ≤ l[k].toNat := by omega
          go_wp2
          go_ret
          exact ⟨by rw [Hno.out]; rfl, rfl⟩
    · have hp := plain_all (l := l) fun j hj => hall.out j hj (by omega)
      have Hp := Lib.hid hp; clear hp hall
      go_wp2
      go_ret
      exact ⟨by rw [Hp.out]; rfl, rfl⟩

/-- A row of bytes of the call's own, with whatever mark behind it. -/
def OwnB (w : World) (base : Nat) (v : Value) (l : List UInt8) : Prop :=
  ∃ g cap, v = .slice (some ⟨g, 0, none⟩) l.length cap ∧ l.length ≤ cap ∧ base ≤ g ∧ g < w.heap.size ∧ (∀ j (hj : j < l.length), w.cell? ⟨g, j, none⟩ = some (.int .u8 (l[j].toNat : Int))) ∧
    (∀ j, j < cap → (w.cell? ⟨g, j, none⟩).isSome = true) ∧ (∀ j, j < cap → w.frozen? ⟨g, j, none⟩ = false)
theorem OwnB.byt {w : World} {base : Nat} {v : Value} {l : List UInt8} (h : OwnB w base v l) : Byt w v l := by
  obtain ⟨g, cap, rfl, hc, _, hg, hcell, _, _⟩ := h
  exact ⟨_, cap, rfl, hc, fun _ => ⟨g, 0, rfl, hg, fun j hj => by rw [Nat.zero_add]; exact hcell j hj⟩⟩
theorem OwnB.alloc {w : World} {base : Nat} {v : Value} {l : List UInt8} (h : OwnB w base v l) (o : Obj) : OwnB (w.alloc o) base v l := by
  obtain ⟨g, cap, rfl, hc, hb, hg, hcell, hs, hf⟩ := h
  have hk : (w.alloc o).heap[g]? = w.heap[g]? := Below.heap_alloc w o g hg
  exact ⟨g, cap, rfl, hc, hb, by simp; omega, fun j hj => (World.cell?_of_block (a := ⟨g, j, none⟩) hk).trans (hcell j hj), fun j hj => by rw [World.cell?_of_block (a := ⟨g, j, none⟩) hk]; exact hs j hj, fun j hj => (World.frozen?_of_block (a := ⟨g, j, none⟩) hk).trans (hf j hj)⟩
theorem ownb_string (w : World) (s : ByteArray) (cap base : Nat) (hge : s.size ≤ cap) (hb : base ≤ w.heap.size) :
    OwnB (w.alloc (.cells (bytesRow s cap) 5 ((bytesRow s cap).size, (bytesRow s cap).size + 1))) base (.slice (some ⟨w.heap.size, 0, none⟩) s.size cap) s.data.toList := by
  have hrow := heap_alloc_new w (.cells (bytesRow s cap) 5 ((bytesRow s cap).size, (bytesRow s cap).size + 1))
  have hsz := bytesRow_size s cap hge
  have hcell : ∀ j, (w.alloc (.cells (bytesRow s cap) 5 ((bytesRow s cap).size, (bytesRow s cap).size + 1))).cell? ⟨w.heap.size, j, none⟩ = (bytesRow s cap)[j]? := fun j => cell_of_row _ w.heap.size j _ 5 _ hrow
  refine ⟨w.heap.size, cap, rfl, hge, hb, by simp, fun j hj => by rw [hcell, bytesRow_cell s cap j hj], fun j hj => by rw [hcell, Array.getElem?_eq_getElem (by omega)]; rfl, fun j hj => ?_⟩
  simp only [World.frozen?, hrow]
  simp
  omega
theorem run_append_ownb (w : World) (base : Nat) (v xv : Value) (l m : List UInt8) (ty : TypeId) (h : OwnB w base v l) (hx : Byt w xv m) (hbase : base ≤ w.heap.size) (hsz : l.length + m.length ≤ 1099511627776) :
    ∃ v' w', (Builtin.append_ #[23, 23] ty #[v, xv]).run Tryd.prog w = .ok v' w' ∧ OwnB w' base v' (l ++ m) ∧ Below base w w' := by
  obtain ⟨g, cap, rfl, hcap, hb, hg, hc, hs, hf⟩ := h
  obtain ⟨i0, hi0, hz0, hz1, hz2⟩ := info_parts u8_info
  have hsrc := hx.src
  rw [← hz1] at hsrc
  by_cases hroom : l.length + m.length ≤ cap
  · have hrun := run_append_room_src (P := Tryd.prog) w 23 23 ty 5 i0 Tryd.underlying23 hi0 g 0 l.length cap xv m.length (bv m) hsrc hroom
      (fun j hj => by rw [bv_length] at hj; rw [hz1]; exact hs _ (by omega)) (fun j hj => by rw [bv_length] at hj; rw [hz1]; exact hf _ (by omega))
    refine ⟨_, _, hrun, ?_, (below_setCells _ _ _ _).mono hb⟩
    rw [hz1, Nat.mul_one, Nat.zero_add]
    have hin := World.cell?_setCells_in g (bv m) l.length w (fun i hi => hs _ (by rw [bv_length] at hi; omega))
    refine ⟨g, cap, by rw [List.length_append], by simpa using hroom, hb, by rw [size_setCells]; exact hg, fun j hj => ?_, fun j hj => ?_, fun j hj => by rw [World.frozen?_setCells]; exact hf j hj⟩
    · by_cases hjl : j < l.length
      · rw [World.cell?_setCells_out g (bv m) l.length w ⟨g, j, none⟩ (fun _ _ => .inl hjl), hc j hjl, List.getElem_append_left hjl]
      · rw [List.length_append] at hj
        have := hin (j - l.length) (by rw [bv_length]; omega)
        rw [show l.length + (j - l.length) = j by omega] at this
        rw [this, List.getElem_append_right (by omega)]
        simp [bv]
    · by_cases hjl : j < l.length ∨ l.length + m.length ≤ j
      · rw [World.cell?_setCells_out g (bv m) l.length w ⟨g, j, none⟩ (fun _ _ => by rw [bv_length]; exact hjl)]
        exact hs j hj
      · have := hin (j - l.length) (by rw [bv_length]; omega)
        rw [show l.length + (j - l.length) = j by omega] at this
        rw [this]; rfl
  · have hold : (Builtin.firstCells i0.size l.length (.slice (some ⟨g, 0, none⟩) l.length cap)).run Tryd.prog w.drew = .ok (bv l).toArray w.drew := by
      rw [hz1]
      refine run_firstCells_some w.drew 1 l.length _ l.length cap (bv l) (by rw [bv_length]; omega) (fun j u hu => ?_)
      have hj : j < l.length := by
        rcases Nat.lt_or_ge j l.length with h | h
        · exact h
        · rw [List.getElem?_eq_none (by rw [bv_length]; exact h)] at hu; cases hu
      rw [bv_get hj] at hu
      rw [add_plain, Nat.zero_add]
      exact (hc j hj).trans hu
    have hrun := run_append_grow_src (P := Tryd.prog) w 23 23 ty 5 i0 (.int .u8 0) Tryd.underlying23 hi0 hz0 (some ⟨g, 0, none⟩) l.length cap (bv l) hold xv m.length (bv m) hsrc (by omega) (by omega)
      (growslice_fits (by omega) (by rw [hz2]; omega))
    refine ⟨_, _, hrun, ?_, (Below.refl _ _).drew.alloc hbase _⟩
    have hge := grownCap_ge w (l.length + m.length) cap 5
    have hrow := fun o : Obj => heap_alloc_new w.drew o
    refine ⟨w.heap.size, _, by rw [List.length_append], by rw [List.length_append]; exact hge, hbase, by simp, fun j hj => ?_, fun j hj => ?_, fun j hj => ?_⟩
    · rw [cell_of_row _ w.heap.size j _ 5 (0, 0) (hrow _), ← bv_append, Array.getElem?_append_left (by simp only [List.size_toArray]; rw [bv_length]; exact hj), List.getElem?_toArray, bv_get hj]
    · rw [cell_of_row _ w.heap.size j _ 5 (0, 0) (hrow _), Array.getElem?_eq_getElem (by
        simp only [Array.size_append, List.size_toArray, List.length_append, bv_length, size_zeroCells]
        simp [Value.cells]; omega)]
      rfl
    · exact frozen_of_row _ w.heap.size j _ 5 (hrow _)

def slLen : Value → Nat | .slice _ n _ => n | _ => 0
theorem bytes_of (s : ByteArray) (W : World) : ∃ cap, s.size ≤ cap ∧ (convert 9 23 (.string s)).run Tryd.prog W = .ok (.slice (some ⟨W.heap.size, 0, none⟩) s.size cap) (W.alloc (.cells (bytesRow s cap) 5 ((bytesRow s cap).size, (bytesRow s cap).size + 1))).drew := by
  refine ⟨grownCap W s.size 0 5, grownCap_ge _ _ _ _, ?_⟩
  exact run_bytes_of_string (P := Tryd.prog) W 9 23 5 s Tryd.underlying9 Tryd.underlying23 Tryd.underlying5
set_option maxRecDepth 100000 in
theorem refPad_ok (s : ByteArray) (n : Nat) (w : World) (hp : plainL s.data.toList = true) (h1 : s.size ≤ n) (h2 : n ≤ 1048576) :
    Calls Tryd.prog 22 #[.string s, .int .i64 (n : Int)] w (BytErr w (s.data.toList ++ List.replicate (n - s.size) 32) 0) := by
  obtain ⟨cap1, hge1, hcv1⟩ := bytes_of s w
  obtain ⟨W1, hW1⟩ : ∃ W1, W1 = (w.alloc (.cells (bytesRow s cap1) 5 ((bytesRow s cap1).size, (bytesRow s cap1).size + 1))).drew := ⟨_, rfl⟩
  have HO1 := Lib.hid (show OwnB W1 w.heap.size (.slice (some ⟨w.heap.size, 0, none⟩) s.size cap1) s.data.toList by rw [hW1]; exact ownb_string w s cap1 _ hge1 (Nat.le_refl _))
  have HB1 := Lib.hid (show Below w.heap.size w W1 by rw [hW1]; exact ((Below.refl _ _).alloc (Nat.le_refl _) _).drew)
  rw [← hW1] at hcv1
  clear hW1
  obtain ⟨cap2, hge2, hcv2⟩ := bytes_of s W1
  obtain ⟨W2, hW2⟩ : ∃ W2, W2 = (W1.alloc (.cells (bytesRow s cap2) 5 ((bytesRow s cap2).size, (bytesRow s cap2).size + 1))).drew := ⟨_, rfl⟩
  have HO2 := Lib.hid (show OwnB W2 w.heap.size (.slice (some ⟨W1.heap.size, 0, none⟩) s.size cap2) s.data.toList by rw [hW2]; exact ownb_string W1 s cap2 _ hge2 HB1.out.size)
  have HB2 := Lib.hid (show Below w.heap.size w W2 by rw [hW2]; exact (HB1.out.alloc HB1.out.size _).drew)
  rw [← hW2] at hcv2
  clear hW2
  have Hp := Lib.hid hp; clear hp
  have d0 : decide ((n : Int) < 0) = false := by simp
  have d1 : decide (n < s.size) = false := by simp; omega
  have d2 : decide (1048576 < (n : Int)) = false := by simp; omega
  go_enter Tryd.func22, Tryd.ntmps22
  go_wp2_with fail
  refine (refPlain_any _ s.data.toList _ HO1.out.byt (by show s.size ≤ _; omega)).mono ?_
  rintro e w' ⟨rfl, rfl⟩
  rw [Hp.out]
  go_wp2
  clear d0 d1 d2 hcv1 hcv2 HO1 HB1
  go_loopw [6] (fun v wr => ∃ (k g cap : Nat), s.size + k ≤ n ∧ v = .slice (some ⟨g, 0, none⟩) (s.size + k) cap ∧ Hid (OwnB wr w.heap.size (.slice (some ⟨g, 0, none⟩) (s.size + k) cap) (s.data.toList ++ List.replicate k 32)) ∧ Hid (Below w.heap.size w wr)) (fun v _ => n - slLen v)
  case atStart => exact ⟨0, _, _, by omega, rfl, by simpa using HO2, HB2⟩
  case round =>
    clear HO2 HB2
    obtain ⟨k, g, cap, hk, rfl, HO, HB⟩ := hrel
    by_cases hlt : s.size + k < n
    · have hlit : Byt (wr.alloc (.cells #[.int .u8 32] 5)) (.slice (some ⟨wr.heap.size, 0, none⟩) 1 1) [32] := by
        refine ⟨_, 1, rfl, Nat.le_refl _, fun _ => ⟨wr.heap.size, 0, rfl, by simp, fun j hj => ?_⟩⟩
        simp at hj; subst hj; simp
      have hlenk : (s.data.toList ++ List.replicate k (32 : UInt8)).length = s.size + k := by rw [List.length_append, List.length_replicate]; rfl
      obtain ⟨v', w', hrun, hO', hB'⟩ := run_append_ownb _ w.heap.size _ _ _ [32] 23 (HO.out.alloc (.cells #[.int .u8 32] 5)) hlit (by simp; have := HB.out.size; omega) (by rw [hlenk]; simp; omega)
      have hO2 : OwnB w' w.heap.size v' (s.data.toList ++ List.replicate (k + 1) 32) := by
        rw [List.replicate_succ', ← List.append_assoc]; exact hO'
      obtain ⟨g', cap', hv', -⟩ := id hO2
      have hl2 : (s.data.toList ++ List.replicate (k + 1) (32 : UInt8)).length = s.size + (k + 1) := by rw [List.length_append, List.length_replicate]; rfl
      rw [hl2] at hv'
      subst hv'
      have HO' := Lib.hid hO2
      have HB' := Lib.hid ((HB.out.alloc HB.out.size _).trans hB')
      have Hrun := Lib.hid hrun
      clear hO' hB' hO2 hrun hlit hlenk hl2
      go_wp2_with (at_builtin; refine wpList_append_run rfl (.tmp 29) (.tmp 30) 23 23 rfl _ _ _ w' rfl rfl Hrun.out ?_)
      go_roundw
      case rel => exact ⟨k + 1, g', cap', by omega, rfl, HO', HB'⟩
      case measure => simp [slLen]; omega
    · have He := Lib.hid (show k = n - s.size by omega)
      go_wp2
      go_ret2
      exact ⟨_, rfl, by rw [← He.out]; exact HO.out.byt, HB.out⟩

set_option maxRecDepth 100000 in
theorem refPad_any (s : ByteArray) (n : Int) (w : World) (hs : s.size ≤ 9223372036854775807) : Calls Tryd.prog 22 #[.string s, .int .i64 n] w (BytErr w (padL s.data.toList n) (padE s.data.toList n)) := by
  have hlen : s.data.toList.length = s.size := rfl
  by_cases h0 : n < 0
  · have hz : padL s.data.toList n = [] ∧ padE s.data.toList n = 2 := ⟨if_pos (.inl h0), if_pos (.inl h0)⟩
    have HZ := Lib.hid hz; clear hz hlen
    go_enter Tryd.func22, Tryd.ntmps22
    go_wp2
    go_ret2
    exact ⟨_, by rw [HZ.out.2]; rfl, by rw [HZ.out.1]; exact Byt.none _, Below.refl _ _⟩
  · have h0' : 0 ≤ n := by omega
    obtain ⟨cap1, hge1, hcv1⟩ := bytes_of s w
    obtain ⟨W1, hW1⟩ : ∃ W1, W1 = (w.alloc (.cells (bytesRow s cap1) 5 ((bytesRow s cap1).size, (bytesRow s cap1).size + 1))).drew := ⟨_, rfl⟩
    have HO1 := Lib.hid (show OwnB W1 w.heap.size (.slice (some ⟨w.heap.size, 0, none⟩) s.size cap1) s.data.toList by rw [hW1]; exact ownb_string w s cap1 _ hge1 (Nat.le_refl _))
    have HB1 := Lib.hid (show Below w.heap.size w W1 by rw [hW1]; exact ((Below.refl _ _).alloc (Nat.le_refl _) _).drew)
    rw [← hW1] at hcv1
    clear hW1
    cases hp : plainL s.data.toList with
    | false =>
      have hz : padL s.data.toList n = [] ∧ padE s.data.toList n = 2 := ⟨if_pos (.inr hp), if_pos (.inr hp)⟩
      have HZ := Lib.hid hz; clear hz hlen h0
      have Hp := Lib.hid hp; clear hp
      go_enter Tryd.func22, Tryd.ntmps22
      go_wp2_with fail
      refine (refPlain_any _ s.data.toList _ HO1.out.byt hs).mono ?_
      rintro e w' ⟨rfl, rfl⟩
      rw [Hp.out]
      go_wp2
      go_ret2
      exact ⟨_, by rw [HZ.out.2]; rfl, by rw [HZ.out.1]; exact Byt.none _, HB1.out⟩
    | true =>
      have hne : ¬ (n < 0 ∨ plainL s.data.toList = false) := by rw [hp]; simp; omega
      by_cases h1 : n < s.size ∨ 1048576 < n
      · have hz : padL s.data.toList n = [] ∧ padE s.data.toList n = 5 := ⟨by unfold padL; rw [if_neg hne, if_pos (by rw [hlen]; exact h1)], by unfold padE; rw [if_neg hne, if_pos (by rw [hlen]; exact h1)]⟩
        have HZ := Lib.hid hz; clear hz hlen h0 hne
        have Hp := Lib.hid hp; clear hp
        by_cases h2 : n < s.size
        · clear h1
          go_enter Tryd.func22, Tryd.ntmps22
          go_wp2_with fail
          refine (refPlain_any _ s.data.toList _ HO1.out.byt hs).mono ?_
          rintro e w' ⟨rfl, rfl⟩
          rw [Hp.out]
          go_wp2
          go_ret2
          exact ⟨_, by rw [HZ.out.2]; rfl, by rw [HZ.out.1]; exact Byt.none _, HB1.out⟩
        · have h2' : (s.size : Int) ≤ n := by omega
          have h3 : 1048576 < n := by omega
          clear h1 h2
          go_enter Tryd.func22, Tryd.ntmps22
          go_wp2_with fail
          refine (refPlain_any _ s.data.toList _ HO1.out.byt hs).mono ?_
          rintro e w' ⟨rfl, rfl⟩
          rw [Hp.out]
          go_wp2
          go_ret2
          exact ⟨_, by rw [HZ.out.2]; rfl, by rw [HZ.out.1]; exact Byt.none _, HB1.out⟩
      · obtain ⟨m, rfl⟩ := Int.eq_ofNat_of_zero_le h0'
        have hz : padL s.data.toList (m : Int) = s.data.toList ++ List.replicate (m - s.size) 32 ∧ padE s.data.toList (m : Int) = 0 := ⟨by unfold padL; rw [if_neg hne, if_neg (by rw [hlen]; exact h1), hlen, Int.toNat_natCast], by unfold padE; rw [if_neg hne, if_neg (by rw [hlen]; exact h1)]⟩
        rw [hz.1, hz.2]
        exact refPad_ok s m w hp (by omega) (by omega)

theorem byt_take {w : World} {l : List UInt8} {A : Option Addr} {c m : Nat} (h : Byt w (.slice A l.length c) l) (hm : m ≤ l.length) : Byt w (.slice A m c) (l.take m) := by
  obtain ⟨A', c', he, hc, hr⟩ := h
  cases he
  have hl : (l.take m).length = m := by rw [List.length_take]; omega
  refine ⟨_, c, by rw [hl], by omega, fun h0 => ?_⟩
  obtain ⟨g, o, rfl, hg, hcell⟩ := hr (by omega)
  refine ⟨g, o, rfl, hg, fun j hj => ?_⟩
  rw [hl] at hj
  rw [hcell j (by omega)]
  simp
theorem take_last (l : List UInt8) (m : Nat) (h : m < l.length) : l.take (m + 1) = l.take m ++ [l[m]] := by rw [List.take_succ_eq_append_getElem h]
set_option maxRecDepth 100000 in
theorem refText_any (v : Value) (l : List UInt8) (w : World) (h : Byt w v l) (hl : l.length ≤ 9223372036854775807) : Calls Tryd.prog 24 #[v] w fun e w' => e = .returned (.tuple #[.string ⟨(textL l).toArray⟩, .int .i64 (textE l)]) ∧ w = w' := by
  have HB := Lib.hid h
  obtain ⟨A, c, rfl, hc, hr⟩ := h
  have Hr := Lib.hid hr; clear hr
  cases hp : plainL l with
  | false =>
    have hz : textL l = [] ∧ textE l = 2 := ⟨if_neg (by rw [hp]; decide), if_neg (by rw [hp]; decide)⟩
    have HZ := Lib.hid hz; clear hz
    have Hp := Lib.hid hp; clear hp
    go_enter Tryd.func24, Tryd.ntmps24
    go_wp2_with fail
    refine (refPlain_any _ l _ HB.out hl).mono ?_
    rintro e w' ⟨rfl, rfl⟩
    rw [Hp.out]
    go_wp2
    go_ret2
    exact ⟨by rw [HZ.out.1, HZ.out.2]; rfl, rfl⟩
  | true =>
    have hz : textL l = trimL l ∧ textE l = 0 := ⟨if_pos hp, if_pos hp⟩
    have HZ := Lib.hid hz; clear hz
    have Hp := Lib.hid hp; clear hp
    go_enter Tryd.func24, Tryd.ntmps24
    go_wp2_with fail
    refine (refPlain_any _ l _ HB.out hl).mono ?_
    rintro e w' ⟨rfl, rfl⟩
    rw [Hp.out]
    go_wp2
    go_loop [4] (fun i => ∃ m : Nat, m ≤ l.length ∧ i = .int .i64 m ∧ Hid (trimL (l.take m) = trimL l)) (fun i => (intOf i).toNat)
    case atStart => exact ⟨l.length, Nat.le_refl _, rfl, by show trimL _ = _; rw [List.take_length]⟩
    case round =>
      obtain ⟨m, hm, rfl, HT⟩ := hrel
      have fin : ∀ k, k ≤ l.length → trimL l = l.take k → (convert 23 9 (.slice A k c)).run Tryd.prog w = .ok (.string ⟨(trimL l).toArray⟩) w := fun k hk he => by
        rw [he]; exact run_string 23 9 5 Tryd.underlying23 Tryd.underlying5 Tryd.underlying9 (byt_take HB.out hk)
      have Hfin := Lib.hid fin; clear fin
      rcases Nat.eq_zero_or_pos m with h0 | h0
      · subst h0
        have hst := Hfin.out 0 hm (by have := HT.out; rw [← this]; rfl)
        clear Hfin
        go_wp2
        go_ret2
        exact ⟨by rw [HZ.out.1, HZ.out.2]; rfl, rfl⟩
      · obtain ⟨k, rfl⟩ : ∃ k, m = k + 1 := ⟨m - 1, by omega⟩
        have hlt : k < l.length := by omega
        obtain ⟨g, o, rfl, hg, hcell⟩ := Hr.out (by omega)
        have hck := hcell k hlt
        clear hcell
        have hbound : l[k].toNat < 256 := l[k].toNat_lt
        cases he : ((l[k].toNat : Int) == 32) with
        | true =>
          have H2 : Hid (trimL (l.take k) = trimL l) := by
            have e32 : l[k] = 32 := by
              have := of_decide_eq_true he
              exact UInt8.toNat_inj.1 (by show l[k].toNat = 32; omega)
            have h := HT.out
            rw [take_last l k hlt, e32, trimL_snoc] at h
            exact h
          clear Hfin
          go_wp2
          go_round
          case rel => exact ⟨k, by omega, by go_num, H2⟩
          case measure => simp [intOf]
        | false =>
          have hst := Hfin.out (k + 1) hm (by
            have hne : l[k] ≠ 32 := fun e => by rw [e] at he; exact absurd he (by decide)
            have h := HT.out
            rw [take_last l k hlt, trimL_keep _ _ hne] at h
            rw [take_last l k hlt]; exact h.symm)
          clear Hfin
          go_wp2
          go_ret2
          exact ⟨by rw [HZ.out.1, HZ.out.2]; rfl, rfl⟩
end Go.Proofs.YtmolpnhgmdpdmaaDoor
