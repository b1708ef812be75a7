/- The contract of Queues. Conditions stand in each theorem. -/
import Derived.Test.YtildofclgofjdaaQ
import Derived.Test.YtildofclgofjdaaLay
namespace Go.Proofs.Ytildofclgofjdaa
open Go.RowKit Go.Shelf
set_option linter.unusedVariables false
set_option maxHeartbeats 400000
set_option maxRecDepth 100000
theorem sortsA (m : Nat) : AnyZI.SortsIn Try.prog sortedA_ren Fence.wide m :=
  ⟨fun blk off cap ss W hH hblk hsz => callsIn_wide.2 (AnyM.slices_Sort_int sortA blk off cap ss W hH hblk hsz),
   fun p cap W => callsIn_wide.2 (AnyM.slices_Sort_int_none sortA p cap W)⟩
theorem keys_L {w : World} {m n : Nat} {D : DataW Unit} {L : List (Int × Int)} (hown : w.ownsMap Try.prog 3 (plainElem Try.prog 39) m n D) (hs : Srt L) (hq : ∀ q : Int, Maps.has D (.int .i64 q) = (look L q).isSome) : (L.map (·.1)).Perm (intKeys D) := by
  refine CollectedI.perm (left := fun _ => false) ⟨?_, fun x => ?_⟩ hown law Try.underlying3 (fun _ => rfl)
  · exact (List.pairwise_map.2 (hs.1.imp fun {a b} h => by omega))
  · rw [hq x, List.mem_map]
    constructor
    · rintro ⟨p, hp, rfl⟩
      refine ⟨?_, rfl⟩
      have e : look L p.1 = some p.2 := look_of_mem hs (by exact hp)
      rw [e]; rfl
    · rintro ⟨h, _⟩
      cases e : look L x with
      | none => rw [e] at h; cases h
      | some c => exact ⟨_, look_mem e, rfl⟩
theorem sort_L {L : List (Int × Int)} (hs : Srt L) {ss : List Int} (h : ss.Perm (L.map (·.1))) : ss.mergeSort (fun x y => decide (x ≤ y)) = L.map (·.1) := by
  rw [mergeSort_of_perm_i h]
  refine List.mergeSort_of_pairwise ?_
  exact List.pairwise_map.2 (hs.1.imp fun {a b} h => by simp [leI]; omega)
theorem It.of_row {W : World} {lo base B4 B3 : Nat} {v : Value} {L : List (Int × Int)} {n : Nat} (hs : Srt L) (ho : W.ownsRow base 3 1 v n ((L.map (·.1)).map encZ)) (h4 : W.cell? ⟨B4, 0, none⟩ = some v) (hm : 0 < L.length → ∃ mc, lo ≤ mc ∧ W.cell? ⟨B3, 0, none⟩ = some (.map (some mc)) ∧ Mp W mc L) (h3 : lo ≤ B3 ∧ B3 < W.heap.size) (h4' : lo ≤ B4) (hbase : lo ≤ base) : It lo W.heap.size W B4 B3 L := by
  have hn : n = L.length := by have := ho.1; simp at this; omega
  subst hn
  refine ⟨⟨h4', World.block_lt_of_cell? W _ h4⟩, h3, hs, ?_, fun h0 => ?_⟩
  · rcases ho.2 with ⟨rfl, h0⟩ | ⟨g, cap, cur, rfl, hbg, hg, hnc, _, hsz, htk⟩
    · exact ⟨none, 0, by rw [h0]; exact h4, fun h => absurd h (by omega)⟩
    · refine ⟨_, cap, h4, fun h0 => ⟨g, 0, rfl, Nat.le_trans hbase hbg, (Array.getElem?_eq_some_iff.1 hg).1, fun j hj => ?_⟩⟩
      rw [Nat.zero_add, cell_of_row W g j cur 3 (0, 0) hg]
      have hx : ((L.map (·.1)).map encZ)[j]? = some (.int .i64 L[j].1) := by simp [encZ, hj]
      rw [← htk, List.getElem?_take_of_lt (by omega)] at hx
      simpa using hx
  · obtain ⟨mc, h0', h1, h2⟩ := hm h0
    exact ⟨mc, h0', h2.lt, h1, h2⟩
/-- What Queues leaves: an iterator over L. -/
def QPost (w : World) (L : List (Int × Int)) (e : Ending) (w' : World) : Prop := ∃ B4 B3, e = .returned (.func (.func 43) #[] #[.pointer (some ⟨B4, 0, none⟩), .pointer (some ⟨B3, 0, none⟩)]) ∧ It w.heap.size w'.heap.size w' B4 B3 L ∧ Below w.heap.size w w'
theorem cKeys (mb : Option Nat) (W : World) : CallsIn Fence.wide 7 Try.prog 42 #[.map mb] W fun e w' => e = .returned (.func (.func 55) #[] #[.pointer (some ⟨W.heap.size, 0, none⟩)]) ∧ w' = W.alloc (.cells #[.map mb] 68) := AnyZI.keys_in keysA Fence.wide 7 trivial rfl mb W
theorem cSorted (W : World) (mc : Nat) (L : List (Int × Int)) (hm : Mp W mc L) (hs : Srt L) : CallsIn Fence.wide 7 Try.prog 41 #[.func (.func 55) #[] #[.pointer (some ⟨W.heap.size, 0, none⟩)]] (W.alloc (.cells #[.map (some mc)] 68)) fun e w' =>
    ∃ v, e = .returned v ∧ w'.ownsRow (W.heap.size + 1) 3 1 v L.length ((L.map (·.1)).map encZ) ∧ Below (W.heap.size + 1) (W.alloc (.cells #[.map (some mc)] 68)) w' := by
  obtain ⟨D, hown, hq⟩ := hm
  have hbl := hown.lt
  have hlen := hs.len
  have hsz := hown.size_le
  have hown2 : (W.alloc (.cells #[.map (some mc)] 68)).ownsMap Try.prog 3 (plainElem Try.prog 39) mc L.length D := hown.alloc _
  have hseq : SeqGives Fence.wide 4 Try.prog 55 #[.pointer (some ⟨W.heap.size, 0, none⟩)] encZ (fun ss => ss.Perm (intKeys D)) (Maps.size D) (W.alloc (.cells #[.map (some mc)] 68)) :=
    AnyZI.keys_gives (ρ := keysA_ren) { keysA with } Fence.wide _ trivial rfl (by omega) W.heap.size mc L.length D _ (by simp) (by simp) hown2
  have cS := AnyZI.sorted_in sortedA Fence.wide 7 trivial trivial trivial trivial rfl (by omega) (sortsA _) (enters_of Try.func54 (by kernel_rfl) rfl) 55 #[.pointer (some ⟨W.heap.size, 0, none⟩)] trivial (enters_of Try.func55 (by kernel_rfl) rfl) _ _ (by unfold maxLen; omega) (by omega) _ hseq
  change CallsIn _ _ Try.prog 41 _ _ _ at cS
  refine cS.mono ?_
  rintro e w' ⟨v, ss, rfl, hp, hrow, hnil, hb⟩
  have hp2 := hp.trans (keys_L hown hs (fun q => (hq q).1)).symm
  rw [sort_L hs hp2] at hrow
  have hl : ss.length = L.length := by rw [hp2.length_eq]; simp
  rw [hl] at hrow
  rw [World.size_alloc] at hrow hb
  exact ⟨v, rfl, hrow, hb⟩
theorem cSorted_nil (W : World) : CallsIn Fence.wide 7 Try.prog 41 #[.func (.func 55) #[] #[.pointer (some ⟨W.heap.size, 0, none⟩)]] (W.alloc (.cells #[.map none] 68)) fun e w' =>
    e = .returned (.slice none 0 0) ∧ Below (W.heap.size + 1) (W.alloc (.cells #[.map none] 68)) w' := by
  have hseq : SeqGives Fence.wide 4 Try.prog 55 #[.pointer (some ⟨W.heap.size, 0, none⟩)] encZ (fun ss : List Int => ss = []) 0 (W.alloc (.cells #[.map none] 68)) :=
    AnyZI.keys_gives_nil (ρ := keysA_ren) { keysA with } Fence.wide _ trivial rfl W.heap.size _ (by simp) (by simp)
  have cS := AnyZI.sorted_in sortedA Fence.wide 7 trivial trivial trivial trivial rfl (by omega) (sortsA _) (enters_of Try.func54 (by kernel_rfl) rfl) 55 #[.pointer (some ⟨W.heap.size, 0, none⟩)] trivial (enters_of Try.func55 (by kernel_rfl) rfl) _ 0 (Nat.zero_le _) (by omega) _ hseq
  change CallsIn _ _ Try.prog 41 _ _ _ at cS
  refine cS.mono ?_
  rintro e w' ⟨v, ss, rfl, rfl, hrow, hnil, hb⟩
  rw [World.size_alloc] at hb
  exact ⟨by rw [hnil.2 rfl], hb⟩
theorem Mp.moved {w W : World} {m mc : Nat} {L : List (Int × Int)} (h : Mp w m L) (hb : W.heap[mc]? = w.heap[m]?) : Mp W mc L := by
  obtain ⟨D, ⟨es, c, hm, r⟩, hq⟩ := h
  exact ⟨D, ⟨es, c, hb.trans hm, r⟩, hq⟩
set_option maxHeartbeats 2000000 in
theorem Queues_any (b m : Nat) (s : St) (w : World) (h : Arb w b m s) (hs : Srt s.L) : Calls Try.prog 20 #[.pointer (some ⟨b, 0, none⟩)] w (QPost w s.L) := by
  refine (callsIn_wide (n := 8)).1 ?_
  have k5 := h.cMap
  have hbl := h.lt
  obtain ⟨es, clock, hes⟩ := h.map.isMap
  have HES := Lib.hid hes
  have H := Lib.hid h
  have HS := Lib.hid hs
  clear h hs hes
  have f30 : Fence.wide.fn 30 := trivial
  have f40 : Fence.wide.fn 40 := trivial
  have f41 : Fence.wide.fn 41 := trivial
  have f42 : Fence.wide.fn 42 := trivial
  have hcl : (w.alloc (.cells #[.map none] 68)).heap[m]? = some (.map es clock) := (Below.heap_alloc _ _ _ H.out.map.lt).trans HES.out
  have HCL := Lib.hid (AnyW.maps_Clone cloneA m es clock (w.alloc (.cells #[.map none] 68)) hcl)
  change Hid (Calls Try.prog 40 _ _ _) at HCL
  rw [World.size_alloc] at HCL
  have k6 := (H.out.below (below_alloc w (.cells #[.map none] 68))).cMap
  have hMp : Mp ((w.alloc (.cells #[.map (some (w.heap.size + 1))] 68)).alloc (.map es clock)) (w.heap.size + 1) s.L := by
    refine H.out.map.moved ?_
    have := heap_alloc_new (w.alloc (.cells #[.map (some (w.heap.size + 1))] 68)) (.map es clock)
    rw [World.size_alloc] at this
    exact this.trans HES.out.symm
  have HMP := Lib.hid hMp
  have hso := cSorted _ _ _ hMp HS.out
  simp only [World.size_alloc] at hso
  have HSO := Lib.hid hso
  clear hcl hMp hso
  refine callsIn_of_wp Try.func20 rfl trivial ?_ rfl
  simp only [Try.ntmps20, List.size_toArray, List.length_cons, List.length_nil, Nat.reduceAdd, Nat.reduceSub, Array.replicate_succ, Array.replicate_zero, List.push_toArray, List.append_toArray, List.nil_append, List.cons_append]
  gi_wp2_with (first
    | (gi_at_call 30; refine (callsIn_wide.2 (missing_not _ m _ k6)).mono ?_; rintro e w' ⟨rfl, rfl⟩)
    | (gi_at_call 40; refine (callsIn_wide.2 HCL.out).mono ?_; rintro e w' ⟨rfl, rfl⟩)
    | (gi_at_call 42; refine (cKeys _ _).mono ?_; rintro e w' ⟨rfl, rfl⟩)
    | ((gi_at_call 41; with_reducible refine HSO.out.mono ?_); rintro e w5 ⟨v, rfl, hrow, hb⟩; have HROW := Lib.hid hrow; have HB := Lib.hid hb; obtain ⟨A9, c9, x9⟩ := own_form hrow; subst x9; clear hrow hb))
  go_ret
  have h0 : Below (w.heap.size + 1 + 1) ((w.alloc (.cells #[.map (some (w.heap.size + 1))] 68)).alloc (.map es clock)) w5 := ((Below.refl _ _).alloc (by simp) _).trans (HB.out.mono (by omega))
  have hB : Below w.heap.size w w5 := (((Below.refl w.heap.size w).alloc (Nat.le_refl _) _).alloc (by simp) _).trans (h0.mono (by omega))
  refine ⟨w5.heap.size, w.heap.size, rfl, It.of_row HS.out (HROW.out.alloc _) (by simp) (fun _ => ⟨w.heap.size + 1, by omega, ?_, ?_⟩) ⟨Nat.le_refl _, ?_⟩ hB.size (by omega), hB.alloc hB.size _⟩
  · exact ((below_alloc w5 _).cell (p := ⟨w.heap.size, 0, none⟩) (by have := h0.size; simp at this; show w.heap.size < w5.heap.size; omega)).trans ((h0.cell (p := ⟨w.heap.size, 0, none⟩) (by show w.heap.size < _; omega)).trans (by simp))
  · exact (HMP.out.kept (h0.block _ (by omega))).below (below_alloc w5 _)
  · have := hB.size
    simp
    omega
set_option maxHeartbeats 2000000 in
theorem Queues_none (p : Option Addr) (w : World) (hm : ∀ W, Below w.heap.size w W → Calls Try.prog 30 #[.pointer p] W fun e w' => e = .returned (.bool true) ∧ W = w') : Calls Try.prog 20 #[.pointer p] w (QPost w []) := by
  refine (callsIn_wide (n := 8)).1 ?_
  have HM := Lib.hid (hm _ (below_alloc w (.cells #[.map none] 68)))
  have f30 : Fence.wide.fn 30 := trivial
  have f41 : Fence.wide.fn 41 := trivial
  have f42 : Fence.wide.fn 42 := trivial
  have hso := cSorted_nil (w.alloc (.cells #[.map none] 68))
  simp only [World.size_alloc] at hso
  have HSO := Lib.hid hso
  clear hm hso
  refine callsIn_of_wp Try.func20 rfl trivial ?_ rfl
  simp only [Try.ntmps20, List.size_toArray, List.length_cons, List.length_nil, Nat.reduceAdd, Nat.reduceSub, Array.replicate_succ, Array.replicate_zero, List.push_toArray, List.append_toArray, List.nil_append, List.cons_append]
  gi_wp2_with (first
    | (gi_at_call 30; refine (callsIn_wide.2 HM.out).mono ?_; rintro e w' ⟨rfl, rfl⟩)
    | (gi_at_call 42; refine (cKeys _ _).mono ?_; rintro e w' ⟨rfl, rfl⟩)
    | ((gi_at_call 41; with_reducible refine HSO.out.mono ?_); rintro e w5 ⟨rfl, hb⟩; have HB := Lib.hid hb; clear hb))
  go_ret
  have h0 : Below (w.heap.size + 1) (w.alloc (.cells #[.map none] 68)) w5 := ((Below.refl _ _).alloc (by simp) _).trans (HB.out.mono (by omega))
  have hB : Below w.heap.size w w5 := ((Below.refl w.heap.size w).alloc (Nat.le_refl _) _).trans (h0.mono (by omega))
  refine ⟨w5.heap.size, w.heap.size, rfl, It.of_row (v := .slice none 0 0) (base := w.heap.size) (n := 0) Srt.nil (World.ownsRow_nil _ _ _ _) (by simp) (fun h => absurd h (by simp)) ⟨Nat.le_refl _, ?_⟩ hB.size (Nat.le_refl _), hB.alloc hB.size _⟩
  have := hB.size
  simp
  omega
end Go.Proofs.Ytildofclgofjdaa
