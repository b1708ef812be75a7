/- The contract of Copy. Conditions stand in each theorem. -/
import Derived.Test.YtmnlkejhhdbhlaaP
import Derived.Deep.RegionWith
namespace Go.Proofs.Ytmnlkejhhdbhlaa
open Go.RowKit
set_option linter.unusedVariables false
set_option maxHeartbeats 8000000
set_option maxRecDepth 100000
attribute [local go_sem ↓ 100000] loadL_eq storeL_eq
/-- What a literal of a memory makes of a log's cells. -/
theorem fold_log (C : Array Value) (hC : C.size = 769) : ∃ F : Array Value, Array.foldl (fun (cs : Array Value) (x : Value × Nat) => cs.setIfInBounds x.snd x.fst) zMem C.zipIdx 0 769 = F ∧ F.size = 770 ∧ ∀ v, F.setIfInBounds 769 v = C.push v := by
  have e0 : Array.foldl (fun (cs : Array Value) (x : Value × Nat) => cs.setIfInBounds x.snd x.fst) zMem C.zipIdx 0 769 = C.zipIdx.foldl (fun (cs : Array Value) (p : Value × Nat) => cs.setIfInBounds (0 + p.2) p.1) zMem := by
    simp only [Nat.zero_add, Array.size_zipIdx, hC]
  obtain ⟨F, hF⟩ : ∃ F, F = C.zipIdx.foldl (fun (cs : Array Value) (p : Value × Nat) => cs.setIfInBounds (0 + p.2) p.1) zMem := ⟨_, rfl⟩
  have hFs : F.size = 770 := by rw [hF, arr_fold, fold_size, zMem_size]
  have hFg : ∀ i, i < 769 → F[i]? = C[i]? := fun i hi => by
    rw [hF, arr_fold, fold_get _ _ _ _ _ (by rw [zMem_size]; simp [hC]), if_neg (by omega), if_pos (by simp [hC]; omega)]
    simp
  refine ⟨F, by rw [e0, hF], hFs, fun v => ?_⟩
  apply Array.ext_getElem?
  intro i
  rw [Array.getElem?_setIfInBounds, Array.getElem?_push, hC]
  by_cases h2 : i = 769
  · subst h2; rw [if_pos rfl, if_pos (by omega), if_pos rfl]
  · rw [if_neg (by omega), if_neg h2]
    by_cases h3 : i < 769
    · exact hFg i h3
    · rw [Array.getElem?_eq_none (by omega), Array.getElem?_eq_none (by omega)]
theorem lg_push {C : Array Value} {L : List (Nat × Nat)} (hC : C.size = 769) (h : Lg C L) (v : Value) (hv : v.oneCell' = true) : Lg (C.push v) L :=
  ⟨by rw [Array.getElem?_push, hC, if_neg (by decide)]; exact h.next, fun u hu => by
    simp only [Array.toList_push, List.mem_append, List.mem_singleton] at hu
    rcases hu with hu | rfl
    · exact h.one u hu
    · exact hv, fun i hi hw => by
    have hr : i % 256 < 256 := Nat.mod_lt _ (by decide)
    rw [Array.getElem?_push, Array.getElem?_push, Array.getElem?_push, hC, if_neg (by omega), if_neg (by omega), if_neg (by omega)]
    exact h.ring i hi hw⟩
theorem Copy_any {w : World} {base b d cap : Nat} {m : Mm} (h : Mem w base b d cap m) (hG : Gm m) :
    Calls Try.prog 20 #[.pointer (some ⟨b, 0, none⟩)] w fun e w' => ∃ b' d' cap', e = .returned (.pointer (some ⟨b', 0, none⟩)) ∧ Mem w' w.heap.size b' d' cap' m ∧ Below w.heap.size w w' := by
  have HM := Lib.hid (missing_not h hG.pos)
  obtain ⟨c, hc, hs, hl, hd⟩ := h.blk
  have hld : (loadL ⟨b, 0, none⟩).run Try.prog w.drew = .ok (.agg (lgOf c)) w.drew := loadL_run (W := w.drew) hc hs
  have HLD := Lib.hid (fun W (hW : Below w.heap.size w W) => loadL_run ((hW.block b (Array.getElem?_eq_some_iff.1 hc).1).trans hc) hs)
  have HCl := Lib.hid (Clone_any d 0 cap m.B w.drew (h.byt.below (Below.refl _ w).drew) (by have := hG.max; omega))
  have HC : Hid ((lgOf c).size = 769 ∧ Lg (lgOf c) m.L) := Lib.hid ⟨lgOf_size hs, lg_of hs hl⟩
  have hC := lgOf_size hs
  have c1 := h.dcell
  have hz := zero62
  have hz1 := zMem_size
  have hblt := h.lt
  have hdx := fun W (hW : Below w.heap.size w W) => (hW.cell (p := ⟨b, 769, none⟩) hblt).trans c1
  have HDX := Lib.hid hdx
  obtain ⟨n, hn⟩ : ∃ n, n = m.B.length := ⟨_, rfl⟩
  have HN := Lib.hid hn
  rw [← hn] at c1 HCl HDX
  generalize lgOf c = C at *
  clear h hc hs hl hd hn hdx
  go_enter Try.func20, Try.ntmps20
  go_wp2_with ((go_at_call 35; with_reducible refine HM.out.mono ?_); rintro e w' ⟨rfl, rfl⟩)
  obtain ⟨F, hF, hFs, hFp⟩ := fold_log C hC
  have HFp := Lib.hid hFp
  clear hFp
  go_region_with ((go_at_call 38; with_reducible refine HCl.out.mono ?_); rintro e w1 ⟨⟨A, c3, rfl, ho⟩, hb⟩; have HO := Lib.hid ho; have HB := Lib.hid hb; have hld1 := HLD.out w1 ((Below.refl _ w).drew.trans hb); clear ho hb)
  all_goals
    go_wp2
    go_ret
    rw [HFp.out]
    have hb1 : Below w.heap.size w w1 := (Below.refl _ w).drew.trans HB.out
    have hpos := hG.pos
    rw [← HN.out] at hpos
    obtain ⟨d', cc, hgf, -, -⟩ := HO.out.form hpos
    simp only [Value.slice.injEq, true_and] at hgf
    obtain ⟨rfl, rfl⟩ := hgf
    have hbz := hb1.alloc hb1.size (.cells (C.push (.slice (some ⟨d', 0, none⟩) n c3)) 62)
    have hoz := own_same (w' := w1.alloc (.cells (C.push (.slice (some ⟨d', 0, none⟩) n c3)) 62)) HO.out fun g hg => (below_alloc w1 _).block g (HO.out.lt g hg).2
    refine ⟨w1.heap.size, d', c3, rfl, ⟨⟨_, heap_alloc_new w1 _, by rw [Array.size_push, HC.out.1], lg_push HC.out.1 HC.out.2 _ rfl, ?_⟩, ?_, hb1.size⟩, hbz⟩
    · rw [Array.getElem?_push, HC.out.1, if_pos rfl, HN.out]
    · have := HN.out
      subst this
      exact hoz
end Go.Proofs.Ytmnlkejhhdbhlaa
