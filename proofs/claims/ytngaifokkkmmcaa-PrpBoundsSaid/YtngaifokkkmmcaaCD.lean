/- Build at the examples. Conditions stand in each theorem. -/
import Derived.Test.YtngaifokkkmmcaaCC
namespace Go.Proofs.Ytngaifokkkmmcaa
open Go.RowKit Go.Shelf
set_option linter.unusedVariables false
set_option maxHeartbeats 4000000
set_option maxRecDepth 100000
section
variable {w W : World} {b d cap : Nat} {m : Mm}
theorem kp_build1 (h : Kp w b d cap m4 W) :
    Calls Try.prog 15 #[.pointer (some ⟨b, 0, none⟩), .slice (some ⟨W.heap.size, 0, none⟩) 1 1, .slice (some ⟨W.heap.size + 1, 0, none⟩) 3 3, .int .i64 0, .int .i64 9000] ((W.alloc (.cells #[.int .u64 12272] 23)).alloc (.cells #[.int .u64 0, .int .u64 4096, .int .u64 8192] 23))
      fun e w' => e = .returned (.tuple #[.int .u64 0, .int .u64 12272, .int .i64 0]) ∧ Kp w b d cap m5 w' := by
  have hbl := h.1.lt
  have hdl := h.1.dlt
  have s1 : (W.alloc (.cells #[.int .u64 12272] 23)).heap.size = W.heap.size + 1 := World.size_alloc _ _
  have b2 : Below W.heap.size W ((W.alloc (.cells #[.int .u64 12272] 23)).alloc (.cells #[.int .u64 0, .int .u64 4096, .int .u64 8192] 23)) := (below_alloc W _).alloc (by omega) _
  have hl := (u64_lit W [12272] (by simp)).below (below_alloc (W.alloc (.cells #[.int .u64 12272] 23)) (.cells #[.int .u64 0, .int .u64 4096, .int .u64 8192] 23))
  have hp := u64_lit (W.alloc (.cells #[.int .u64 12272] 23)) [0, 4096, 8192] (by simp)
  rw [s1] at hp
  have hk := h.later b2
  obtain ⟨W0, hW0⟩ : ∃ W0, W0 = (W.alloc (.cells #[.int .u64 12272] 23)).alloc (.cells #[.int .u64 0, .int .u64 4096, .int .u64 8192] 23) := ⟨_, rfl⟩
  have hl : U64s W0 (.slice (some ⟨W.heap.size, 0, none⟩) 1 1) [12272] := by rw [hW0]; exact hl
  have hp : U64s W0 (.slice (some ⟨W.heap.size + 1, 0, none⟩) 3 3) [0, 4096, 8192] := by rw [hW0]; exact hp
  rw [← hW0] at hk ⊢
  refine (Build_go hk.1 m4_gm (.slice (some ⟨W.heap.size, 0, none⟩) 1 1) (.slice (some ⟨W.heap.size + 1, 0, none⟩) 3 3) [12272] 0 [4096, 8192] 0 9000 (by decide) (by decide) (by decide) (by decide) hl (by simp) (by simp [alst, aln]) hp
    (fun g hg => by simp only [Value.ownBlock, Option.some.injEq] at hg; omega) (by simp [cnt]) (by simp [aln]) (.ok (m5, 12272)) (fun W' v hb hv ho => ?_)).mono ?_
  · have hov : ∀ g, v.ownBlock = some g → ¬ (g = b ∨ g = d) := ho (fun g => g = b ∨ g = d) (fun g hg => by simp only [Value.ownBlock, Option.some.injEq] at hg; omega)
    refine further_go (hk.1.below hb) _ v 12272 [] [4096, 8192] (hl.below hb) hv (fun _ g hg => by simp only [Value.ownBlock, Option.some.injEq] at hg; omega) (by simp) (by simp) (by simp) (by simp [lsts, rm, te]) (by simp [lsts, rm, te]) (.ok m5) (fun W2 v2 hb2 hu2 ho2 => ?_)
    have e1 : ([12272] : List Nat).take (lsts 12272 ((([4096, 8192] : List Nat).length : Int) + 1)) = [12272] := by simp [lsts, rm, te]
    rw [e1] at hu2
    have e2 : wl1 m4 12272 [4096, 8192] = .ok m5 := by unfold wl1; rw [if_pos m5_chk]; rfl
    rw [← e2]
    exact writeLists_1 ((hk.1.below hb).below hb2) m4_gm v2 v 12272 [4096, 8192] hu2 (hv.below hb2) (fun _ => ho2) (fun _ => hov) (by simp)
  · rintro e w' ⟨rfl, hm, hc⟩
    exact ⟨rfl, hk.mv hm hc⟩
theorem kp_build2 (h : Kp w b d cap m W) (hG : Gm m) :
    Calls Try.prog 15 #[.pointer (some ⟨b, 0, none⟩), .slice (some ⟨W.heap.size, 0, none⟩) 1 1, .slice (some ⟨W.heap.size + 1, 0, none⟩) 4 4, .int .i64 0, .int .i64 13000] ((W.alloc (.cells #[.int .u64 12280] 23)).alloc (.cells #[.int .u64 0, .int .u64 4096, .int .u64 8192, .int .u64 4096] 23))
      fun e w' => e = .returned (.tuple #[.int .u64 0, .int .u64 0, .int .i64 7]) ∧ Kp w b d cap m w' := by
  have hbl := h.1.lt
  have hdl := h.1.dlt
  have s1 : (W.alloc (.cells #[.int .u64 12280] 23)).heap.size = W.heap.size + 1 := World.size_alloc _ _
  have b2 : Below W.heap.size W ((W.alloc (.cells #[.int .u64 12280] 23)).alloc (.cells #[.int .u64 0, .int .u64 4096, .int .u64 8192, .int .u64 4096] 23)) := (below_alloc W _).alloc (by omega) _
  have hl := (u64_lit W [12280] (by simp)).below (below_alloc (W.alloc (.cells #[.int .u64 12280] 23)) (.cells #[.int .u64 0, .int .u64 4096, .int .u64 8192, .int .u64 4096] 23))
  have hp := u64_lit (W.alloc (.cells #[.int .u64 12280] 23)) [0, 4096, 8192, 4096] (by simp)
  rw [s1] at hp
  have hk := h.later b2
  obtain ⟨W0, hW0⟩ : ∃ W0, W0 = (W.alloc (.cells #[.int .u64 12280] 23)).alloc (.cells #[.int .u64 0, .int .u64 4096, .int .u64 8192, .int .u64 4096] 23) := ⟨_, rfl⟩
  have hl : U64s W0 (.slice (some ⟨W.heap.size, 0, none⟩) 1 1) [12280] := by rw [hW0]; exact hl
  have hp : U64s W0 (.slice (some ⟨W.heap.size + 1, 0, none⟩) 4 4) [0, 4096, 8192, 4096] := by rw [hW0]; exact hp
  rw [← hW0] at hk ⊢
  refine (Build_go hk.1 hG (.slice (some ⟨W.heap.size, 0, none⟩) 1 1) (.slice (some ⟨W.heap.size + 1, 0, none⟩) 4 4) [12280] 0 [4096, 8192, 4096] 0 13000 (by decide) (by decide) (by decide) (by decide) hl (by simp) (by simp [alst, aln]) hp
    (fun g hg => by simp only [Value.ownBlock, Option.some.injEq] at hg; omega) (by simp [cnt]) (by simp [aln]) (.error 7) (fun W' v hb hv ho => ?_)).mono ?_
  · exact further_full _ v 12280 [] [4096, 8192, 4096] (hl.below hb) hv (by simp) (by simp) (by simp) (by simp [lsts, rm, te])
  · rintro e w' ⟨rfl, hb⟩
    exact ⟨rfl, hk.later hb⟩
end
end Go.Proofs.Ytngaifokkkmmcaa
