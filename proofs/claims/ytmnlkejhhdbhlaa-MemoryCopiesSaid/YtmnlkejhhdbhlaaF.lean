/- The contracts of New, forget, Clear, change, Write, Fill. Conditions stand in each theorem. -/
import Derived.Test.YtmnlkejhhdbhlaaE
namespace Go.Proofs.Ytmnlkejhhdbhlaa
open Go.RowKit
set_option linter.unusedVariables false
set_option maxHeartbeats 1000000
set_option maxRecDepth 100000
attribute [local go_sem ↓ 100000] loadL_eq storeL_eq
section
variable {w : World} {base b d cap : Nat} {m : Mm}
theorem forget_any (h : Mem w base b d cap m) : Calls Try.prog 37 #[.pointer (some ⟨b, 0, none⟩)] w fun e w' => (∃ v, e = .returned v) ∧ Mem w' base b d cap { m with L := [] } ∧ Chg (· = b) w w' := by
  obtain ⟨c, hc, hs, hl, hd⟩ := h.blk
  have hst := storeL_run hc hs hd
  have HP : Hid (Mem (w.setRow b (zLog.push (.slice (some ⟨d, 0, none⟩) m.B.length cap))) base b d cap { m with L := [] } ∧ Chg (· = b) w (w.setRow b (zLog.push (.slice (some ⟨d, 0, none⟩) m.B.length cap)))) := Lib.hid (by
    have hb : (w.setRow b (zLog.push (.slice (some ⟨d, 0, none⟩) m.B.length cap))).heap[b]? = some (.cells (zLog.push (.slice (some ⟨d, 0, none⟩) m.B.length cap)) 62 (0, 0)) := setRow_heap w b c _ 62 _ hc
    have hch : Chg (· = b) w (w.setRow b (zLog.push (.slice (some ⟨d, 0, none⟩) m.B.length cap))) := ⟨rfl, rfl, rfl, by simp, fun k hk hn => setRow_other w b k _ hn⟩
    refine ⟨⟨⟨_, hb, by rw [Array.size_push, zLog_size], zLog_lg _ rfl, by rw [Array.getElem?_push, zLog_size, if_pos rfl]⟩, ?_, h.hb⟩, hch⟩
    refine ⟨h.dat.1, ?_⟩
    rcases h.dat.2 with ⟨e, _⟩ | ⟨g, c2, cur, e, h1, h2, h3⟩
    · cases e
    · have eg : g = d := by simp only [Value.slice.injEq, Option.some.injEq, Addr.mk.injEq] at e; exact e.1.1.symm
      exact .inr ⟨g, c2, cur, e, h1, (hch.block g (Array.getElem?_eq_some_iff.1 h2).1 (by rw [eg]; exact h.ne.symm)).trans h2, h3⟩)
  have hz := zero60
  clear h hc hs hl hd
  go_enter Try.func37, Try.ntmps37
  go_wp2
  go_end0
  exact ⟨⟨_, rfl⟩, HP.out⟩
theorem Clear_any (h : Mem w base b d cap m) (h0 : 0 < m.B.length) : Calls Try.prog 19 #[.pointer (some ⟨b, 0, none⟩)] w fun e w' => e = .returned (.int .i64 0) ∧ Mem w' base b d cap { m with L := [] } ∧ Chg (· = b) w w' := by
  have HM := Lib.hid (missing_not h h0)
  have HF := Lib.hid (forget_any h)
  have c1 := h.dcell
  clear h
  go_enter Try.func19, Try.ntmps19
  go_wp2
  go_step3
  go_wp2_with (first
    | ((go_at_call 35; with_reducible refine HM.out.mono ?_); rintro e w' ⟨rfl, rfl⟩)
    | ((go_at_call 37; with_reducible refine HF.out.mono ?_); rintro e w1 ⟨⟨v, rfl⟩, hp⟩; have HP := Lib.hid hp; clear hp))
  go_step3
  go_wp2
  rw [Exit.noGoto_ret]
  go_ret
  exact ⟨rfl, HP.out⟩
end
end Go.Proofs.Ytmnlkejhhdbhlaa
