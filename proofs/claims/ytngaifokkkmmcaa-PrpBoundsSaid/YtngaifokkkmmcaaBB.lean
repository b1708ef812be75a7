/- The contract of encode. Conditions stand in each theorem. -/
import Derived.Test.YtngaifokkkmmcaaBA
namespace Go.Proofs.Ytngaifokkkmmcaa
open Go.RowKit
set_option linter.unusedVariables false
set_option maxHeartbeats 2000000
set_option maxRecDepth 100000
theorem own_below {w w' : World} {base e sz n : Nat} {v : Value} {xs : List Value} (h : w.ownsRow base e sz v n xs) (hb : Below w.heap.size w w') : w'.ownsRow base e sz v n xs := by
  refine ⟨h.1, ?_⟩
  rcases h.2 with h0 | ⟨g, c2, cur, e0, h1, h2, h3⟩
  · exact .inl h0
  · exact .inr ⟨g, c2, cur, e0, h1, (hb.block g (Array.getElem?_eq_some_iff.1 h2).1).trans h2, h3⟩
section
attribute [local go_sem ↓ 100000] loadA_eq storeA_eq
theorem encode_any (v : Value) (xs : List Nat) (w : World) (h : U64s w v xs) (hm : xs.length ≤ 100000) : Calls Try.prog 70 #[v] w fun e w' => (∃ A c, e = .returned (.slice A (xs.length * 8) c) ∧ w'.ownsRow w.heap.size 5 1 (.slice A (xs.length * 8) c) (xs.length * 8) (bv (enc xs))) ∧ Below w.heap.size w w' := by
  obtain ⟨A, c, rfl, hc, hx, hr⟩ := h
  have HR := Lib.hid hr
  have HX := Lib.hid (fun j (hj : j < xs.length) => hx _ (List.getElem_mem hj))
  have HA := Lib.hid addressOf_any
  have HM := Lib.hid hm
  have hmi : (xs.length : Int) ≤ 100000 := by omega
  clear hr hx hm
  go_enter Try.func70, Try.ntmps70
  go_wp2
  go_loopw [3, 9] (fun v i wr => ∃ k : Nat, k ≤ xs.length ∧ i = .int .i64 (k : Int) ∧ Hid (∃ A c, v = .slice A (k * 8) c) ∧ Hid (wr.ownsRow w.heap.size 5 1 v (k * 8) (bv (enc (xs.take k)))) ∧ Hid (Below w.heap.size w wr)) (fun _ i _ => xs.length - (RowKit.intOf i).toNat)
  case atStart => exact ⟨0, Nat.zero_le _, rfl, Lib.hid ⟨none, 0, rfl⟩, Lib.hid (World.ownsRow_nil _ _ _ _), Lib.hid (Below.refl _ _)⟩
  case round =>
    obtain ⟨k, hk, rfl, HF, HO, HB⟩ := hrel
    obtain ⟨A2, c2, rfl⟩ := HF.out
    by_cases hlt : k < xs.length
    · obtain ⟨g, o, rfl, hg, hcell⟩ := HR.out (by omega)
      have c1 := (HB.out.cell (p := ⟨g, o + k, none⟩) hg).trans (hcell k hlt)
      have hx := HX.out k hlt
      have hes := enc_snoc xs k hlt
      obtain ⟨x, hxe⟩ : ∃ x, x = xs[k] := ⟨_, rfl⟩
      rw [← hxe] at c1 hx hes
      have HES := Lib.hid hes
      have HAx := Lib.hid (fun W => HA.out x hx W)
      have hki : (k : Int) < (xs.length : Int) := by omega
      clear hxe hcell hx hes
      go_wp2_with fail
      refine (HAx.out _).mono ?_
      rintro e w1 ⟨rfl, hb⟩
      have HB1 := Lib.hid (HB.out.trans (hb.mono HB.out.size))
      have HO1 := Lib.hid (own_below HO.out hb)
      have hst := storeA_run (heap_alloc_new w1 (.cells #[.int .u8 0, .int .u8 0, .int .u8 0, .int .u8 0, .int .u8 0, .int .u8 0, .int .u8 0, .int .u8 0] 121)) rfl (av_size x) (av_one x)
      have h3 := setRow_heap (w1.alloc (.cells #[.int .u8 0, .int .u8 0, .int .u8 0, .int .u8 0, .int .u8 0, .int .u8 0, .int .u8 0, .int .u8 0] 121)) w1.heap.size _ (av x) 121 _ (heap_alloc_new w1 _)
      have hB := below_setRow ((below_alloc w1 (.cells #[.int .u8 0, .int .u8 0, .int .u8 0, .int .u8 0, .int .u8 0, .int .u8 0, .int .u8 0, .int .u8 0] 121))) (Nat.le_refl _) (av x)
      obtain ⟨W3, hW3⟩ : ∃ W3, W3 = (w1.alloc (.cells #[.int .u8 0, .int .u8 0, .int .u8 0, .int .u8 0, .int .u8 0, .int .u8 0, .int .u8 0, .int .u8 0] 121)).setRow w1.heap.size (av x) := ⟨_, rfl⟩
      rw [← hW3] at hst h3 hB
      have HO3 := Lib.hid (own_below HO1.out hB)
      have HB3 := Lib.hid (HB1.out.trans (hB.mono HB1.out.size))
      have HBy : Hid (Byt W3 (.slice (some ⟨w1.heap.size, 0, none⟩) 8 8) (putB x 8)) := Lib.hid (byt_arr (putB_length _ _) h3)
      clear hb hW3 h3 hB
      go_wp2_with (at_builtin; refine wpList_app rfl (.tmp 15) (.tmp 16) rfl w.heap.size (k * 8) _ _ (enc (xs.take k)) (putB x 8) rfl rfl HO3.out HBy.out ?c1 ?c2 ?_)
      case c1 => rw [putB_length]; have := HM.out; omega
      case c2 => exact HB3.out.size
      intro A5 c5 W5 H1 H2
      have HO5 : Hid (W5.ownsRow w.heap.size 5 1 (.slice A5 ((k + 1) * 8) c5) ((k + 1) * 8) (bv (enc (xs.take (k + 1))))) := Lib.hid (by
        have h := H1.out
        rw [putB_length] at h
        rw [HES.out, show (k + 1) * 8 = k * 8 + 8 by omega]
        exact h)
      have HB5 : Hid (Below w.heap.size w W5) := Lib.hid (HB3.out.grown H2.out HB3.out.size (fun j hj => (HO3.out.lt j hj).1))
      have hlen : k * 8 + (putB x 8).length = (k + 1) * 8 := by rw [putB_length]; omega
      rw [hlen]
      clear H1 H2 hlen
      go_wp2
      go_roundw
      case rel => exact ⟨k + 1, by omega, by go_num, Lib.hid ⟨_, _, rfl⟩, HO5, HB5⟩
      case measure => simp [RowKit.intOf]; omega
    · obtain rfl : k = xs.length := by omega
      have HO2 : Hid (wr.ownsRow w.heap.size 5 1 (.slice A2 (xs.length * 8) c2) (xs.length * 8) (bv (enc xs))) := Lib.hid (by
        have h := HO.out
        rw [List.take_length] at h
        exact h)
      go_wp2
      go_ret
      exact ⟨⟨_, _, rfl, HO2.out⟩, HB.out⟩
end
end Go.Proofs.Ytngaifokkkmmcaa
