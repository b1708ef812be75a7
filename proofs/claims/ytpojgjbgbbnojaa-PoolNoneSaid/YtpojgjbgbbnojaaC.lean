/- The contract of lowest at the three closures. Conditions stand in each theorem. -/
import Derived.Test.YtpojgjbgbbnojaaB
namespace Go.Proofs.Ytpojgjbgbbnojaa
open Go.RowKit
set_option linter.unusedVariables false
set_option maxHeartbeats 1000000
set_option maxRecDepth 100000
/-- What lowest has found among the first k blocks: the best, its rank, whether there is one. -/
def lw (rk : Blk → Int) (inn : Blk → Bool) (l : List Blk) : Nat → Nat × Int × Bool
  | 0 => (0, 0, false)
  | k + 1 => match l[k]? with
    | none => lw rk inn l k
    | some x => if inn x = true ∧ ((lw rk inn l k).2.2 = false ∨ rk x < (lw rk inn l k).2.1) then (k, rk x, true) else lw rk inn l k
theorem lw_yes {rk : Blk → Int} {inn : Blk → Bool} {l : List Blk} {k : Nat} (hk : k < l.length) (h : inn l[k] = true ∧ ((lw rk inn l k).2.2 = false ∨ rk l[k] < (lw rk inn l k).2.1)) : lw rk inn l (k + 1) = (k, rk l[k], true) := by
  unfold lw
  rw [List.getElem?_eq_getElem hk]
  exact if_pos h
theorem lw_no {rk : Blk → Int} {inn : Blk → Bool} {l : List Blk} {k : Nat} (hk : k < l.length) (h : ¬ (inn l[k] = true ∧ ((lw rk inn l k).2.2 = false ∨ rk l[k] < (lw rk inn l k).2.1))) : lw rk inn l (k + 1) = lw rk inn l k := by
  rw [lw]
  rw [List.getElem?_eq_getElem hk]
  exact if_neg h
/-- The result of lowest. -/
def LwP (w : World) (p : Nat × Int × Bool) (e : Ending) (w' : World) : Prop := e = .returned (.tuple #[.int .i64 (p.1 : Int), .bool p.2.2]) ∧ Below w.heap.size w w'
theorem Row.below {w w' : World} {g cap : Nat} {l : List Blk} (h : Row w g cap l) (hb : Below w.heap.size w w') : Row w' g cap l := h.keep (hb.block g h.lt)
theorem low57 (rk : Blk → Int) (inn : Blk → Bool) (g cap : Nat) (l : List Blk) (w : World) (h : Row w g cap l) (hl : l.length ≤ 4096) (q : Nat)
    (hf : ∀ k (hk : k < l.length) W, Below w.heap.size w W → Calls Try.prog 57 #[.agg #[.int .i64 l[k].er, .int .i64 l[k].st], .pointer (some ⟨q, 0, none⟩)] W (Ret W (.tuple #[.int .i64 (rk l[k]), .bool (inn l[k])]))) :
    Calls Try.prog 44 #[.slice (some ⟨g, 0, none⟩) l.length cap, .func (.func 57) #[] #[.pointer (some ⟨q, 0, none⟩)]] w (LwP w (lw rk inn l l.length)) := by
  have HR := Lib.hid h
  have HF := Lib.hid hf
  have hl2 : (l.length : Int) ≤ 4096 := by omega
  clear h hf
  go_enter Try.func44, Try.ntmps44
  go_wp2
  go_loopw [6, 7, 8, 15] (fun b n f i wr => ∃ k : Nat, k ≤ l.length ∧ i = .int .i64 k ∧ ∃ p : Nat × Int × Bool, b = .int .i64 (p.1 : Int) ∧ n = .int .i64 p.2.1 ∧ f = .bool p.2.2 ∧ Hid (lw rk inn l k = p) ∧ Hid (Below w.heap.size w wr)) (fun _ _ _ i _ => l.length - (RowKit.intOf i).toNat)
  case atStart => exact ⟨0, Nat.zero_le _, rfl, (0, 0, false), rfl, rfl, rfl, Lib.hid rfl, Lib.hid (Below.refl _ _)⟩
  case round =>
    obtain ⟨k, hk, rfl, p, rfl, rfl, rfl, HP, HB⟩ := hrel
    by_cases hlt : k < l.length
    · obtain ⟨c0, c1⟩ := (HR.out.below HB.out).at hlt
      have HFk := Lib.hid (fun W (hW : Below wr.heap.size wr W) => HF.out k hlt W (HB.out.trans (hW.mono HB.out.size)))
      have HY := Lib.hid (fun h => lw_yes (rk := rk) (inn := inn) hlt h)
      have HN := Lib.hid (fun h => lw_no (rk := rk) (inn := inn) hlt h)
      rw [HP.out] at HY HN
      generalize l[k] = x at *
      obtain ⟨er, st⟩ := x
      have hba := below_alloc wr (.cells #[.int .i64 er, .int .i64 st] 69)
      have HBA := Lib.hid hba
      clear hba
      cases hin : inn ⟨er, st⟩
      · have HE := Lib.hid (HN.out (by rw [hin]; exact fun h => absurd h.1 (by decide)))
        have HC := Lib.hid (HFk.out _ HBA.out)
        rw [hin] at HC
        clear HY HN HFk hin
        go_wp2_with ((go_at_call 57; with_reducible refine HC.out.mono ?_); rintro e w2 ⟨rfl, hb⟩; have HB2 := Lib.hid (HB.out.trans ((HBA.out.trans (hb.mono (by simp))).mono HB.out.size)); clear hb)
        go_roundw
        case rel => exact ⟨k + 1, by omega, by go_num, p, rfl, rfl, rfl, Lib.hid HE.out, HB2⟩
        case measure => simp [RowKit.intOf]; omega
      · have HC := Lib.hid (HFk.out _ HBA.out)
        rw [hin] at HC HY HN
        clear HFk hin
        obtain ⟨bst, lst, fnd⟩ := p
        dsimp only at HY HN
        generalize rk ⟨er, st⟩ = r at *
        have ht : (true = true) = True := by simp
        rw [ht, true_and] at HY HN
        cases fnd
        · have HE := Lib.hid (HY.out (.inl rfl))
          clear HY HN ht
          go_wp2_with ((go_at_call 57; with_reducible refine HC.out.mono ?_); rintro e w2 ⟨rfl, hb⟩; have HB2 := Lib.hid (HB.out.trans ((HBA.out.trans (hb.mono (by simp))).mono HB.out.size)); clear hb)
          go_roundw
          case rel => exact ⟨k + 1, by omega, by go_num, (k, r, true), rfl, rfl, rfl, Lib.hid HE.out, HB2⟩
          case measure => simp [RowKit.intOf]; omega
        · by_cases hr : r < lst
          · have HE := Lib.hid (HY.out (.inr hr))
            clear HY HN ht
            go_wp2_with ((go_at_call 57; with_reducible refine HC.out.mono ?_); rintro e w2 ⟨rfl, hb⟩; have HB2 := Lib.hid (HB.out.trans ((HBA.out.trans (hb.mono (by simp))).mono HB.out.size)); clear hb)
            go_roundw
            case rel => exact ⟨k + 1, by omega, by go_num, (k, r, true), rfl, rfl, rfl, Lib.hid HE.out, HB2⟩
            case measure => simp [RowKit.intOf]; omega
          · have HE := Lib.hid (HN.out (by rintro (h | h); exact absurd h (by decide); exact hr h))
            clear HY HN ht
            go_wp2_with ((go_at_call 57; with_reducible refine HC.out.mono ?_); rintro e w2 ⟨rfl, hb⟩; have HB2 := Lib.hid (HB.out.trans ((HBA.out.trans (hb.mono (by simp))).mono HB.out.size)); clear hb)
            go_roundw
            case rel => exact ⟨k + 1, by omega, by go_num, (bst, lst, true), rfl, rfl, rfl, Lib.hid HE.out, HB2⟩
            case measure => simp [RowKit.intOf]; omega
    · have hkl : k = l.length := by omega
      subst hkl
      go_wp2
      go_ret2
      exact ⟨by rw [HP.out]; rfl, HB.out⟩
theorem low45 (rk : Blk → Int) (inn : Blk → Bool) (g cap : Nat) (l : List Blk) (w : World) (h : Row w g cap l) (hl : l.length ≤ 4096) 
    (hf : ∀ k (hk : k < l.length) W, Below w.heap.size w W → Calls Try.prog 45 #[.agg #[.int .i64 l[k].er, .int .i64 l[k].st]] W (Ret W (.tuple #[.int .i64 (rk l[k]), .bool (inn l[k])]))) :
    Calls Try.prog 44 #[.slice (some ⟨g, 0, none⟩) l.length cap, .func (.func 45) #[] #[]] w (LwP w (lw rk inn l l.length)) := by
  have HR := Lib.hid h
  have HF := Lib.hid hf
  have hl2 : (l.length : Int) ≤ 4096 := by omega
  clear h hf
  go_enter Try.func44, Try.ntmps44
  go_wp2
  go_loopw [6, 7, 8, 15] (fun b n f i wr => ∃ k : Nat, k ≤ l.length ∧ i = .int .i64 k ∧ ∃ p : Nat × Int × Bool, b = .int .i64 (p.1 : Int) ∧ n = .int .i64 p.2.1 ∧ f = .bool p.2.2 ∧ Hid (lw rk inn l k = p) ∧ Hid (Below w.heap.size w wr)) (fun _ _ _ i _ => l.length - (RowKit.intOf i).toNat)
  case atStart => exact ⟨0, Nat.zero_le _, rfl, (0, 0, false), rfl, rfl, rfl, Lib.hid rfl, Lib.hid (Below.refl _ _)⟩
  case round =>
    obtain ⟨k, hk, rfl, p, rfl, rfl, rfl, HP, HB⟩ := hrel
    by_cases hlt : k < l.length
    · obtain ⟨c0, c1⟩ := (HR.out.below HB.out).at hlt
      have HFk := Lib.hid (fun W (hW : Below wr.heap.size wr W) => HF.out k hlt W (HB.out.trans (hW.mono HB.out.size)))
      have HY := Lib.hid (fun h => lw_yes (rk := rk) (inn := inn) hlt h)
      have HN := Lib.hid (fun h => lw_no (rk := rk) (inn := inn) hlt h)
      rw [HP.out] at HY HN
      generalize l[k] = x at *
      obtain ⟨er, st⟩ := x
      have hba := below_alloc wr (.cells #[.int .i64 er, .int .i64 st] 69)
      have HBA := Lib.hid hba
      clear hba
      cases hin : inn ⟨er, st⟩
      · have HE := Lib.hid (HN.out (by rw [hin]; exact fun h => absurd h.1 (by decide)))
        have HC := Lib.hid (HFk.out _ HBA.out)
        rw [hin] at HC
        clear HY HN HFk hin
        go_wp2_with ((go_at_call 45; with_reducible refine HC.out.mono ?_); rintro e w2 ⟨rfl, hb⟩; have HB2 := Lib.hid (HB.out.trans ((HBA.out.trans (hb.mono (by simp))).mono HB.out.size)); clear hb)
        go_roundw
        case rel => exact ⟨k + 1, by omega, by go_num, p, rfl, rfl, rfl, Lib.hid HE.out, HB2⟩
        case measure => simp [RowKit.intOf]; omega
      · have HC := Lib.hid (HFk.out _ HBA.out)
        rw [hin] at HC HY HN
        clear HFk hin
        obtain ⟨bst, lst, fnd⟩ := p
        dsimp only at HY HN
        generalize rk ⟨er, st⟩ = r at *
        have ht : (true = true) = True := by simp
        rw [ht, true_and] at HY HN
        cases fnd
        · have HE := Lib.hid (HY.out (.inl rfl))
          clear HY HN ht
          go_wp2_with ((go_at_call 45; with_reducible refine HC.out.mono ?_); rintro e w2 ⟨rfl, hb⟩; have HB2 := Lib.hid (HB.out.trans ((HBA.out.trans (hb.mono (by simp))).mono HB.out.size)); clear hb)
          go_roundw
          case rel => exact ⟨k + 1, by omega, by go_num, (k, r, true), rfl, rfl, rfl, Lib.hid HE.out, HB2⟩
          case measure => simp [RowKit.intOf]; omega
        · by_cases hr : r < lst
          · have HE := Lib.hid (HY.out (.inr hr))
            clear HY HN ht
            go_wp2_with ((go_at_call 45; with_reducible refine HC.out.mono ?_); rintro e w2 ⟨rfl, hb⟩; have HB2 := Lib.hid (HB.out.trans ((HBA.out.trans (hb.mono (by simp))).mono HB.out.size)); clear hb)
            go_roundw
            case rel => exact ⟨k + 1, by omega, by go_num, (k, r, true), rfl, rfl, rfl, Lib.hid HE.out, HB2⟩
            case measure => simp [RowKit.intOf]; omega
          · have HE := Lib.hid (HN.out (by rintro (h | h); exact absurd h (by decide); exact hr h))
            clear HY HN ht
            go_wp2_with ((go_at_call 45; with_reducible refine HC.out.mono ?_); rintro e w2 ⟨rfl, hb⟩; have HB2 := Lib.hid (HB.out.trans ((HBA.out.trans (hb.mono (by simp))).mono HB.out.size)); clear hb)
            go_roundw
            case rel => exact ⟨k + 1, by omega, by go_num, (bst, lst, true), rfl, rfl, rfl, Lib.hid HE.out, HB2⟩
            case measure => simp [RowKit.intOf]; omega
    · have hkl : k = l.length := by omega
      subst hkl
      go_wp2
      go_ret2
      exact ⟨by rw [HP.out]; rfl, HB.out⟩
theorem low47 (rk : Blk → Int) (inn : Blk → Bool) (g cap : Nat) (l : List Blk) (w : World) (h : Row w g cap l) (hl : l.length ≤ 4096) 
    (hf : ∀ k (hk : k < l.length) W, Below w.heap.size w W → Calls Try.prog 47 #[.agg #[.int .i64 l[k].er, .int .i64 l[k].st]] W (Ret W (.tuple #[.int .i64 (rk l[k]), .bool (inn l[k])]))) :
    Calls Try.prog 44 #[.slice (some ⟨g, 0, none⟩) l.length cap, .func (.func 47) #[] #[]] w (LwP w (lw rk inn l l.length)) := by
  have HR := Lib.hid h
  have HF := Lib.hid hf
  have hl2 : (l.length : Int) ≤ 4096 := by omega
  clear h hf
  go_enter Try.func44, Try.ntmps44
  go_wp2
  go_loopw [6, 7, 8, 15] (fun b n f i wr => ∃ k : Nat, k ≤ l.length ∧ i = .int .i64 k ∧ ∃ p : Nat × Int × Bool, b = .int .i64 (p.1 : Int) ∧ n = .int .i64 p.2.1 ∧ f = .bool p.2.2 ∧ Hid (lw rk inn l k = p) ∧ Hid (Below w.heap.size w wr)) (fun _ _ _ i _ => l.length - (RowKit.intOf i).toNat)
  case atStart => exact ⟨0, Nat.zero_le _, rfl, (0, 0, false), rfl, rfl, rfl, Lib.hid rfl, Lib.hid (Below.refl _ _)⟩
  case round =>
    obtain ⟨k, hk, rfl, p, rfl, rfl, rfl, HP, HB⟩ := hrel
    by_cases hlt : k < l.length
    · obtain ⟨c0, c1⟩ := (HR.out.below HB.out).at hlt
      have HFk := Lib.hid (fun W (hW : Below wr.heap.size wr W) => HF.out k hlt W (HB.out.trans (hW.mono HB.out.size)))
      have HY := Lib.hid (fun h => lw_yes (rk := rk) (inn := inn) hlt h)
      have HN := Lib.hid (fun h => lw_no (rk := rk) (inn := inn) hlt h)
      rw [HP.out] at HY HN
      generalize l[k] = x at *
      obtain ⟨er, st⟩ := x
      have hba := below_alloc wr (.cells #[.int .i64 er, .int .i64 st] 69)
      have HBA := Lib.hid hba
      clear hba
      cases hin : inn ⟨er, st⟩
      · have HE := Lib.hid (HN.out (by rw [hin]; exact fun h => absurd h.1 (by decide)))
        have HC := Lib.hid (HFk.out _ HBA.out)
        rw [hin] at HC
        clear HY HN HFk hin
        go_wp2_with ((go_at_call 47; with_reducible refine HC.out.mono ?_); rintro e w2 ⟨rfl, hb⟩; have HB2 := Lib.hid (HB.out.trans ((HBA.out.trans (hb.mono (by simp))).mono HB.out.size)); clear hb)
        go_roundw
        case rel => exact ⟨k + 1, by omega, by go_num, p, rfl, rfl, rfl, Lib.hid HE.out, HB2⟩
        case measure => simp [RowKit.intOf]; omega
      · have HC := Lib.hid (HFk.out _ HBA.out)
        rw [hin] at HC HY HN
        clear HFk hin
        obtain ⟨bst, lst, fnd⟩ := p
        dsimp only at HY HN
        generalize rk ⟨er, st⟩ = r at *
        have ht : (true = true) = True := by simp
        rw [ht, true_and] at HY HN
        cases fnd
        · have HE := Lib.hid (HY.out (.inl rfl))
          clear HY HN ht
          go_wp2_with ((go_at_call 47; with_reducible refine HC.out.mono ?_); rintro e w2 ⟨rfl, hb⟩; have HB2 := Lib.hid (HB.out.trans ((HBA.out.trans (hb.mono (by simp))).mono HB.out.size)); clear hb)
          go_roundw
          case rel => exact ⟨k + 1, by omega, by go_num, (k, r, true), rfl, rfl, rfl, Lib.hid HE.out, HB2⟩
          case measure => simp [RowKit.intOf]; omega
        · by_cases hr : r < lst
          · have HE := Lib.hid (HY.out (.inr hr))
            clear HY HN ht
            go_wp2_with ((go_at_call 47; with_reducible refine HC.out.mono ?_); rintro e w2 ⟨rfl, hb⟩; have HB2 := Lib.hid (HB.out.trans ((HBA.out.trans (hb.mono (by simp))).mono HB.out.size)); clear hb)
            go_roundw
            case rel => exact ⟨k + 1, by omega, by go_num, (k, r, true), rfl, rfl, rfl, Lib.hid HE.out, HB2⟩
            case measure => simp [RowKit.intOf]; omega
          · have HE := Lib.hid (HN.out (by rintro (h | h); exact absurd h (by decide); exact hr h))
            clear HY HN ht
            go_wp2_with ((go_at_call 47; with_reducible refine HC.out.mono ?_); rintro e w2 ⟨rfl, hb⟩; have HB2 := Lib.hid (HB.out.trans ((HBA.out.trans (hb.mono (by simp))).mono HB.out.size)); clear hb)
            go_roundw
            case rel => exact ⟨k + 1, by omega, by go_num, (bst, lst, true), rfl, rfl, rfl, Lib.hid HE.out, HB2⟩
            case measure => simp [RowKit.intOf]; omega
    · have hkl : k = l.length := by omega
      subst hkl
      go_wp2
      go_ret2
      exact ⟨by rw [HP.out]; rfl, HB.out⟩
end Go.Proofs.Ytpojgjbgbbnojaa
