/- The contract of take. Conditions stand in the theorem. -/
import Derived.Test.YtildofclgofjdaaJ
import Derived.IntWalk
namespace Go.Proofs.Ytildofclgofjdaa
open Go.RowKit
set_option linter.unusedVariables false
set_option maxHeartbeats 400000
set_option maxRecDepth 100000
/-- How many commands a class is given. -/
def bst (bu n : Int) : Int := if bu = 0 then n else min n bu
def St.tk (s : St) (k : Nat) (n : Int) : Int := if k = 0 then bst s.bu n else min (bst s.bu n) (s.cr k)
def St.tkS (s : St) (k : Nat) (n : Int) : St := if k = 0 then s else { s with cr := upd s.cr k (s.cr k - s.tk k n) }
def TkPost (w : World) (b m : Nat) (s : St) (k : Nat) (n : Int) (e : Ending) (w' : World) : Prop := e = .returned (.int .i64 (s.tk k n)) ∧ Arb w' b m (s.tkS k n) ∧ Chg (· = b) w w'
theorem Arb.setCr {w : World} {b m : Nat} {s : St} (h : Arb w b m s) (k : Nat) (hk : k < 4) (x : Int) : Arb (w.setCell ⟨b, 10 + k, none⟩ (.int .i64 x)) b m { s with cr := upd s.cr k x } := by
  refine ⟨?_, h.map.chg ((Chg.refl (· = b) w).setCell rfl _) (fun e => h.ne e.symm)⟩
  rw [heap_setCell_same w b (10 + k) _ 70 _ h.blk]
  match k, hk with
  | 0, _ => rfl
  | 1, _ => rfl
  | 2, _ => rfl
  | 3, _ => rfl
theorem Arb.setLast {w : World} {b m : Nat} {s : St} (h : Arb w b m s) (k : Nat) (hk : k < 4) (x : Int) : Arb (w.setCell ⟨b, 6 + k, none⟩ (.int .i64 x)) b m { s with last := upd s.last k x } := by
  refine ⟨?_, h.map.chg ((Chg.refl (· = b) w).setCell rfl _) (fun e => h.ne e.symm)⟩
  rw [heap_setCell_same w b (6 + k) _ 70 _ h.blk]
  match k, hk with
  | 0, _ => rfl
  | 1, _ => rfl
  | 2, _ => rfl
  | 3, _ => rfl
set_option maxHeartbeats 2000000 in
theorem take_any (b m k : Nat) (s : St) (n : Int) (w : World) (h : Arb w b m s) (hk : k < 4) (hn : 0 ≤ n) (hb : 0 ≤ s.bu) (hc : k ≠ 0 → 0 ≤ s.cr k ∧ s.cr k ≤ 256) :
    Calls Try.prog 38 #[.pointer (some ⟨b, 0, none⟩), .int .i64 (k : Nat), .int .i64 n] w (TkPost w b m s k n) := by
  have H := Lib.hid h
  have k1 := h.cBu
  have k2 := h.cCr k hk
  have hf := h.free
  have hki : ((k : Nat) : Int) < 4 := by omega
  by_cases h0 : k = 0
  · subst h0
    have r1 : s.tk 0 n = bst s.bu n := rfl
    have r2 : s.tkS 0 n = s := rfl
    have R1 := Lib.hid r1
    have R2 := Lib.hid r2
    clear h hc r1 r2
    by_cases hz : s.bu = 0
    · have hz2 : bst s.bu n = n := by unfold bst; rw [if_pos hz]
      rw [hz] at k1
      have HZ := Lib.hid hz2
      clear hz hz2 hb
      go_enter Try.func38, Try.ntmps38
      go_wp2
      go_ret
      exact ⟨by rw [R1.out, HZ.out]; rfl, by rw [R2.out]; exact H.out, Chg.refl _ _⟩
    · have hz2 : bst s.bu n = min n s.bu := by unfold bst; rw [if_neg hz]
      have HZ := Lib.hid hz2
      clear hz2
      generalize s.bu = bu at *
      go_enter Try.func38, Try.ntmps38
      go_wp2
      go_ret
      exact ⟨by rw [R1.out, HZ.out]; rfl, by rw [R2.out]; exact H.out, Chg.refl _ _⟩
  · have hc2 := hc h0
    have r1 : s.tk k n = min (bst s.bu n) (s.cr k) := by unfold St.tk; rw [if_neg h0]
    have r2 : s.tkS k n = { s with cr := upd s.cr k (s.cr k - s.tk k n) } := by unfold St.tkS; rw [if_neg h0]
    have r3 : 0 ≤ s.tk k n ∧ s.tk k n ≤ s.cr k := by rw [r1]; unfold bst; split <;> omega
    have R1 := Lib.hid r1
    have R2 := Lib.hid r2
    have R4 := Lib.hid (h.setCr k hk (s.cr k - s.tk k n))
    have hkb : ((k : Nat) : Int) ≠ 0 := by omega
    have hkb2 : (((k : Nat) : Int) != 0) = true := by simp; omega
    clear h hc r1 r2
    generalize hTT : s.tk k n = T at *
    have HTT := Lib.hid hTT
    clear hTT
    generalize s.cr k = ck at *
    obtain ⟨c1, c2⟩ := hc2
    obtain ⟨t1, t2⟩ := r3
    by_cases hz : s.bu = 0
    · have hz2 : bst s.bu n = n := by unfold bst; rw [if_pos hz]
      rw [hz] at k1
      have HT : Hid (min n ck = T) := by have := R1.out; rw [hz2] at this; exact this.symm
      clear hz hz2 hb
      go_enter Try.func38, Try.ntmps38
      go_wp2
      rw [HT.out]
      have hw : IntKind.i64.wrap (ck - T) = ck - T := IntWalk.i64_in _ (by omega)
      go_region
      all_goals
        go_wp2
        go_ret
        exact ⟨by rw [HTT.out]; rfl, by rw [R2.out]; exact R4.out.kept rfl rfl, (Chg.refl (· = b) w).drew.setCell rfl _⟩
    · have hz2 : bst s.bu n = min n s.bu := by unfold bst; rw [if_neg hz]
      have HT : Hid (min n (min s.bu ck) = T) := by have := R1.out; rw [hz2] at this; rw [this]; unfold Hid; omega
      clear hz2
      generalize s.bu = bu at *
      go_enter Try.func38, Try.ntmps38
      go_wp2
      rw [HT.out]
      have hw : IntKind.i64.wrap (ck - T) = ck - T := IntWalk.i64_in _ (by omega)
      go_region
      all_goals
        go_wp2
        go_ret
        exact ⟨by rw [HTT.out]; rfl, by rw [R2.out]; exact R4.out.kept rfl rfl, (Chg.refl (· = b) w).drew.setCell rfl _⟩
end Go.Proofs.Ytildofclgofjdaa
