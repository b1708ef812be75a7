/- The contracts of choose and take. Conditions stand in each theorem. -/
import Derived.Test.YtildofclgofjdaaI
namespace Go.Proofs.Ytildofclgofjdaa
open Go.RowKit
set_option linter.unusedVariables false
set_option maxHeartbeats 400000
set_option maxRecDepth 100000
def St.fresh (s : St) : St := { s with cr := wts s.hi s.me s.lo }
/-- Is the round over? -/
def overB (n : Nat → Nat) (s : St) : Bool := n 0 == 0 && credF n s.cr == 0
def St.chS (s : St) (n : Nat → Nat) : St := if overB n s then s.fresh else s
def St.chC (s : St) (n : Nat → Nat) : Nat := if 0 < n 0 then 0 else credF n (s.chS n).cr
def ChPost (w : World) (b m : Nat) (s : St) (n : Nat → Nat) (e : Ending) (w' : World) : Prop := e = .returned (.int .i64 (s.chC n : Nat)) ∧ Arb w' b m (s.chS n) ∧ Chg (· = b) w w'
theorem chg4 (w : World) (b : Nat) (y0 y1 y2 y3 : Value) : Chg (· = b) w ((((w.setCell ⟨b, 10, none⟩ y0).setCell ⟨b, 11, none⟩ y1).setCell ⟨b, 12, none⟩ y2).setCell ⟨b, 13, none⟩ y3) :=
  ((((Chg.refl (· = b) w).setCell rfl _).setCell rfl _).setCell rfl _).setCell rfl _
theorem Arb.fresh {w : World} {b m : Nat} {s : St} (h : Arb w b m s) : Arb ((((w.setCell ⟨b, 10, none⟩ (.int .i64 0)).setCell ⟨b, 11, none⟩ (.int .i64 s.hi)).setCell ⟨b, 12, none⟩ (.int .i64 s.me)).setCell ⟨b, 13, none⟩ (.int .i64 s.lo)) b m s.fresh := by
  have t1 : ∀ y0 y1 y2 y3, Chg (· = b) w ((((w.setCell ⟨b, 10, none⟩ y0).setCell ⟨b, 11, none⟩ y1).setCell ⟨b, 12, none⟩ y2).setCell ⟨b, 13, none⟩ y3) := fun y0 y1 y2 y3 =>
    ((((Chg.refl (· = b) w).setCell rfl _).setCell rfl _).setCell rfl _).setCell rfl _
  exact ⟨heap_setCell_same _ b 13 _ 70 _ (heap_setCell_same _ b 12 _ 70 _ (heap_setCell_same _ b 11 _ 70 _ (heap_setCell_same _ b 10 _ 70 _ h.blk))), h.map.chg (t1 _ _ _ _) (fun e => h.ne e.symm)⟩
set_option maxHeartbeats 2000000 in
theorem choose_any (b m B : Nat) (s : St) (A : Nat → Option Addr) (n c : Nat → Nat) (w : World) (h : Arb w b m s) (hl : Lens w B A n c) :
    Calls Try.prog 36 #[.pointer (some ⟨b, 0, none⟩), .pointer (some ⟨B, 0, none⟩)] w (ChPost w b m s n) := by
  have H := Lib.hid h
  have HL := Lib.hid hl
  have e0 := hl.cell 0 (by decide)
  have HC := Lib.hid (credited_any b m B s A n c w h hl)
  by_cases h0 : 0 < n 0
  · have r1 : s.chC n = 0 := by unfold St.chC; rw [if_pos h0]
    have r2 : s.chS n = s := by unfold St.chS overB; rw [if_neg (by simp; omega)]
    have R1 := Lib.hid r1
    have R2 := Lib.hid r2
    clear h hl r1 r2
    generalize n 0 = n0 at *
    go_enter Try.func36, Try.ntmps36
    go_wp2
    go_ret
    exact ⟨by rw [R1.out]; rfl, by rw [R2.out]; exact H.out, Chg.refl _ _⟩
  · have hz : n 0 = 0 := by omega
    rw [hz] at e0
    by_cases hc : credF n s.cr = 0
    · have r2 : s.chS n = s.fresh := by unfold St.chS overB; rw [if_pos (by simp [hz, hc])]
      have r1 : s.chC n = credF n s.fresh.cr := by unfold St.chC; rw [if_neg h0, r2]
      have R1 := Lib.hid r1
      have R2 := Lib.hid r2
      have HC2 := HC.out
      rw [hc, show foundB 0 = false from rfl] at HC2
      have HC3 := Lib.hid HC2
      have k0 := h.cWt
      have k1 := h.cBu
      have k2 := h.cHi
      have k3 := h.cMe
      have k4 := h.cLo
      clear h hl HC HC2 h0 r1 r2 hc hz
      go_enter Try.func36, Try.ntmps36
      go_wp2_with (first
        | ((go_at_call 49; with_reducible refine HC3.out.mono ?_); rintro e w' ⟨rfl, rfl⟩; clear HC3)
        | ((go_at_call 26; with_reducible refine (weights_any _ _ _ _ _ _).mono ?_); rintro e w1 ⟨rfl, hb⟩
           have HA1 := Lib.hid (H.out.below hb)
           have HB1 := Lib.hid hb
           have j0 := HA1.out.cCr 0 (by decide)
           have j1 := HA1.out.cCr 1 (by decide)
           have j2 := HA1.out.cCr 2 (by decide)
           have j3 := HA1.out.cCr 3 (by decide)
           have jf := HA1.out.free
           simp only [Nat.reduceAdd] at j0 j1 j2 j3
           have HC4 := Lib.hid ((Chg.of_below (S := (· = b)) HB1.out).also (chg4 w1 b (.int .i64 0) (.int .i64 s.hi) (.int .i64 s.me) (.int .i64 s.lo)))
           have HL4 := Lib.hid (HL.out.chg HC4.out (HL.out.ne H.out))
           clear hb)
        | ((go_at_call 49; with_reducible refine (credited_any b m B s.fresh A n c _ HA1.out.fresh HL4.out).mono ?_); rintro e w' ⟨rfl, rfl⟩))
      go_ret
      exact ⟨by rw [R1.out]; rfl, by rw [R2.out]; exact HA1.out.fresh, HC4.out⟩
    · have r2 : s.chS n = s := by unfold St.chS overB; rw [if_neg (by simp [hc])]
      have r1 : s.chC n = credF n s.cr := by unfold St.chC; rw [if_neg h0, r2]
      have hf : foundB (credF n s.cr) = true := by simp [foundB, hc]
      have R1 := Lib.hid r1
      have R2 := Lib.hid r2
      have HC2 := HC.out
      rw [hf] at HC2
      have HC3 := Lib.hid HC2
      clear h hl HC HC2 h0 r1 r2 hc hz hf
      go_enter Try.func36, Try.ntmps36
      go_wp2_with ((go_at_call 49; with_reducible refine HC3.out.mono ?_); rintro e w' ⟨rfl, rfl⟩)
      go_ret
      exact ⟨by rw [R1.out]; rfl, by rw [R2.out]; exact H.out, Chg.refl _ _⟩
end Go.Proofs.Ytildofclgofjdaa
