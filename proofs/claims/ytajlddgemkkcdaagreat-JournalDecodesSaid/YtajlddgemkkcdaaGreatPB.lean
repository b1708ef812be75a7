/- The contracts of the Reader's methods All and Left, where they succeed. Conditions stand in each theorem. -/
import Derived.Test.YtajlddgemkkcdaaGreatPA
namespace Go.Proofs.YtajlddgemkkcdaaGreat
open Go.RowKit
set_option linter.unusedVariables false
set_option maxHeartbeats 1000000

/-- A slice of integers. -/
def Ints (k : IntKind) (w : World) (v : Value) (l : List Int) : Prop :=
  ∃ A c, v = .slice A l.length c ∧ l.length ≤ c ∧ (0 < l.length → ∃ g o, A = some ⟨g, o, none⟩ ∧ g < w.heap.size ∧ ∀ j (hj : j < l.length), w.cell? ⟨g, o + j, none⟩ = some (.int k l[j]))
theorem Ints.of_own {k : IntKind} {w : World} {base n : Nat} {e : TypeId} {v : Value} {l : List Int} (h : w.ownsRow base e 1 v n (l.map (Value.int k))) : Ints k w v l := by
  have hn : n = l.length := by have := h.1; rw [List.length_map] at this; omega
  subst hn
  rcases h.2 with ⟨rfl, h0⟩ | ⟨g, cap, cur, rfl, _, hg, hnc, _, _, _⟩
  · exact ⟨none, 0, by rw [h0], by omega, fun hp => absurd hp (by omega)⟩
  · refine ⟨_, cap, rfl, hnc, fun hp => ⟨g, 0, rfl, (Array.getElem?_eq_some_iff.1 hg).1, fun j hj => ?_⟩⟩
    rw [Nat.zero_add, h.cellAt j (by omega)]
    simp [hj]
theorem Ints.below {k : IntKind} {w w' : World} {v : Value} {l : List Int} (h : Ints k w v l) (hb : Below w.heap.size w w') : Ints k w' v l := by
  obtain ⟨A, c, rfl, hc, hr⟩ := h
  refine ⟨A, c, rfl, hc, fun hn => ?_⟩
  obtain ⟨g, o, rfl, hg, hcell⟩ := hr hn
  exact ⟨g, o, rfl, Nat.lt_of_lt_of_le hg hb.size, fun j hj => (hb.cell (by exact hg)).trans (hcell j hj)⟩
/-- What All reads, and where it ends. -/
def vals (l : List UInt8) : Nat → List Int → List Int
  | _, [] => []
  | a, n :: t => (getV ((l.drop a).take n.toNat) : Int) :: vals l (a + n.toNat) t
def endp : Nat → List Int → Nat
  | a, [] => a
  | a, n :: t => endp (a + n.toNat) t
def okAll (l : List UInt8) : Nat → List Int → Prop
  | _, [] => True
  | a, n :: t => 1 ≤ n ∧ n ≤ 8 ∧ a + n.toNat ≤ l.length ∧ okAll l (a + n.toNat) t
theorem vals_length (l : List UInt8) : ∀ (ns : List Int) (a : Nat), (vals l a ns).length = ns.length
  | [], _ => rfl
  | n :: t, a => by simp [vals, vals_length l t]
theorem alloc_below (w : World) (o : Obj) : Below w.heap.size w (w.alloc o) := (Below.refl _ _).alloc (Nat.le_refl _) o
theorem u64_info : (Tryz.prog.info? 40).map (fun i => (i.zero, i.size, i.bytes)) = some (some (.int .u64 0), 1, 8) := by kernel_rfl
theorem int_info : (Tryz.prog.info? 3).map (fun i => (i.zero, i.size, i.bytes)) = some (some (.int .i64 0), 1, 8) := by kernel_rfl
theorem clos_ok (g : Nat) (vd : Value) (l : List UInt8) (a n : Nat) (w : World) (h : Rd w g vd l a) (h1 : 1 ≤ n) (h8 : n ≤ 8) (hn : a + n ≤ l.length) :
    Calls Tryz.prog 65 #[.int .i64 (n : Int), .pointer (some ⟨g, 0, none⟩)] w (RPost w g vd l (a + n) (.tuple #[.int .u64 (getV ((l.drop a).take n)), .int .i64 0])) := by
  have hf := field_ok g vd l a n w h h1 h8 hn
  have Hf := Lib.hid hf; clear hf h hn
  go_enter Tryz.func65, Tryz.ntmps65
  go_wp2_with fail
  refine Hf.out.mono ?_
  rintro e w1 ⟨rfl, h1, h2⟩
  have H1 := Lib.hid h1; have H2 := Lib.hid h2; clear h1 h2
  go_wp2
  go_ret2
  exact ⟨rfl, H1.out, H2.out⟩
theorem chg_grown {w w' : World} {g : Nat} (h : Chg (· = g) w w') : w.grownBy w' (some g) := ⟨h.os, h.tape, h.output, h.size, fun k hk hn => h.block k hk (fun e => hn (by rw [e]))⟩
theorem Rd.grown {w w' : World} {g : Nat} {vd : Value} {l : List UInt8} {a : Nat} {row : Option Nat} {B : Nat} (h : Rd w g vd l a) (hg : w.grownBy w' row) (hB : g < B) (hv : ∀ b, vd.ownBlock = some b → b < B) (hrow : ∀ b, row = some b → B ≤ b) : Rd w' g vd l a := by
  have hne : ∀ k, k < B → some k ≠ row := fun k hk e => by have := hrow k e.symm; omega
  refine ⟨h.blk.imp fun _ h' => (hg.block g h.lt (hne g hB)).trans h', ?_, h.le, h.small, h.ne, fun b hb => Nat.lt_of_lt_of_le (h.lo b hb) hg.size⟩
  obtain ⟨A, c, rfl, hc, hr⟩ := h.byt
  refine ⟨A, c, rfl, hc, fun hn => ?_⟩
  obtain ⟨b, o, rfl, hb, hcell⟩ := hr hn
  have hbB : b < B := hv b rfl
  exact ⟨b, o, rfl, Nat.lt_of_lt_of_le hb hg.size, fun j hj => (World.cell?_of_block (a := ⟨b, o + j, none⟩) (hg.block b hb (hne b hbB))).trans (hcell j hj)⟩
theorem own_row_ge {w : World} {base n : Nat} {e : TypeId} {v : Value} {xs : List Value} (h : w.ownsRow base e 1 v n xs) : ∀ b, v.ownBlock = some b → base ≤ b := fun b hb => (h.lt b hb).1
theorem re_kept {wr w1 : World} {base h k : Nat} {v : Value} {xs : List Value} {e : TypeId} (HO : wr.ownsRow base e 1 v k xs) (hC : Chg (· = h) wr w1) (hh : h < base) : w1.ownsRow base e 1 v k xs :=
  HO.kept (chg_grown hC) (.inr (fun e' => by have := own_row_ge HO h e'; omega))
theorem re_step {w wr w1 w2 : World} {h p' k : Nat} {vd v : Value} {l : List UInt8} {o : Obj} {xs : List Value} (hh : h < w.heap.size) (hlo : ∀ b, vd.ownBlock = some b → b < w.heap.size)
    (HC : Chg (· = h) w wr) (hC1 : Chg (· = h) wr w1) (hR : Rd w1 h vd l p') (hO : w1.ownsRow w.heap.size 40 1 v k xs) (hg : (w1.alloc o).grownBy w2 v.ownBlock) : Rd w2 h vd l p' ∧ Chg (· = h) w w2 := by
  have hs1 : w.heap.size ≤ w1.heap.size := Nat.le_trans HC.size hC1.size
  refine ⟨(hR.below ((Below.refl _ _).alloc (Nat.le_refl _) o)).grown hg hh hlo (own_row_ge hO), ?_⟩
  have h1 : Chg (· = h) w w1 := HC.trans hC1 (fun i hi _ => hi)
  have h2 : Chg (· = h) w (w1.alloc o) := h1.trans (T := fun _ => False) (Chg.of_below ((Below.refl _ _).alloc (Nat.le_refl _) o)) (fun i hi _ => hi.elim)
  exact h2.trans (Chg.of_grown hg) (fun i hi hlt => by have := own_row_ge hO i hi; omega)
def REPost (w : World) (h : Nat) (vd : Value) (l : List UInt8) (a : Nat) (ns : List Int) (e : Ending) (w' : World) : Prop :=
  (∃ v, e = .returned (.tuple #[v, .int .i64 0]) ∧ w'.ownsRow w.heap.size 40 1 v ns.length ((vals l a ns).map (Value.int .u64))) ∧ Rd w' h vd l (endp a ns) ∧ Chg (· = h) w w'
set_option maxRecDepth 100000 in
theorem readEach_ok (h : Nat) (vd sv : Value) (l : List UInt8) (a : Nat) (ns : List Int) (w : World) (hr : Rd w h vd l a) (hs : Ints .i64 w sv ns) (hsep : ∀ b, sv.ownBlock = some b → b ≠ h) (hok : okAll l a ns) (hlen : ns.length ≤ 1048576) :
    Calls Tryz.prog 64 #[sv, .func (.func 65) #[] #[.pointer (some ⟨h, 0, none⟩)]] w (REPost w h vd l a ns) := by
  obtain ⟨i0, hi0, hz0, hz1, hz2⟩ := info_parts u64_info
  have Hrd := Lib.hid hr; have Hok := Lib.hid hok; have Hsep := Lib.hid hsep
  have Hh := Lib.hid hr.lt; have Hlo := Lib.hid hr.lo
  clear hr hok hsep
  obtain ⟨A, c, rfl, hc, hsr⟩ := hs
  have Hs := Lib.hid hsr; clear hsr
  go_enter Tryz.func64, Tryz.ntmps64
  go_wp2
  go_loopw [6, 13] (fun v i wr => ∃ (k p : Nat) (acc : List Int), k ≤ ns.length ∧ i = .int .i64 k ∧ Hid (acc.length = k) ∧ Hid (wr.ownsRow w.heap.size 40 1 v k (acc.map (Value.int .u64))) ∧ Hid (vals l a ns = acc ++ vals l p (ns.drop k)) ∧ Hid (endp a ns = endp p (ns.drop k)) ∧ Hid (okAll l p (ns.drop k)) ∧ Hid (Rd wr h vd l p) ∧ Hid (Chg (· = h) w wr)) (fun _ i _ => ns.length - (intOf i).toNat)
  case atStart => exact ⟨0, a, [], Nat.zero_le _, rfl, rfl, World.ownsRow_nil _ _ _ _, rfl, rfl, Hok, Hrd, Chg.refl _ _⟩
  case round =>
    obtain ⟨k, p, acc, hk, rfl, HA, HO, HV, HE, HK, HR, HC⟩ := hrel
    by_cases hlt : k < ns.length
    · obtain ⟨g, o, rfl, hg, hcell⟩ := Hs.out (by omega)
      have hgh : g ≠ h := Hsep.out g rfl
      have hck : wr.cell? ⟨g, o + k, none⟩ = some (.int .i64 ns[k]) := (World.cell?_of_block (a := ⟨g, o + k, none⟩) (HC.out.block g hg hgh)).trans (hcell k hlt)
      have hkk := HK.out
      rw [drop_cons hlt] at hkk
      obtain ⟨hn1, hn8, hfit, hrest⟩ := hkk
      obtain ⟨m, hm⟩ := Int.eq_ofNat_of_zero_le (show 0 ≤ ns[k] by omega)
      rw [hm] at hck
      rw [hm, Int.toNat_natCast] at hfit hrest
      have hm1 : 1 ≤ m := by omega
      have hm8 : m ≤ 8 := by omega
      have Hfit := Lib.hid hfit; have Hrest := Lib.hid hrest; have Hm := Lib.hid hm
      clear hcell hfit hrest hn1 hn8 hm
      go_wp2_with fail
      refine (clos_ok h vd l p m _ HR.out hm1 hm8 Hfit.out).mono ?_
      rintro e w1 ⟨rfl, hR1, hC1⟩
      obtain ⟨X, hX⟩ : ∃ X : Nat, X = getV ((l.drop p).take m) := ⟨_, rfl⟩
      rw [← hX]
      have HX := Lib.hid hX
      have HO1 := Lib.hid (re_kept HO.out hC1 Hh.out)
      have HC1 := Lib.hid hC1; have HR1 := Lib.hid hR1
      clear hX hC1 hR1
      go_wp2_with (at_builtin; (refine wpList_append_own_at _ rfl (.tmp 26) (.tmp 28) 55 rfl w.heap.size 40 i0 (.int .u64 0) 1 8 Tryz.underlying55 hi0 hz0 hz1 hz2 rfl (by decide) _ k (acc.map (Value.int .u64)) rfl (HO1.out.alloc _) ⟨w1.heap.size, 0, none⟩ 1 1 [.int .u64 (X : Int)] rfl rfl ?c1 ?c2 ?c3 ?c4 ?c5 ?_))
      case c1 =>
        intro j u hj
        match j, hj with
        | 0, hj => simp at hj; subst hj; simp [Addr.add]
      case c2 => intro u hu; simp at hu; subst hu; rfl
      case c3 => unfold maxLen; omega
      case c4 => omega
      case c5 => have := HC.out.size; have := HC1.out.size; simp; omega
      intro v' w2 hown' hgrow _ hat'
      have hst := re_step Hh.out Hlo.out HC.out HC1.out HR1.out HO1.out hgrow
      have HR2 := Lib.hid hst.1; have HC2 := Lib.hid hst.2
      have HO2 := Lib.hid (show w2.ownsRow w.heap.size 40 1 v' (k + 1) ((acc ++ [(X : Int)]).map (Value.int .u64)) by rw [List.map_append]; exact hown')
      have HA2 := Lib.hid (show (acc ++ [(X : Int)]).length = k + 1 by rw [List.length_append, HA.out]; rfl)
      have HV2 := Lib.hid (show vals l a ns = (acc ++ [(X : Int)]) ++ vals l (p + m) (ns.drop (k + 1)) by
        rw [HV.out, drop_cons hlt, List.append_assoc, HX.out]
        simp only [vals, Hm.out, Int.toNat_natCast]; rfl)
      have HE2 := Lib.hid (show endp a ns = endp (p + m) (ns.drop (k + 1)) by
        rw [HE.out, drop_cons hlt]
        simp only [endp, Hm.out, Int.toNat_natCast])
      clear hst hown' hgrow hat' HO1 HC1 HR1 HX
      go_wp2
      go_roundw
      case rel => exact ⟨k + 1, p + m, _, by omega, by go_num, HA2, HO2, HV2, HE2, Hrest, HR2, HC2⟩
      case measure => simp [intOf]; omega
    · have He := Lib.hid (show k = ns.length by omega)
      go_wp2
      go_ret2
      have hd : ns.drop k = [] := List.drop_eq_nil_of_le (by omega)
      have h1 := HV.out; have h2 := HE.out
      rw [hd] at h1 h2
      simp only [vals, endp, List.append_nil] at h1 h2
      refine ⟨⟨_, rfl, ?_⟩, ?_, HC.out⟩
      · rw [h1, ← He.out]; exact HO.out
      · rw [h2]; exact HR.out
set_option maxRecDepth 100000 in
theorem All_ok (g : Nat) (vd sv : Value) (l : List UInt8) (a : Nat) (ns : List Int) (w : World) (hr : Rd w g vd l a) (hs : Ints .i64 w sv ns) (hsb : ∀ b, sv.ownBlock = some b → b < w.heap.size) (hok : okAll l a ns) (hlen : ns.length ≤ 1048576) (hend : endp a ns ≤ l.length) :
    Calls Tryz.prog 42 #[.pointer (some ⟨g, 0, none⟩), sv] w fun e w' => (∃ v, e = .returned (.tuple #[v, .int .i64 0]) ∧ Ints .u64 w' v (vals l a ns)) ∧ Rd w' g vd l (endp a ns) ∧ Chg (· = g) w w' := by
  have hmf : ∀ (fn : Fn) (first cap : Array Value) (w : World), (Instr.makeFunc fn first cap).run Tryz.prog w = .ok (.func fn first cap) w := fun _ _ _ _ => rfl
  have h0 := hr.cell0
  have h1 := hr.cell1
  obtain ⟨A, c, hvd, -, -⟩ := hr.byt
  subst hvd
  have hcall := readEach_ok w.heap.size _ sv l a ns _ (hr.ahead 85) (hs.below (alloc_below w _)) (fun b hb => by have := hsb b hb; omega) hok hlen
  have Hcall := Lib.hid hcall; have Hrd := Lib.hid hr; have Hend := Lib.hid hend
  clear hcall hr hs hsb hok hend
  go_enter Tryz.func42, Tryz.ntmps42
  go_wp2_with fail
  refine (orEmpty_some g _).mono ?_
  rintro e w' ⟨rfl, rfl⟩
  go_wp2_with fail
  refine Hcall.out.mono ?_
  rintro e w1 ⟨⟨v, rfl, ho⟩, hrd, hch⟩
  have HB1 := Lib.hid (Hrd.out.behind hch)
  have hq0 := hrd.cell0
  have hq1 := hrd.cell1
  have hg := Hrd.out.lt
  have hk0 : w1.cell? ⟨g, 0, none⟩ = some (.slice A l.length c) := (HB1.out.cell (by exact hg)).trans h0
  have hk1 : w1.cell? ⟨g, 1, none⟩ = some (.int .i64 (a : Int)) := (HB1.out.cell (by exact hg)).trans h1
  have hf0 : w1.frozen? ⟨g, 0, none⟩ = false := (HB1.out.frozen (by exact hg)).trans (Hrd.out.free 0)
  have hf1 : w1.frozen? ⟨g, 1, none⟩ = false := (HB1.out.frozen (by exact hg)).trans (Hrd.out.free 1)
  have HO := Lib.hid ho
  clear hrd hch h0 h1 ho Hcall
  go_wp2
  go_ret2
  have hfin := rd_set Hrd.out HB1.out Hend.out
  refine ⟨⟨_, rfl, ?_⟩, hfin⟩
  have hO2 : ((w1.setCell ⟨g, 0, none⟩ (.slice A l.length c)).setCell ⟨g, 1, none⟩ (.int .i64 (endp a ns : Int))).ownsRow (w.heap.size + 1) 40 1 v ns.length ((vals l a ns).map (Value.int .u64)) :=
    ownsRow_setCell_below (ownsRow_setCell_below (by simpa using HO.out) (a := ⟨g, 0, none⟩) (by show g < _; omega) _) (a := ⟨g, 1, none⟩) (by show g < _; omega) _
  exact Ints.of_own hO2
theorem Left_any (g : Nat) (vd : Value) (l : List UInt8) (a : Nat) (w : World) (h : Rd w g vd l a) : Calls Tryz.prog 22 #[.pointer (some ⟨g, 0, none⟩)] w fun e w' => e = .returned (.int .i64 ((l.length : Int) - a)) ∧ ∃ n, w' = w.drewN n := by
  have Hh := Lib.hid h; clear h
  go_enter Tryz.func22, Tryz.ntmps22
  go_wp2_with fail
  refine (orEmpty_some g _).mono ?_
  rintro e w' ⟨rfl, rfl⟩
  go_wp2_with fail
  refine (left_any g vd l a _ Hh.out).mono ?_
  rintro e w1 ⟨rfl, q, rfl⟩
  go_wp2
  go_ret
  exact ⟨rfl, _, rfl⟩
end Go.Proofs.YtajlddgemkkcdaaGreat
