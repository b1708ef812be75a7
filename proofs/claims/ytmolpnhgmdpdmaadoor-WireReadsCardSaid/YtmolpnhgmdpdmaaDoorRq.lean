/- All where every field can be read, whatever block the sizes lie in; and what GetAll of the rest answers. Conditions stand in each theorem. -/
import Derived.Test.YtmolpnhgmdpdmaaDoorRm
namespace Go.Proofs.YtmolpnhgmdpdmaaDoor
open Go.RowKit
set_option linter.unusedVariables false
set_option maxHeartbeats 1000000

theorem ints_block {k : IntKind} {w : World} {v : Value} {l : List Int} (h : Ints k w v l) (h0 : 0 < l.length) : ∀ b, v.ownBlock = some b → b < w.heap.size := by
  obtain ⟨A, c, rfl, hc, hr⟩ := h
  obtain ⟨g, o, rfl, hg, -⟩ := hr h0
  intro b hb
  simp [Value.ownBlock] at hb
  omega
theorem rdE_drop {l : List UInt8} {a : Nat} (h : a ≤ l.length) (p : Nat) (n : Int) : rdE (l.drop a) p n = rdE l (a + p) n := by
  unfold rdE
  have e : (((l.drop a).length : Nat) : Int) < p + n ↔ (l.length : Int) < ((a + p : Nat) : Int) + n := by rw [List.length_drop]; omega
  simp only [e]
theorem rdAllE_drop {l : List UInt8} {a : Nat} (h : a ≤ l.length) : ∀ (ns : List Int) (p : Nat), rdAllE (l.drop a) p ns = rdAllE l (a + p) ns
  | [], _ => rfl
  | n :: t, p => by
    unfold rdAllE
    rw [rdE_drop h, rdAllE_drop h t (p + n.toNat), Nat.add_assoc]
theorem vals_drop (l : List UInt8) (a : Nat) : ∀ (ns : List Int) (p : Nat), vals (l.drop a) p ns = vals l (a + p) ns
  | [], _ => rfl
  | n :: t, p => by
    unfold vals
    rw [vals_drop l a t (p + n.toNat), List.drop_drop, Nat.add_assoc]
theorem endp_add (a : Nat) : ∀ (ns : List Int) (p : Nat), endp (a + p) ns = a + endp p ns
  | [], _ => rfl
  | n :: t, p => by
    unfold endp
    rw [Nat.add_assoc, endp_add a t (p + n.toNat)]
theorem three (N : Int) (m : Nat) : N < 0 ∨ (0 ≤ N ∧ N ≤ m) ∨ (0 ≤ N ∧ (m : Int) < N) := by omega
set_option maxRecDepth 100000 in
theorem readEach_fine (h : Nat) (vd sv : Value) (l : List UInt8) (a : Nat) (ns : List Int) (w : World) (hr : Rd w h vd l a) (hs : Ints .i64 w sv ns) (hsep : 0 < ns.length → ∀ b, sv.ownBlock = some b → b ≠ h) (hok : okAll l a ns) (hlen : ns.length ≤ 1048576) :
    Calls Tryd.prog 62 #[sv, .func (.func 63) #[] #[.pointer (some ⟨h, 0, none⟩)]] w (REPost w h vd l a ns) := by
  obtain ⟨i0, hi0, hz0, hz1, hz2⟩ := info_parts u64_info
  have Hrd := Lib.hid hr; have Hok := Lib.hid hok; have Hsep := Lib.hid hsep
  have Hh := Lib.hid hr.lt; have Hlo := Lib.hid hr.lo
  clear hr hok hsep
  obtain ⟨A, c, rfl, hc, hsr⟩ := hs
  have Hs := Lib.hid hsr; clear hsr
  go_enter Tryd.func62, Tryd.ntmps62
  go_wp2
  go_loopw [6, 13] (fun v i wr => ∃ (k p : Nat) (acc : List Int), k ≤ ns.length ∧ i = .int .i64 k ∧ Hid (acc.length = k) ∧ Hid (wr.ownsRow w.heap.size 22 1 v k (acc.map (Value.int .u64))) ∧ Hid (vals l a ns = acc ++ vals l p (ns.drop k)) ∧ Hid (endp a ns = endp p (ns.drop k)) ∧ Hid (okAll l p (ns.drop k)) ∧ Hid (Rd wr h vd l p) ∧ Hid (Chg (· = h) w wr)) (fun _ i _ => ns.length - (intOf i).toNat)
  case atStart => exact ⟨0, a, [], Nat.zero_le _, rfl, rfl, World.ownsRow_nil _ _ _ _, rfl, rfl, Hok, Hrd, Chg.refl _ _⟩
  case round =>
    obtain ⟨k, p, acc, hk, rfl, HA, HO, HV, HE, HK, HR, HC⟩ := hrel
    by_cases hlt : k < ns.length
    · obtain ⟨g, o, rfl, hg, hcell⟩ := Hs.out (by omega)
      have hgh : g ≠ h := Hsep.out (by omega) g rfl
      have hck : wr.cell? ⟨g, o + k, none⟩ = some (.int .i64 ns[k]) := (World.cell?_of_block (a := ⟨g, o + k, none⟩) (HC.out.block g hg hgh)).trans (hcell k hlt)
      have hkk := HK.out
      rw [drop_cons hlt] at hkk
      obtain ⟨hn1, hn8, hfit, hrest⟩ := hkk
      obtain ⟨m, hm⟩ := Int.eq_ofNat_of_zero_le (show 0 ≤ ns[k] by omega)
      rw [hm] at hck
      rw [hm, Int.toNat_natCast] at hfit hrest
      have hm1 : 1 ≤ m := by omega
      have hm8 : m ≤ 8 := by omega
      have Hfit := Lib.hid hfit; have Hrest := Lib.hid hrest; have Hm := Lib.hid hm
      clear hcell hfit hrest hn1 hn8 hm
      go_wp2_with fail
      refine (clos_ok h vd l p m _ HR.out hm1 hm8 Hfit.out).mono ?_
      rintro e w1 ⟨rfl, hR1, hC1⟩
      obtain ⟨X, hX⟩ : ∃ X : Nat, X = getV ((l.drop p).take m) := ⟨_, rfl⟩
      rw [← hX]
      have HX := Lib.hid hX
      have HO1 := Lib.hid (re_kept HO.out hC1 Hh.out)
      have HC1 := Lib.hid hC1; have HR1 := Lib.hid hR1
      clear hX hC1 hR1
      go_wp2_with (at_builtin; (refine wpList_append_own_at _ rfl (.tmp 26) (.tmp 28) 72 rfl w.heap.size 22 i0 (.int .u64 0) 1 8 Tryd.underlying72 hi0 hz0 hz1 hz2 rfl (by decide) _ k (acc.map (Value.int .u64)) rfl (HO1.out.alloc _) ⟨w1.heap.size, 0, none⟩ 1 1 [.int .u64 (X : Int)] rfl rfl ?c1 ?c2 ?c3 ?c4 ?c5 ?_))
      case c1 =>
        intro j u hj
        match j, hj with
        | 0, hj => simp at hj; subst hj; simp [Addr.add]
      case c2 => intro u hu; simp at hu; subst hu; rfl
      case c3 => unfold maxLen; omega
      case c4 => omega
      case c5 => have := HC.out.size; have := HC1.out.size; simp; omega
      intro v' w2 hown' hgrow _ hat'
      have hst := re_step Hh.out Hlo.out HC.out HC1.out HR1.out HO1.out hgrow
      have HR2 := Lib.hid hst.1; have HC2 := Lib.hid hst.2
      have HO2 := Lib.hid (show w2.ownsRow w.heap.size 22 1 v' (k + 1) ((acc ++ [(X : Int)]).map (Value.int .u64)) by rw [List.map_append]; exact hown')
      have HA2 := Lib.hid (show (acc ++ [(X : Int)]).length = k + 1 by rw [List.length_append, HA.out]; rfl)
      have HV2 := Lib.hid (show vals l a ns = (acc ++ [(X : Int)]) ++ vals l (p + m) (ns.drop (k + 1)) by
        rw [HV.out, drop_cons hlt, List.append_assoc, HX.out]
        simp only [vals, Hm.out, Int.toNat_natCast]; rfl)
      have HE2 := Lib.hid (show endp a ns = endp (p + m) (ns.drop (k + 1)) by
        rw [HE.out, drop_cons hlt]
        simp only [endp, Hm.out, Int.toNat_natCast])
      clear hst hown' hgrow hat' HO1 HC1 HR1 HX
      go_wp2
      go_roundw
      case rel => exact ⟨k + 1, p + m, _, by omega, by go_num, HA2, HO2, HV2, HE2, Hrest, HR2, HC2⟩
      case measure => simp [intOf]; omega
    · have He := Lib.hid (show k = ns.length by omega)
      go_wp2
      go_ret2
      have hd : ns.drop k = [] := List.drop_eq_nil_of_le (by omega)
      have h1 := HV.out; have h2 := HE.out
      rw [hd] at h1 h2
      simp only [vals, endp, List.append_nil] at h1 h2
      refine ⟨⟨_, rfl, ?_⟩, ?_, HC.out⟩
      · rw [h1, ← He.out]; exact HO.out
      · rw [h2]; exact HR.out
set_option maxRecDepth 100000 in
theorem All_fine (g : Nat) (vd sv : Value) (l : List UInt8) (a : Nat) (ns : List Int) (w : World) (hr : Rd w g vd l a) (hs : Ints .i64 w sv ns) (hok : okAll l a ns) (hlen : ns.length ≤ 1048576) (hend : endp a ns ≤ l.length) :
    Calls Tryd.prog 35 #[.pointer (some ⟨g, 0, none⟩), sv] w fun e w' => (∃ v, e = .returned (.tuple #[v, .int .i64 0]) ∧ Ints .u64 w' v (vals l a ns)) ∧ Rd w' g vd l (endp a ns) ∧ Chg (· = g) w w' := by
  have hmf : ∀ (fn : Fn) (first cap : Array Value) (w : World), (Instr.makeFunc fn first cap).run Tryd.prog w = .ok (.func fn first cap) w := fun _ _ _ _ => rfl
  have h0 := hr.cell0
  have h1 := hr.cell1
  obtain ⟨A, c, hvd, -, -⟩ := hr.byt
  subst hvd
  have hcall := readEach_fine w.heap.size _ sv l a ns _ (hr.ahead 95) (hs.below (alloc_below w _)) (fun h0 b hb => by have := ints_block hs h0 b hb; omega) hok hlen
  have Hcall := Lib.hid hcall; have Hrd := Lib.hid hr; have Hend := Lib.hid hend
  clear hcall hr hs hok hend
  go_enter Tryd.func35, Tryd.ntmps35
  go_wp2_with fail
  refine (orEmpty_some g _).mono ?_
  rintro e w' ⟨rfl, rfl⟩
  go_wp2_with fail
  refine Hcall.out.mono ?_
  rintro e w1 ⟨⟨v, rfl, ho⟩, hrd, hch⟩
  have HB1 := Lib.hid (Hrd.out.behind hch)
  have hq0 := hrd.cell0
  have hq1 := hrd.cell1
  have hg := Hrd.out.lt
  have hk0 : w1.cell? ⟨g, 0, none⟩ = some (.slice A l.length c) := (HB1.out.cell (by exact hg)).trans h0
  have hk1 : w1.cell? ⟨g, 1, none⟩ = some (.int .i64 (a : Int)) := (HB1.out.cell (by exact hg)).trans h1
  have hf0 : w1.frozen? ⟨g, 0, none⟩ = false := (HB1.out.frozen (by exact hg)).trans (Hrd.out.free 0)
  have hf1 : w1.frozen? ⟨g, 1, none⟩ = false := (HB1.out.frozen (by exact hg)).trans (Hrd.out.free 1)
  have HO := Lib.hid ho
  clear hrd hch h0 h1 ho Hcall
  go_wp2
  go_ret2
  have hfin := rd_set Hrd.out HB1.out Hend.out
  refine ⟨⟨_, rfl, ?_⟩, hfin⟩
  have hO2 : ((w1.setCell ⟨g, 0, none⟩ (.slice A l.length c)).setCell ⟨g, 1, none⟩ (.int .i64 (endp a ns : Int))).ownsRow (w.heap.size + 1) 22 1 v ns.length ((vals l a ns).map (Value.int .u64)) :=
    ownsRow_setCell_below (ownsRow_setCell_below (by simpa using HO.out) (a := ⟨g, 0, none⟩) (by show g < _; omega) _) (a := ⟨g, 1, none⟩) (by show g < _; omega) _
  exact Ints.of_own hO2
end Go.Proofs.YtmolpnhgmdpdmaaDoor
