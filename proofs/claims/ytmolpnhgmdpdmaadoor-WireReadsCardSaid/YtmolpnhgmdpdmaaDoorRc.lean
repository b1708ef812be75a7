/- The reference's Own, Zeros and GetAll. Conditions stand in each theorem. -/
import Derived.Test.YtmolpnhgmdpdmaaDoorRb
import Derived.OwnWalk
namespace Go.Proofs.YtmolpnhgmdpdmaaDoor
open Go.RowKit
set_option linter.unusedVariables false
set_option maxHeartbeats 1000000

theorem refOwn_any (v : Value) (l : List UInt8) (w : World) (h : Byt w v l) (hl : l.length ≤ 1099511627776) :
    Calls Tryd.prog 29 #[v] w fun e w' => (∃ r, e = .returned r ∧ w'.ownsRow w.heap.size 5 1 r l.length (bv l)) ∧ Below w.heap.size w w' := by
  obtain ⟨v1, w1, hrun, h2, h3, -⟩ := run_append_own_src w w.heap.size 0 (.slice none 0 0) v [] l 23 (World.ownsRow_nil _ _ _ _) h (by omega) (Nat.le_refl _)
  have Hrun := Lib.hid hrun
  have H2 := Lib.hid (show w1.ownsRow w.heap.size 5 1 v1 l.length (bv l) by simpa using h2)
  have H3 := Lib.hid (show Below w.heap.size w w1 from (Below.refl _ _).grown h3 (Nat.le_refl _) (fun b hb => by simp [Value.ownBlock] at hb))
  clear hrun h2 h3 h
  go_enter Tryd.func29, Tryd.ntmps29
  go_wp2_with (at_builtin; refine wpList_append_run rfl (.const (.slice none 0 0)) (.tmp 3) 23 23 rfl _ _ _ w1 rfl rfl Hrun.out ?_)
  go_ret
  exact ⟨⟨_, rfl, H2.out⟩, H3.out⟩
def AllZero (m : List UInt8) : Prop := ∀ j (hj : j < m.length), m[j] = 0
set_option maxRecDepth 100000 in
theorem refZeros_any (v : Value) (m : List UInt8) (w : World) (h : Byt w v m) (hl : m.length ≤ 9223372036854775807) :
    Calls Tryd.prog 58 #[v] w fun e w' => ((AllZero m ∧ e = .returned (.bool true)) ∨ (¬ AllZero m ∧ e = .returned (.bool false))) ∧ w = w' := by
  obtain ⟨A, c, rfl, hc, hr⟩ := h
  have Hr := Lib.hid hr; clear hr
  go_enter Tryd.func58, Tryd.ntmps58
  go_wp2
  go_loop [3] (fun i => ∃ k : Nat, k ≤ m.length ∧ i = .int .i64 k ∧ Hid (∀ j (hj : j < m.length), j < k → m[j] = 0)) (fun i => m.length - (intOf i).toNat)
  case atStart => exact ⟨0, Nat.zero_le _, rfl, Lib.hid (fun j hj h => absurd h (by omega))⟩
  case round =>
    obtain ⟨k, hk, rfl, HK⟩ := hrel
    by_cases hlt : k < m.length
    · obtain ⟨b, o, rfl, hb, hcell⟩ := Hr.out (by omega)
      have hck := hcell k (by omega)
      have i0 : (0 : Int) ≤ k := by omega
      have i1 : (k : Int) < m.length := by omega
      by_cases hb0 : m[k] = 0
      · have HK2 := Lib.hid (show ∀ j (hj : j < m.length), j < k + 1 → m[j] = 0 from fun j hj hjk => by
          rcases Nat.lt_or_ge j k with h | h
          · exact HK.out j hj h
          · have e : j = k := by omega
            subst e; exact hb0)
        rw [hb0] at hck
        have hck' : w.cell? ⟨b, o + k, none⟩ = some (.int .u8 0) := hck
        clear hcell hck hb0 HK
        go_wp2
        go_round
        case rel => exact ⟨k + 1, by omega, by go_num, HK2⟩
        case measure => simp [intOf]; omega
      · have hx := byte_int hb0
        have Hb0 := Lib.hid hb0
        obtain ⟨X, hX⟩ : ∃ X : Int, X = (m[k].toNat : Int) := ⟨_, rfl⟩
        rw [← hX] at hck hx
        clear hcell hb0 hX HK
        go_wp2
        go_ret
        exact ⟨.inr ⟨fun hz => Hb0.out (hz k hlt), rfl⟩, rfl⟩
    · have Hz := Lib.hid (show AllZero m from fun j hj => HK.out j hj (by omega))
      clear HK Hr
      go_wp2
      go_ret
      exact ⟨.inl ⟨Hz.out, rfl⟩, rfl⟩
/-- What GetAll answers. -/
def GAPost (w : World) (L : List UInt8) (ns : List Int) (e : Ending) (w' : World) : Prop :=
  ((rdAllE L 0 ns = 0 ∧ ∃ v, e = .returned (.tuple #[v, .int .i64 (endp 0 ns : Nat), .int .i64 0]) ∧ Ints .u64 w' v (vals L 0 ns)) ∨
   (rdAllE L 0 ns ≠ 0 ∧ e = .returned (.tuple #[.slice none 0 0, .int .i64 0, .int .i64 (rdAllE L 0 ns)]))) ∧ Below w.heap.size w w'
theorem getZ_of {l : List UInt8} {p m : Nat} (hm1 : 1 ≤ m) (hm8 : m ≤ 8) (hf : p + m ≤ l.length) : getZ ((l.drop p).take m) = getV ((l.drop p).take m) ∧ getE ((l.drop p).take m) = 0 := by
  have hlen : ((l.drop p).take m).length = m := by rw [List.length_take, List.length_drop]; omega
  unfold getZ getE
  rw [hlen, if_neg (by omega), if_neg (by omega)]
  exact ⟨rfl, rfl⟩
set_option maxRecDepth 100000 in
theorem refGetAll_any (bv sv : Value) (L : List UInt8) (ns : List Int) (w : World) (hB : Byt w bv L) (hL : L.length ≤ 1099511627776) (hs : Ints .i64 w sv ns) (hlen : ns.length ≤ 1048576) :
    Calls Tryd.prog 57 #[bv, sv] w (GAPost w L ns) := by
  obtain ⟨i0, hi0, hz0, hz1, hz2⟩ := info_parts u64_info
  have HB0 := Lib.hid hB
  obtain ⟨Ab, cb, rfl, hcb, -⟩ := hB
  obtain ⟨A, c, rfl, hc, hsr⟩ := hs
  have Hs := Lib.hid hsr; clear hsr
  go_enter Tryd.func57, Tryd.ntmps57
  go_wp2
  go_loopw [7, 8, 9] (fun v ap i wr => ∃ (k p : Nat) (acc : List Int), k ≤ ns.length ∧ p ≤ L.length ∧ i = .int .i64 k ∧ ap = .int .i64 p ∧ Hid (acc.length = k) ∧ Hid (wr.ownsRow w.heap.size 22 1 v k (acc.map (Value.int .u64))) ∧ Hid (rdAllE L 0 ns = rdAllE L p (ns.drop k)) ∧ Hid (vals L 0 ns = acc ++ vals L p (ns.drop k)) ∧ Hid (endp 0 ns = endp p (ns.drop k)) ∧ Hid (Below w.heap.size w wr)) (fun _ _ i _ => ns.length - (intOf i).toNat)
  case atStart => exact ⟨0, 0, [], Nat.zero_le _, Nat.zero_le _, rfl, rfl, rfl, World.ownsRow_nil _ _ _ _, rfl, rfl, rfl, Below.refl _ _⟩
  case round =>
    obtain ⟨k, p, acc, hk, hp, rfl, rfl, HA, HO, HE, HV, HN, HB⟩ := hrel
    by_cases hlt : k < ns.length
    · obtain ⟨g, o, rfl, hg, hcell⟩ := Hs.out (by omega)
      have hck : wr.cell? ⟨g, o + k, none⟩ = some (.int .i64 ns[k]) := (HB.out.cell (by exact hg)).trans (hcell k hlt)
      have k0 : (0 : Int) ≤ k := by omega
      have k1 : (k : Int) < ns.length := by omega
      have Hgl := Lib.hid hg; have Hc0 := Lib.hid (hcell k hlt)
      clear hcell hg
      rcases rdE_cases L p ns[k] with ⟨hbad, e⟩ | ⟨m, hm, h1, h2, h3, e⟩ | ⟨m, hm, h1, h2, h3, e⟩
      · have HEE := Lib.hid (HE.out.trans ((rdAllE_stop hlt (by rw [e]; decide)).trans e))
        obtain ⟨Z, hZ⟩ : ∃ Z, Z = ns[k] := ⟨_, rfl⟩
        rw [← hZ] at hck hbad
        clear hZ e HE HV HN HO HA
        rcases hbad with hbad | hbad
        · go_wp2
          go_ret3
          exact ⟨.inr ⟨by rw [HEE.out]; decide, by rw [HEE.out]; rfl⟩, HB.out⟩
        · have hbad' : 1 ≤ Z := by omega
          go_wp2
          go_ret3
          exact ⟨.inr ⟨by rw [HEE.out]; decide, by rw [HEE.out]; rfl⟩, HB.out⟩
      · have HEE := Lib.hid (HE.out.trans ((rdAllE_stop hlt (by rw [e]; decide)).trans e))
        rw [hm] at hck
        have q1 : (1 : Int) ≤ m := by omega
        have q2 : (m : Int) ≤ 8 := by omega
        have q3 : (L.length : Int) - p < m := by omega
        clear e HE HV HN HO HA hm
        go_wp2
        go_ret3
        exact ⟨.inr ⟨by rw [HEE.out]; decide, by rw [HEE.out]; rfl⟩, HB.out⟩
      · have HE1 := Lib.hid (HE.out.trans (rdAllE_step hlt e))
        rw [hm] at hck
        rw [hm, Int.toNat_natCast] at HE1
        have Hm := Lib.hid hm
        have hc0 := Hc0.out
        rw [hm] at hc0
        have Hck0 := Lib.hid hc0
        clear hc0 Hc0
        have q1 : (1 : Int) ≤ m := by omega
        have q2 : (m : Int) ≤ 8 := by omega
        have q3 : (m : Int) ≤ (L.length : Int) - p := by omega
        have Hsub := Lib.hid (sub_byt (a := p) (n := m) (HB0.out.below HB.out) h3 (by omega))
        have Hg := Lib.hid (getZ_of (l := L) h1 h2 h3)
        have Hln := Lib.hid (show ((L.drop p).take m).length ≤ 9223372036854775807 by rw [List.length_take]; omega)
        clear e HE hm
        go_wp2_with fail
        refine (refGet_any _ _ _ Hsub.out Hln.out).mono ?_
        rintro e w' ⟨rfl, rfl⟩
        rw [Hg.out.1, Hg.out.2]
        obtain ⟨X, hX⟩ : ∃ X : Nat, X = getV ((L.drop p).take m) := ⟨_, rfl⟩
        rw [← hX]
        have HX := Lib.hid hX
        clear hX Hsub Hg Hln
        go_wp2_with (at_builtin; (refine wpList_append_own_at _ rfl (.tmp 52) (.tmp 54) 72 rfl w.heap.size 22 i0 (.int .u64 0) 1 8 Tryd.underlying72 hi0 hz0 hz1 hz2 rfl (by decide) _ k (acc.map (Value.int .u64)) rfl (HO.out.alloc _) ⟨wr.heap.size, 0, none⟩ 1 1 [.int .u64 (X : Int)] rfl rfl ?c1 ?c2 ?c3 ?c4 ?c5 ?_))
        case c1 =>
          intro j u hj
          match j, hj with
          | 0, hj => simp at hj; subst hj; simp [Addr.add]
        case c2 => intro u hu; simp at hu; subst hu; rfl
        case c3 => unfold maxLen; omega
        case c4 => omega
        case c5 => have := HB.out.size; simp; omega
        intro v' w2 hown' hgrow _ hat'
        have hb2 : Below w.heap.size w w2 := (HB.out.alloc HB.out.size _).grown hgrow (by have := HB.out.size; simp; omega) (own_row_ge HO.out)
        have hck2 : w2.cell? ⟨g, o + k, none⟩ = some (.int .i64 (m : Int)) := (hb2.cell (by exact Hgl.out)).trans Hck0.out
        have HB2 := Lib.hid hb2
        have HO2 := Lib.hid (show w2.ownsRow w.heap.size 22 1 v' (k + 1) ((acc ++ [(X : Int)]).map (Value.int .u64)) by rw [List.map_append]; exact hown')
        have HA2 := Lib.hid (show (acc ++ [(X : Int)]).length = k + 1 by rw [List.length_append, HA.out]; rfl)
        have HV2 := Lib.hid (show vals L 0 ns = (acc ++ [(X : Int)]) ++ vals L (p + m) (ns.drop (k + 1)) by
          rw [HV.out, drop_cons hlt, List.append_assoc, HX.out]
          simp only [vals, Hm.out, Int.toNat_natCast]; rfl)
        have HN2 := Lib.hid (show endp 0 ns = endp (p + m) (ns.drop (k + 1)) by
          rw [HN.out, drop_cons hlt]
          simp only [endp, Hm.out, Int.toNat_natCast])
        clear hown' hgrow hat' hb2 HO HB HV HN HA HX hck
        go_wp2
        go_roundw
        case rel => exact ⟨k + 1, p + m, _, by omega, h3, by go_num, by go_num, HA2, HO2, HE1, HV2, HN2, HB2⟩
        case measure => simp [intOf]; omega
    · have He := Lib.hid (show k = ns.length by omega)
      clear Hs HB0
      go_wp2
      go_ret3
      have hd : ns.drop k = [] := List.drop_eq_nil_of_le (by omega)
      have h1 := HV.out; have h2 := HN.out; have h3 := HE.out
      rw [hd] at h1 h2 h3
      simp only [vals, endp, List.append_nil] at h1 h2
      refine ⟨.inl ⟨h3, u7, ?_, ?_⟩, HB.out⟩
      · rw [h2]; rfl
      · rw [h1]; exact Ints.of_own HO.out
end Go.Proofs.YtmolpnhgmdpdmaaDoor
