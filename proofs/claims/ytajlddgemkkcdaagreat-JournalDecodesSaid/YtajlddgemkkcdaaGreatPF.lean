/- The contracts of the reference's get and Decode. Conditions stand in each theorem. -/
import Derived.Test.YtajlddgemkkcdaaGreatPE
import Derived.Test.YtajlddgemkkcdaaGreatI
namespace Go.Proofs.YtajlddgemkkcdaaGreat
open Go.RowKit
set_option linter.unusedVariables false
set_option maxHeartbeats 4000000
set_option maxRecDepth 100000
attribute [local go_sem ↓ 100000] builtin_appX
theorem g4_sum {l : List UInt8} {p : Nat} (h : p + 4 ≤ l.length) : (g4 l p : Int) = (l[p].toNat : Int) + 256 * (l[p + 1].toNat : Int) + 65536 * (l[p + 2].toNat : Int) + 16777216 * (l[p + 3].toNat : Int) := by
  have e : (l.drop p).take 4 = [l[p], l[p + 1], l[p + 2], l[p + 3]] := by
    apply List.ext_getElem
    · rw [List.length_take, List.length_drop]; simp; omega
    · intro j h1 h2
      simp only [List.length_cons, List.length_nil] at h2
      rw [List.getElem_take, List.getElem_drop]
      match j, h2 with
      | 0, _ => rfl
      | 1, _ => rfl
      | 2, _ => rfl
      | 3, _ => rfl
  unfold g4
  rw [e]
  simp only [getV]
  omega
theorem get_any (v : Value) (l : List UInt8) (p : Nat) (P : Int) (w : World) (h : Byt w v l) (hP : P = (p : Int)) (hp : p + 4 ≤ l.length) (hl : l.length ≤ 1000000) : Calls Tryz.prog 24 #[v, .int .i64 P] w (Ret w (.int .i64 (g4 l p : Int))) := by
  subst hP
  have HS := Lib.hid (g4_sum hp)
  obtain ⟨A, c, rfl, hc, hr⟩ := h
  obtain ⟨b, o, rfl, hb, hcell⟩ := hr (by omega)
  have c0 := hcell p (by omega)
  have c1 := hcell (p + 1) (by omega)
  have c2 := hcell (p + 2) (by omega)
  have c3 := hcell (p + 3) (by omega)
  have b0 := l[p].toNat_lt
  have b1 := l[p + 1].toNat_lt
  have b2 := l[p + 2].toNat_lt
  have b3 := l[p + 3].toNat_lt
  generalize l[p].toNat = x0 at *
  generalize l[p + 1].toNat = x1 at *
  generalize l[p + 2].toNat = x2 at *
  generalize l[p + 3].toNat = x3 at *
  have hpi : (p : Int) + 4 ≤ (l.length : Int) := by omega
  have hli : (l.length : Int) ≤ 1000000 := by omega
  have p0 : (0 : Int) ≤ (p : Int) := by omega
  have y0 : (x0 : Int) ≤ 255 := by omega
  have y1 : (x1 : Int) ≤ 255 := by omega
  have y2 : (x2 : Int) ≤ 255 := by omega
  have y3 : (x3 : Int) ≤ 255 := by omega
  clear hcell hr b0 b1 b2 b3
  go_enter Tryz.func24, Tryz.ntmps24
  go_wp2
  go_quiet (fail)
  go_wp2
  go_ret
  exact ⟨by rw [HS.out]; rfl, (Gr.refl _).drewN _⟩
/-- One entry is appended to the entries of the reference. -/
theorem rent_step {W : World} {base k : Nat} {l : List UInt8} {A : Option Addr} {c : Nat} (ho : W.ownsRow base 37 2 (.slice A k c) (ents l k).length (en2 (ents l k))) (hb : base ≤ W.heap.size) (hk : k ≤ 8192) :
    ∃ B d W2, (appX #[24, 24] 24 #[.slice A k c, .slice (some ⟨W.heap.size, 0, none⟩) 1 1]).run Tryz.prog (W.alloc (.cells #[.int .i64 (entAt l (4 + 8 * k)).1, .int .i64 (entAt l (4 + 8 * k)).2] 37)) = .ok (.value (.slice B (k + 1) d)) W2 ∧
      W2.ownsRow base 37 2 (.slice B (k + 1) d) (ents l (k + 1)).length (en2 (ents l (k + 1))) ∧ Below base W W2 := by
  have hx : Ent (W.alloc (.cells #[.int .i64 (entAt l (4 + 8 * k)).1, .int .i64 (entAt l (4 + 8 * k)).2] 37)) (.slice (some ⟨W.heap.size, 0, none⟩) 1 1) [entAt l (4 + 8 * k)] := by
    refine ⟨_, 1, rfl, Nat.le_refl _, fun _ => ⟨W.heap.size, 0, rfl, by simp, fun j hj => ?_⟩⟩
    obtain rfl : j = 0 := by simpa using hj
    have e := heap_alloc_new W (.cells #[.int .i64 (entAt l (4 + 8 * k)).1, .int .i64 (entAt l (4 + 8 * k)).2] 37)
    exact ⟨cell_of_row _ W.heap.size 0 _ _ _ e, cell_of_row _ W.heap.size 1 _ _ _ e⟩
  have ho1 := own_below8 ho (alloc_below W (.cells #[.int .i64 (entAt l (4 + 8 * k)).1, .int .i64 (entAt l (4 + 8 * k)).2] 37))
  obtain ⟨B, d, W2, hrun, hown, hgr⟩ := app_ent (l := [entAt l (4 + 8 * k)]) ho1 hx (by rw [ents_length]; simp; omega) (by simp; omega)
  simp only [ents_length, List.length_append, List.length_cons, List.length_nil, Nat.zero_add] at hrun hown
  rw [← ents_succ] at hown
  refine ⟨B, d, W2, hrun, by rw [ents_length]; exact hown, ?_⟩
  exact ((Below.refl base W).alloc hb _).grown hgr (by simp; omega) (fun b hb' => (ho1.lt b hb').1)
theorem rent_step2 {W : World} {base k : Nat} {l : List UInt8} {A : Option Addr} {c : Nat} {X Y : Int} (hX : (g4 l (4 + 8 * k) : Int) = X) (hY : (g4 l (4 + 8 * k + 4) : Int) = Y) (ho : W.ownsRow base 37 2 (.slice A k c) (ents l k).length (en2 (ents l k))) (hb : base ≤ W.heap.size) (hk : k ≤ 8192) :
    ∃ B d W2, (appX #[24, 24] 24 #[.slice A k c, .slice (some ⟨W.heap.size, 0, none⟩) 1 1]).run Tryz.prog (W.alloc (.cells #[.int .i64 X, .int .i64 (Y - 1)] 37)) = .ok (.value (.slice B (k + 1) d)) W2 ∧
      W2.ownsRow base 37 2 (.slice B (k + 1) d) (ents l (k + 1)).length (en2 (ents l (k + 1))) ∧ Below base W W2 := by
  subst hX hY
  exact rent_step ho hb hk
theorem Ent.of_ents {W : World} {base k c : Nat} {A : Option Addr} {l : List UInt8} (h : W.ownsRow base 37 2 (.slice A k c) (ents l k).length (en2 (ents l k))) : Ent W (.slice A k c) (ents l k) := Ent.of_own h
theorem rdecode_any (v : Value) (l : List UInt8) (w : World) (h : Byt w v l) (hl : l.length ≤ 1000000) : Calls Tryz.prog 7 #[v] w (DecPost w l) := by
  have H := Lib.hid h
  obtain ⟨A, c, rfl, -, -⟩ := h
  have HC := Lib.hid (fun W => rcap_any (l.length : Int) W)
  have hls : (l.length : Int) ≤ 1000000 := by omega
  by_cases hc : capF l.length = 0
  · rw [hc] at HC
    have e1 := decE_arg hc
    have e2 : decL l = [] := decL_bad (by rw [e1]; decide)
    have HP : Hid (∀ W, Below w.heap.size w W → DecPost w l (.returned (.tuple #[.slice none 0 0, .int .i64 2])) W) := Lib.hid (fun W hW => ⟨⟨none, 0, by rw [e1, e2]; rfl, by rw [e2]; exact ⟨none, 0, rfl, Nat.le_refl _, fun h => absurd h (by simp)⟩⟩, hW⟩)
    clear e1 e2 hc
    go_enter Tryz.func7, Tryz.ntmps7
    go_wp2_with ((go_at_call 23; with_reducible refine (HC.out _).mono ?_); rintro e w1 ⟨rfl, hg⟩; have HB1 := Lib.hid hg.below; clear hg)
    go_ret2
    exact HP.out _ HB1.out
  have HCN := Lib.hid hc
  obtain ⟨n1, n2, n3⟩ := capF_pos hc
  have hl12 : 12 ≤ l.length := by omega
  have hl8 : l.length ≤ 8192 := by omega
  have hcb : (capF (l.length : Int) == 0) = false := by simpa using hc
  have HGT := Lib.hid (fun (W : World) (hW : Below w.heap.size w W) (p : Nat) (P : Int) (hP : P = (p : Int)) (hp : p + 4 ≤ l.length) => get_any (.slice A l.length c) l p P W (H.out.below hW) hP hp hl)
  have HBAD : Hid (¬ Good l → ∀ W, Below w.heap.size w W → DecPost w l (.returned (.tuple #[.slice none 0 0, .int .i64 6])) W) := Lib.hid (fun hg W hW => by
    have e1 := decE_bad hc hg
    have e2 : decL l = [] := decL_bad (by rw [e1]; decide)
    exact ⟨⟨none, 0, by rw [e1, e2]; rfl, by rw [e2]; exact ⟨none, 0, rfl, Nat.le_refl _, fun h => absurd h (by simp)⟩⟩, hW⟩)
  have hn4 := g4_lt l 0
  clear n1 n2
  by_cases hlong : capF (l.length : Int) < (g4 l 0 : Int)
  · have HNG := Lib.hid (show ¬ Good l from fun hG => by have := hG.1; rw [n3] at hlong; omega)
    generalize capF (l.length : Int) = cf at *
    generalize hN : g4 l 0 = N at *
    have HG0 := Lib.hid (fun (W : World) (hW : Below w.heap.size w W) => HGT.out W hW 0 0 rfl (by omega))
    rw [hN] at HG0
    clear n3 hc hN
    go_enter Tryz.func7, Tryz.ntmps7
    go_wp2_with (first
      | ((go_at_call 23; with_reducible refine (HC.out _).mono ?_); rintro e w1 ⟨rfl, hg⟩; first | (have HB3 := Lib.hid (HB2.out.trans (hg.below.mono HB2.out.size)); clear hg) | (have HB1 := Lib.hid hg.below; clear hg))
      | ((go_at_call 24; with_reducible refine (HG0.out _ HB1.out).mono ?_); rintro e w2 ⟨rfl, hg⟩; have HB2 := Lib.hid (HB1.out.trans (hg.below.mono HB1.out.size)); clear hg))
    go_ret2
    exact HBAD.out HNG.out _ HB3.out
  have hfit : 4 + 8 * g4 l 0 ≤ l.length := by rw [n3] at hlong; omega
  have HEA := Lib.hid (enc_again l hfit hc)
  have HFIT := Lib.hid hfit
  have hNl : g4 l 0 ≤ 1024 := by omega
  obtain ⟨N, hN⟩ : ∃ N, N = g4 l 0 := ⟨_, rfl⟩
  have HG0 : Hid (∀ (W : World) (hW : Below w.heap.size w W), Calls Tryz.prog 24 #[.slice A l.length c, .int .i64 0] W (Ret W (.int .i64 (N : Int)))) := Lib.hid (fun (W : World) (hW : Below w.heap.size w W) => by rw [hN]; exact HGT.out W hW 0 0 rfl (by omega))
  have HN := Lib.hid hN
  rw [← hN] at hlong hfit hn4 hNl
  generalize capF (l.length : Int) = cf at HC hcb hlong
  clear n3 hc hN
  go_enter Tryz.func7, Tryz.ntmps7
  go_wp2_with (first
    | ((go_at_call 23; with_reducible refine (HC.out _).mono ?_); rintro e w1 ⟨rfl, hg⟩; first | (have HB3 := Lib.hid (HB2.out.trans (hg.below.mono HB2.out.size)); clear hg) | (have HB1 := Lib.hid hg.below; clear hg))
    | ((go_at_call 24; with_reducible refine (HG0.out _ HB1.out).mono ?_); rintro e w2 ⟨rfl, hg⟩; have HB2 := Lib.hid (HB1.out.trans (hg.below.mono HB1.out.size)); clear hg))
  have HB0 := Lib.hid HB3.out
  clear HB1 HB2 HB3 HC HG0
  go_loopw [5, 6] (fun v i wr => ∃ (k : Nat) (A1 : Option Addr) (c1 : Nat), k ≤ N ∧ i = .int .i64 (k : Int) ∧ v = .slice A1 k c1 ∧ Hid (wr.ownsRow w.heap.size 37 2 (.slice A1 k c1) (ents l k).length (en2 (ents l k))) ∧ Hid (Below w.heap.size w wr)) (fun _ i _ => N - (RowKit.intOf i).toNat)
  case atStart => exact ⟨0, none, 0, Nat.zero_le _, rfl, rfl, Lib.hid (World.ownsRow_nil _ _ _ _), HB0⟩
  case round =>
    obtain ⟨k, A1, c1, hk, rfl, rfl, HO, HB⟩ := hrel
    clear HB0
    by_cases hlt : k < N
    · have hki : (k : Int) < (N : Int) := by omega
      have hk0 : (0 : Int) ≤ (k : Int) := by omega
      have hkk : (k : Int) ≤ 1024 := by omega
      have HG1 := Lib.hid (fun (W : World) (hW : Below w.heap.size w W) (P : Int) (hP : P = ((4 + 8 * k : Nat) : Int)) => HGT.out W hW (4 + 8 * k) P hP (by omega))
      have HG2 := Lib.hid (fun (W : World) (hW : Below w.heap.size w W) (P : Int) (hP : P = ((4 + 8 * k + 4 : Nat) : Int)) => HGT.out W hW (4 + 8 * k + 4) P hP (by omega))
      have u1 := g4_lt l (4 + 8 * k)
      have u2 := g4_lt l (4 + 8 * k + 4)
      obtain ⟨X, hX⟩ : ∃ X : Int, (g4 l (4 + 8 * k) : Int) = X := ⟨_, rfl⟩
      obtain ⟨Y, hY⟩ : ∃ Y : Int, (g4 l (4 + 8 * k + 4) : Int) = Y := ⟨_, rfl⟩
      have HRS := Lib.hid (fun (W : World) (hW : Below wr.heap.size wr W) => rent_step2 hX hY (own_below8 HO.out hW) (Nat.le_trans HB.out.size hW.size) (by omega))
      rw [hX] at HG1
      rw [hY] at HG2
      have v1 : 0 ≤ X := by omega
      have v2 : X ≤ 4294967295 := by omega
      have v3 : 0 ≤ Y := by omega
      have v4 : Y ≤ 4294967295 := by omega
      clear hX hY u1 u2 HGT
      go_wp2_with (first
        | ((go_at_call 24; with_reducible refine (HG1.out _ HB.out _ (by omega)).mono ?_); rintro e w2 ⟨rfl, hg⟩; have HW2 := Lib.hid hg.below; have HB2 := Lib.hid (HB.out.trans (hg.below.mono HB.out.size)); clear hg HG1)
        | ((go_at_call 24; with_reducible refine (HG2.out _ HB2.out _ (by omega)).mono ?_); rintro e w3 ⟨rfl, hg⟩; have HW3 := Lib.hid (HW2.out.trans (hg.below.mono HW2.out.size)); have HB3 := Lib.hid (HB2.out.trans (hg.below.mono HB2.out.size)); (obtain ⟨B, d, W5, hrun, hown, hb5⟩ := HRS.out _ HW3.out); have HO5 := Lib.hid hown; have HB5 := Lib.hid (HB3.out.trans hb5); clear hg hown hb5))
      go_roundw
      case rel => exact ⟨k + 1, B, d, by omega, by go_num, rfl, HO5, HB5⟩
      case measure => simp [RowKit.intOf]; omega
    · obtain rfl : k = N := by omega
      have hki : ¬ (k : Int) < (k : Int) := by omega
      have hkn := HN.out
      have hE := HEA.out
      rw [← hkn] at hE
      have HRE := Lib.hid (rencode_any (l.length : Int) (.slice A1 k c1) (ents l k) wr (Ent.of_ents HO.out) (by rw [ents_length]; omega))
      clear HGT
      cases ha : allB (ents l k) with
      | false =>
        rw [if_pos ha] at hE
        rw [hE.1] at HRE
        have HNG := Lib.hid (show ¬ Good l from fun hG => by have := hG.2.1; rw [← hkn, ha] at this; cases this)
        clear hE ha hkn
        go_wp2_with ((go_at_call 25; with_reducible refine HRE.out.mono ?_); rintro e w4 ⟨⟨va, rfl, hby⟩, hb⟩; have HB4 := Lib.hid (HB.out.trans (hb.mono HB.out.size)); clear hby hb)
        go_ret2
        exact HBAD.out HNG.out _ HB4.out
      | true =>
        rw [if_neg (by rw [ha]; decide)] at hE
        rw [hE.1] at HRE
        have hE2 := hE.2 hE.1
        have HST := Lib.hid (fun (W : World) (v : Value) (b : List UInt8) (h : Byt W v b) => run_string (P := Tryz.prog) 22 9 5 Tryz.underlying22 Tryz.underlying5 Tryz.underlying9 h)
        by_cases hz : encL (l.length : Int) (ents l k) = l
        · have HG : Hid (Good l) := Lib.hid ⟨by rw [← hkn]; exact hfit, by rw [← hkn]; exact ha, by rw [← hkn]; exact hE2.1 hz⟩
          rw [hz] at HRE
          have HFN : Hid (∀ W, Below w.heap.size w W → Ent W (.slice A1 k c1) (ents l k) → DecPost w l (.returned (.tuple #[.slice A1 k c1, .int .i64 0])) W) := Lib.hid (fun W hW he => by
            have e1 := decE_ok HCN.out HG.out
            have e2 : decL l = ents l k := by rw [decL_ok e1, hkn]
            refine ⟨⟨A1, c1, by rw [e1, e2, ents_length], ?_⟩, hW⟩
            have e3 : (Value.slice A1 k c1) = .slice A1 (ents l k).length c1 := by rw [ents_length]
            rw [e2, ← e3]
            exact he)
          have HEN := Lib.hid (Ent.of_ents HO.out)
          clear hE hE2 ha hz hkn
          go_upto_region 12 with ((go_at_call 25; with_reducible refine HRE.out.mono ?_); rintro e w4 ⟨⟨va, rfl, hby⟩, hb⟩; have HBY := Lib.hid hby; have HB4 := Lib.hid (HB.out.trans (hb.mono HB.out.size)); have HE4 := Lib.hid (HEN.out.below hb); clear hby hb)
          have s1 := HST.out _ _ _ HBY.out
          have s2 := HST.out _ _ _ (H.out.below HB4.out)
          generalize (⟨l.toArray⟩ : ByteArray) = st at *
          go_wp2
          go_ret2
          exact HFN.out _ HB4.out HE4.out
        · have HNG := Lib.hid (show ¬ Good l from fun hG => hz (hE2.2 (by have := hG.2.2; rw [← hkn] at this; exact this)))
          generalize encL (l.length : Int) (ents l k) = bs at *
          have hne : ((⟨bs.toArray⟩ : ByteArray).toList == (⟨l.toArray⟩ : ByteArray).toList) = false := by
            rw [ByteArray.toList_eq, ByteArray.toList_eq]
            simpa using hz
          clear hE hE2 ha hkn hz
          go_upto_region 12 with ((go_at_call 25; with_reducible refine HRE.out.mono ?_); rintro e w4 ⟨⟨va, rfl, hby⟩, hb⟩; have HBY := Lib.hid hby; have HB4 := Lib.hid (HB.out.trans (hb.mono HB.out.size)); clear hby hb)
          have s1 := HST.out _ _ _ HBY.out
          have s2 := HST.out _ _ _ (H.out.below HB4.out)
          generalize (⟨l.toArray⟩ : ByteArray) = st at *
          generalize (⟨bs.toArray⟩ : ByteArray) = sb at *
          go_wp2
          go_ret2
          exact HBAD.out HNG.out _ HB4.out
end Go.Proofs.YtajlddgemkkcdaaGreat
