/- Two mappings of the call's own; the walk of MappingRebuilds. No condition. -/
import Derived.Test.YteiemegkdnjpgaaT
namespace Go.Proofs.Yteiemegkdnjpgaa
open Go.RowKit Go.Shelf
set_option linter.unusedVariables false
set_option maxHeartbeats 16000000
set_option maxRecDepth 100000
/-- The blocks of a mapping. -/
structure Pt where
  bb : Nat
  m1 : Nat
  m2 : Nat
  g : Nat
  cap : Nat
/-- A mapping at P, all of it from base on. -/
def Mq (W : World) (base : Nat) (P : Pt) (s b p : Nat) (L : List (Int × Int)) : Prop := Mg W base P.bb P.m1 P.m2 P.g P.cap s b p L
/-- Two mappings of the call's own: that at P is older than B, that at Q is not. -/
structure TW (w : World) (B : Nat) (P Q : Pt) (s b p : Nat) (L L' : List (Int × Int)) (W : World) : Prop where
  m : Mq W w.heap.size P s b p L
  o : Mq W B Q s b p L'
  lo : P.bb < B ∧ P.m1 < B ∧ P.m2 < B ∧ P.g < B
  bel : Below w.heap.size w W
  hB : w.heap.size ≤ B
section
variable {w W W' : World} {B : Nat} {P Q : Pt} {s b p : Nat} {L L' L2 : List (Int × Int)}
theorem TW.later (h : TW w B P Q s b p L L' W) (hb : Below W.heap.size W W') : TW w B P Q s b p L L' W' :=
  ⟨Mg.below h.m hb, Mg.below h.o hb, h.lo, h.bel.trans (hb.mono h.bel.size), h.hB⟩
theorem TW.ft1 (h : TW w B P Q s b p L L' W) {k : Nat} (hk : Ft P.m1 P.m2 P.g k) : k < B := by
  have := h.lo
  rcases hk with rfl | rfl | rfl <;> omega
theorem TW.ft2 (h : TW w B P Q s b p L L' W) {k : Nat} (hk : Ft Q.m1 Q.m2 Q.g k) : B ≤ k := Mg.ft_ge h.o hk
theorem TW.mv1 (h : TW w B P Q s b p L L' W) (hm : Mg W' w.heap.size P.bb P.m1 P.m2 P.g P.cap s b p L2) (hc : Chg (Ft P.m1 P.m2 P.g) W W') : TW w B P Q s b p L2 L' W' :=
  ⟨hm, Mg.chg h.o hc (fun hk => by have := h.ft1 hk; have := h.o.h0; omega) (fun k hk hk2 => by have := h.ft1 hk2; have := h.ft2 hk; omega), h.lo, h.bel.trans (hc.below h.bel.size (fun k hk => Mg.ft_ge h.m hk)), h.hB⟩
theorem TW.mv2 (h : TW w B P Q s b p L L' W) (hm : Mg W' B Q.bb Q.m1 Q.m2 Q.g Q.cap s b p L2) (hc : Chg (Ft Q.m1 Q.m2 Q.g) W W') : TW w B P Q s b p L L2 W' :=
  ⟨Mg.chg h.m hc (fun hk => by have := h.ft2 hk; have := h.lo; omega) (fun k hk hk2 => by have := h.ft1 hk; have := h.ft2 hk2; omega), hm, h.lo, h.bel.trans (hc.below h.bel.size (fun k hk => by have := h.ft2 hk; have := h.hB; omega)), h.hB⟩
theorem old_own {W : World} {v : Value} {xs : List (Int × Int)} (hv : Ent W v xs) (h0 : 0 < xs.length) {k : Nat} (hk : v.ownBlock = some k) : k < W.heap.size := by
  obtain ⟨A, c, rfl, _, hr⟩ := hv
  obtain ⟨g', o, cs, ty, fr, rfl, hg, _⟩ := hr h0
  simp only [Value.ownBlock, Option.some.injEq] at hk
  subst hk
  exact (Array.getElem?_eq_some_iff.1 hg).1
theorem tw_ap1 (h : TW w B P Q s b p L L' W) {v : Value} {xs : List (Int × Int)} (hv : Ent w v xs) (hl : xs.length ≤ 4096) (hR : Rng xs) : Calls Try.prog 14 #[.pointer (some ⟨P.bb, 0, none⟩), v] W fun e w' => e = .returned (.int .i64 (appE s b p L xs)) ∧ TW w B P Q s b p (appS s b p L L xs) L' w' :=
  (Apply_any h.m (hv.below h.bel) (fun h0 k hk hf => by have := old_own hv h0 hk; have := Mg.ft_ge h.m hf; omega) hl hR).mono fun e w' ⟨a1, a2, a3⟩ => ⟨a1, h.mv1 a2 a3⟩
theorem tw_ap2 (h : TW w B P Q s b p L L' W) {v : Value} {xs : List (Int × Int)} (hv : Ent w v xs) (hl : xs.length ≤ 4096) (hR : Rng xs) : Calls Try.prog 14 #[.pointer (some ⟨Q.bb, 0, none⟩), v] W fun e w' => e = .returned (.int .i64 (appE s b p L' xs)) ∧ TW w B P Q s b p L (appS s b p L' L' xs) w' :=
  (Apply_any h.o (hv.below h.bel) (fun h0 k hk hf => by have := old_own hv h0 hk; have := h.ft2 hf; have := h.hB; omega) hl hR).mono fun e w' ⟨a1, a2, a3⟩ => ⟨a1, h.mv2 a2 a3⟩
theorem TW.ent1 (h : TW w B P Q s b p L L' W) : Calls Try.prog 27 #[.pointer (some ⟨P.bb, 0, none⟩)] W (LisP W L) := Entries_any h.m
theorem TW.ent2 (h : TW w B P Q s b p L L' W) : Calls Try.prog 27 #[.pointer (some ⟨Q.bb, 0, none⟩)] W (LisP W L') := Entries_any h.o
theorem TW.val1 (h : TW w B P Q s b p L L' W) (q k : Int) (e1 : valid b p L q = k) : Calls Try.prog 24 #[.pointer (some ⟨P.bb, 0, none⟩), .int .i64 q] W fun e w' => e = .returned (.int .i64 k) ∧ TW w B P Q s b p L L' w' := by
  subst e1
  exact (Valid_any h.m q).mono fun e w' ⟨a1, a2⟩ => ⟨a1, h.later a2⟩
theorem TW.val2 (h : TW w B P Q s b p L L' W) (q k : Int) (e1 : valid b p L' q = k) : Calls Try.prog 24 #[.pointer (some ⟨Q.bb, 0, none⟩), .int .i64 q] W fun e w' => e = .returned (.int .i64 k) ∧ TW w B P Q s b p L L' w' := by
  subst e1
  exact (Valid_any h.o q).mono fun e w' ⟨a1, a2⟩ => ⟨a1, h.later a2⟩
end
/-- The entries of a mapping, applied to an empty one, give it again. -/
theorem ins_last {q c : Int} : ∀ (l : List (Int × Int)), (∀ y ∈ l, y.1 < q) → ins q c l = l ++ [(q, c)]
  | [], _ => rfl
  | y :: r, h => by
    have h1 := h y List.mem_cons_self
    unfold ins
    rw [if_neg (by omega), ins_last r fun z hz => h z (List.mem_cons_of_mem _ hz)]
    rfl
theorem app_self {s b p : Nat} {M : List (Int × Int)} (hF : Fits s b p M) : ∀ (r l : List (Int × Int)), l ++ r = M → Fits s b p l → appE s b p l r = 0 ∧ appS s b p [] l r = M
  | [], l, h, _ => ⟨rfl, by rw [List.append_nil] at h; exact h⟩
  | x :: r, l, h, hl => by
    have hx : x ∈ M := by rw [← h]; simp
    have hrg := hF.rng x hx
    have hsr := hF.srt
    have hin := hF.inj
    rw [← h, List.pairwise_append] at hsr hin
    have hlt : ∀ y ∈ l, y.1 < x.1 := fun y hy => hsr.2.2 y hy x List.mem_cons_self
    have hne : ∀ y ∈ l, y.2 ≠ x.2 := fun y hy => hin.2.2 y hy x List.mem_cons_self
    have hr : reqE s b p l x.1 x.2 = 0 := by
      unfold reqE
      rw [if_neg (by omega)]
      have : look (flip l) x.2 = none := look_none.2 fun y hy => hne _ (mem_flip.1 hy)
      rw [this]
    have hd : del x.1 l = l := del_none (look_none.2 fun y hy => by have := hlt y hy; omega)
    have ha : asg l x.1 x.2 = l ++ [x] := by
      unfold asg
      rw [if_neg (by omega), hd, ins_last l hlt]
    have hf := hl.asg hr
    rw [ha] at hf
    have ih := app_self hF r (l ++ [x]) (by rw [List.append_assoc]; exact h) hf
    rw [appE_cons, appS_cons, if_pos hr, if_pos hr, ha]
    exact ih
theorem Fits.empty {s b p : Nat} {L : List (Int × Int)} (h : Fits s b p L) : Fits s b p [] := ⟨h.hs, h.hb, h.hp, List.Pairwise.nil, by simp, List.Pairwise.nil⟩
theorem Fits.rngs {s b p : Nat} {L : List (Int × Int)} (h : Fits s b p L) : Rng L := fun x hx => by
  have h1 := h.rng x hx
  have h2 := h.hs
  have h3 := h.n
  unfold I64
  omega
theorem rebuilds_any (s b p : Int) (v : Value) (ls : List (List (Int × Int))) (w : World) (h : Lol w v ls) (hR : ∀ l ∈ ls, Rng l) : Calls Try.prog 6 #[.int .i64 s, .int .i64 b, .int .i64 p, v] w (OkB w) := by
  have HW := Lib.hid (fun W => works_any W)
  have HFW := Lib.hid (few_any v ls 30 w h (by omega))
  have HR := Lib.hid hR
  obtain ⟨A, c, rfl, hr⟩ := h
  have HL := Lib.hid hr
  clear hr hR
  by_cases hs : 30 < s
  · go_enter Try.func6, Try.ntmps6
    go_wp2_with ((go_at_call 12; with_reducible refine (HW.out _).mono ?_); rintro e w1 ⟨rfl, hb⟩; have HB := Lib.hid hb; clear hb)
    go_ret
    exact ⟨rfl, HB.out⟩
  by_cases hbk : 8 < b
  · go_enter Try.func6, Try.ntmps6
    go_wp2_with ((go_at_call 12; with_reducible refine (HW.out _).mono ?_); rintro e w1 ⟨rfl, hb⟩; have HB := Lib.hid hb; clear hb)
    go_ret
    exact ⟨rfl, HB.out⟩
  by_cases hpg : 8 < p
  · go_enter Try.func6, Try.ntmps6
    go_wp2_with ((go_at_call 12; with_reducible refine (HW.out _).mono ?_); rintro e w1 ⟨rfl, hb⟩; have HB := Lib.hid hb; clear hb)
    go_ret
    exact ⟨rfl, HB.out⟩
  cases hf : fewB ls 30
  · rw [hf] at HFW
    clear hf
    go_enter Try.func6, Try.ntmps6
    go_wp2_with (first
      | ((go_at_call 11; with_reducible refine HFW.out.mono ?_); rintro e w' ⟨rfl, rfl⟩)
      | ((go_at_call 12; with_reducible refine (HW.out _).mono ?_); rintro e w1 ⟨rfl, hb⟩; have HB := Lib.hid hb; clear hb))
    go_ret
    exact ⟨rfl, HB.out⟩
  obtain ⟨hl1, hl2⟩ := few_len hf
  have HL2 := Lib.hid hl2
  rw [hf] at HFW
  clear hf hl2
  cases hv : valB s b p
  · have HN := Lib.hid (fun W => New_bad s b p W hv)
    clear hv
    go_enter Try.func6, Try.ntmps6
    go_wp2_with (first
      | ((go_at_call 11; with_reducible refine HFW.out.mono ?_); rintro e w' ⟨rfl, rfl⟩)
      | ((go_at_call 8; with_reducible refine (HN.out w).mono ?_); rintro e w0 ⟨rfl, hb⟩; have HB0 := Lib.hid hb; clear hb)
      | ((go_at_call 8; with_reducible refine (HN.out _).mono ?_); rintro e w0' ⟨rfl, hb⟩; have HB00 := Lib.hid (HB0.out.trans (hb.mono HB0.out.size)); clear hb)
      | ((go_at_call 10; with_reducible refine (num_any _ _).mono ?_); rintro e w' ⟨rfl, rfl⟩)
      | ((go_at_call 12; with_reducible refine (HW.out _).mono ?_); rintro e w1 hb; have HB := Lib.hid (ok_then HB00.out hb); obtain ⟨rfl, -⟩ := hb))
    go_ret
    exact ⟨rfl, HB.out.2⟩
  obtain ⟨s, b, p, rfl, rfl, rfl, hF⟩ := valB_nat hv
  have HN := Lib.hid (new_ws (w := w) (Below.refl _ _) hF)
  have HN2 := Lib.hid (fun W => New_ok s b p W hF)
  have hs2 : (s : Int) ≤ 30 := by omega
  have hb2 : (b : Int) ≤ 8 := by omega
  have hp2 : (p : Int) ≤ 8 := by omega
  clear hv hF
  go_enter Try.func6, Try.ntmps6
  go_wp2_with (first
    | ((go_at_call 11; with_reducible refine HFW.out.mono ?_); rintro e w' ⟨rfl, rfl⟩)
    | ((go_at_call 8; with_reducible refine HN.out.mono ?_); rintro e W0 ⟨bb, m1, m2, g, cap, rfl, hS⟩; have S0 := Lib.hid hS; clear hS)
    | ((go_at_call 8; with_reducible refine (HN2.out _).mono ?_); rintro e W1 ⟨bb', m1', m2', g', cap', rfl, hm, hb⟩; have T0 := Lib.hid (show TW w W0.heap.size ⟨bb, m1, m2, g, cap⟩ ⟨bb', m1', m2', g', cap'⟩ s b p [] [] W1 from ⟨Mg.below S0.out.mg hb, hm, ⟨S0.out.mg.lt, S0.out.mg.map1.lt, S0.out.mg.map2.lt, S0.out.mg.row.lt⟩, S0.out.bel.trans (hb.mono S0.out.bel.size), S0.out.bel.size⟩); clear hm hb)
    | ((go_at_call 10; with_reducible refine (num_any _ _).mono ?_); rintro e w' ⟨rfl, rfl⟩))
  obtain ⟨P, hP⟩ : ∃ P : Pt, P = ⟨bb, m1, m2, g, cap⟩ := ⟨_, rfl⟩
  obtain ⟨Q, hQ⟩ : ∃ Q : Pt, Q = ⟨bb', m1', m2', g', cap'⟩ := ⟨_, rfl⟩
  have e1 : bb = P.bb := by rw [hP]
  have e2 : bb' = Q.bb := by rw [hQ]
  rw [← hP, ← hQ] at T0
  simp only [e1, e2]
  clear hP hQ e1 e2 S0
  generalize W0.heap.size = B at *
  go_loopw [13] (fun i wr => ∃ (k : Nat) (L : List (Int × Int)), k ≤ ls.length ∧ i = .int .i64 k ∧ Hid (TW w B P Q s b p L [] wr)) (fun i _ => ls.length - (RowKit.intOf i).toNat)
  case atStart => exact ⟨0, _, Nat.zero_le _, rfl, T0⟩
  case round =>
    obtain ⟨k, L, hk, rfl, SK⟩ := hrel
    by_cases hlt : k < ls.length
    · obtain ⟨g', o, rfl, hg', hc⟩ := HL.out (by omega)
      obtain ⟨u, h1, h2⟩ := hc k hlt
      have c1 := (SK.out.bel.cell (p := ⟨g', o + k, none⟩) hg').trans h1
      have HAP := Lib.hid (tw_ap1 SK.out h2 (by have := HL2.out _ (List.getElem_mem hlt); omega) (HR.out _ (List.getElem_mem hlt)))
      obtain ⟨A2, c2, rfl, _⟩ := h2.form
      clear h1 h2 hc
      generalize ls[k] = xs at *
      generalize xs.length = nx at *
      generalize appS s b p L L xs = L1 at *
      generalize appE s b p L xs = E1 at *
      go_wp2_with ((go_at_call 14; with_reducible refine HAP.out.mono ?_); rintro e W2 ⟨rfl, hS⟩; have S1 := Lib.hid hS; clear hS)
      go_roundw
      case rel => exact ⟨k + 1, _, by omega, by go_num, S1⟩
      case measure => simp [RowKit.intOf]; omega
    · have hkl : k = ls.length := by omega
      subst hkl
      have HFT := Lib.hid (Mg.fit SK.out.m)
      have hLs : L.length ≤ s := HFT.out.len
      have hap := app_self HFT.out L [] rfl HFT.out.empty
      have HAP := Lib.hid hap
      have hL16 : L.length ≤ 16777216 := by omega
      clear hap HL HL2 HR
      go_wp2_with (first
        | ((go_at_call 27; with_reducible refine SK.out.ent1.mono ?_); rintro e W2 ⟨v1, rfl, hen, hvo, hbe⟩; have S2 := Lib.hid (SK.out.later hbe); have HO2 := Lib.hid (show Calls Try.prog 14 #[.pointer (some ⟨Q.bb, 0, none⟩), v1] W2 fun e w' => e = .returned (.int .i64 0) ∧ TW w B P Q s b p L L w' from by
            have := Apply_any S2.out.o hen (fun _ k hk hf => by have := hvo k hk; have := Mg.ft_lt SK.out.o hf; omega) (by omega) HFT.out.rngs
            rw [HAP.out.1, HAP.out.2] at this
            exact this.mono fun e w' ⟨a1, a2, a3⟩ => ⟨a1, S2.out.mv2 a2 a3⟩); obtain ⟨A1, c1, hv1, _⟩ := hen.form; subst hv1; clear hen hvo hbe)
        | ((go_at_call 14; with_reducible refine HO2.out.mono ?_); rintro e W3 ⟨rfl, hS⟩; have S3 := Lib.hid hS; clear hS)
        | ((go_at_call 10; with_reducible refine (num_any _ _).mono ?_); rintro e w' ⟨rfl, rfl⟩)
        | ((go_at_call 27; with_reducible refine S3.out.ent1.mono ?_); rintro e W4 ⟨v2, rfl, hen, hvo, hbe⟩; have S4 := Lib.hid (S3.out.later hbe); obtain ⟨A3, c3, hv2, _⟩ := hen.form; subst hv2; have HE4 := Lib.hid hen; clear hen hvo hbe)
        | ((go_at_call 27; with_reducible refine S4.out.ent2.mono ?_); rintro e W5 ⟨v3, rfl, hen, hvo, hbe⟩; have S5 := Lib.hid (S4.out.later hbe); obtain ⟨A4, c4, hv3, _⟩ := hen.form; subst hv3; have HE5 := Lib.hid hen; have HE45 := Lib.hid (HE4.out.below hbe); clear hen hvo hbe)
        | ((go_at_call 20; with_reducible refine (same_any HE45.out HE5.out hL16 hL16).mono ?_); rintro e W6 ⟨he, hb⟩; have he2 := he.trans (congrArg (fun t => Ending.returned (.bool t)) (decide_eq_true (rfl : L = L))); subst he2; have S6 := Lib.hid (S5.out.later hb); clear hb he))
      go_loopw [14] (fun i wr => ∃ k2 : Nat, k2 ≤ b ∧ i = .int .i64 k2 ∧ Hid (TW w B P Q s b p L L wr)) (fun i _ => b - (RowKit.intOf i).toNat)
      case atStart => exact ⟨0, Nat.zero_le _, rfl, S6⟩
      case round =>
        obtain ⟨k2, hk2, rfl, SC⟩ := hrel
        by_cases hlt2 : k2 < b
        · have hli2 : (k2 : Int) < b := by omega
          have HV1 := Lib.hid (SC.out.val1 (k2 : Int) (cntB p L k2) (valid_at hlt2))
          have HV2 := Lib.hid (fun (W : World) (h : TW w B P Q s b p L L W) => h.val2 (k2 : Int) (cntB p L k2) (valid_at hlt2))
          generalize cntB p L (k2 : Int) = cc at *
          go_wp2_with (first
            | ((go_at_call 24; with_reducible refine HV1.out.mono ?_); rintro e W7 ⟨rfl, hS⟩; have S7 := Lib.hid hS; clear hS)
            | ((go_at_call 24; with_reducible refine (HV2.out _ S7.out).mono ?_); rintro e W8 ⟨rfl, hS⟩; have S8 := Lib.hid hS; clear hS))
          go_roundw
          case rel => exact ⟨k2 + 1, by omega, by go_num, S8⟩
          case measure => simp [RowKit.intOf]; omega
        · have hkl2 : k2 = b := by omega
          subst hkl2
          go_wp2_with ((go_at_call 12; with_reducible refine (HW.out _).mono ?_); rintro e w1 hb; have HB := Lib.hid (ok_then SC.out.bel hb); obtain ⟨rfl, -⟩ := hb)
          go_ret
          exact HB.out
end Go.Proofs.Yteiemegkdnjpgaa
