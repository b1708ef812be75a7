/- The Reader's Zeros where a byte is not 0, All where a field cannot be read. Conditions stand in each theorem. -/
import Derived.Test.YtajlddgemkkcdaaGreatPB
namespace Go.Proofs.YtajlddgemkkcdaaGreat
open Go.RowKit
set_option linter.unusedVariables false
set_option maxHeartbeats 1000000

/-- The error of a field of size n at position a. -/
def rdE (l : List UInt8) (a : Nat) (n : Int) : Int := if n < 1 ∨ 8 < n then 2 else if (l.length : Int) < a + n then 4 else 0
def rdAllE (l : List UInt8) : Nat → List Int → Int
  | _, [] => 0
  | a, n :: t => if rdE l a n ≠ 0 then rdE l a n else rdAllE l (a + n.toNat) t
theorem rdE_zero {l : List UInt8} {a : Nat} {n : Int} (h : rdE l a n = 0) : 1 ≤ n ∧ n ≤ 8 ∧ a + n.toNat ≤ l.length := by
  unfold rdE at h
  split at h
  · omega
  · split at h
    · omega
    · omega
theorem rdE_cases (l : List UInt8) (a : Nat) (n : Int) : ((n < 1 ∨ 8 < n) ∧ rdE l a n = 2) ∨ (∃ k : Nat, n = k ∧ 1 ≤ k ∧ k ≤ 8 ∧ l.length < a + k ∧ rdE l a n = 4) ∨ (∃ k : Nat, n = k ∧ 1 ≤ k ∧ k ≤ 8 ∧ a + k ≤ l.length ∧ rdE l a n = 0) := by
  unfold rdE
  by_cases h : n < 1 ∨ 8 < n
  · exact .inl ⟨h, if_pos h⟩
  · obtain ⟨k, rfl⟩ := Int.eq_ofNat_of_zero_le (show 0 ≤ n by omega)
    rw [if_neg h]
    by_cases h2 : (l.length : Int) < a + k
    · exact .inr (.inl ⟨k, rfl, by omega, by omega, by omega, if_pos h2⟩)
    · exact .inr (.inr ⟨k, rfl, by omega, by omega, by omega, if_neg h2⟩)
theorem okAll_of {l : List UInt8} : ∀ (ns : List Int) (a : Nat), rdAllE l a ns = 0 → okAll l a ns
  | [], _, _ => trivial
  | n :: t, a, h => by
    unfold rdAllE at h
    by_cases he : rdE l a n = 0
    · rw [if_neg (by simp [he])] at h
      obtain ⟨h1, h2, h3⟩ := rdE_zero he
      exact ⟨h1, h2, h3, okAll_of t _ h⟩
    · rw [if_pos he] at h; exact absurd h he
theorem endp_le {l : List UInt8} : ∀ (ns : List Int) (a : Nat), a ≤ l.length → okAll l a ns → endp a ns ≤ l.length
  | [], _, h, _ => h
  | n :: t, a, _, ⟨_, _, h3, h4⟩ => endp_le t _ h3 h4
theorem field_err (g : Nat) (vd : Value) (l : List UInt8) (a : Nat) (n : Int) (w : World) (h : Rd w g vd l a) (he : rdE l a n ≠ 0) :
    Calls Tryz.prog 66 #[.pointer (some ⟨g, 0, none⟩), .int .i64 n] w (RPost w g vd l a (.tuple #[.int .u64 0, .int .i64 (rdE l a n)])) := by
  rcases rdE_cases l a n with ⟨h1, e⟩ | ⟨k, rfl, h1, h2, h3, e⟩ | ⟨k, rfl, h1, h2, h3, e⟩
  · rw [e]
    refine (field_size g n w h1).mono ?_
    rintro e w' ⟨rfl, rfl⟩
    exact ⟨rfl, h, Chg.refl _ _⟩
  · rw [e]; exact field_short g vd l a k w h h1 h2 h3
  · exact absurd e he
theorem byte_int {b : UInt8} (h : b ≠ 0) : (b.toNat : Int) ≠ 0 := by
  intro e
  exact h (UInt8.toNat_inj.1 (by simpa using e))
set_option maxRecDepth 100000 in
theorem Zeros_format (g : Nat) (vd : Value) (l : List UInt8) (a n : Nat) (w : World) (h : Rd w g vd l a) (hn : a + n ≤ l.length) (hz : ¬ ∀ j (hj : j < ((l.drop a).take n).length), ((l.drop a).take n)[j] = 0) :
    Calls Tryz.prog 21 #[.pointer (some ⟨g, 0, none⟩), .int .i64 (n : Int)] w (RPost w g vd l a (.int .i64 6)) := by
  have h0 := h.cell0
  have h1 := h.cell1
  have hs := h.small
  obtain ⟨A, c, hvd, -, -⟩ := h.byt
  subst hvd
  have H := Lib.hid h; clear h
  have Hn := Lib.hid hn
  have hml : ((l.drop a).take n).length = n := by rw [List.length_take, List.length_drop]; omega
  obtain ⟨m, hm⟩ : ∃ m, m = (l.drop a).take n := ⟨_, rfl⟩
  rw [← hm] at hz hml
  have Hz := Lib.hid hz; have Hm := Lib.hid hm
  clear hz hm
  go_enter Tryz.func21, Tryz.ntmps21
  go_wp2_with fail
  refine (orEmpty_some g _).mono ?_
  rintro e w' ⟨rfl, rfl⟩
  go_wp2_with fail
  refine (advance_ok w.heap.size _ l a n _ (H.out.ahead 85) Hn.out).mono ?_
  rintro e w1 ⟨⟨v, rfl, hb⟩, hrd, hch⟩
  rw [← Hm.out] at hb
  obtain ⟨B, d, hv, -, hr⟩ := hb
  rw [hml] at hv
  subst hv
  have HB1 := Lib.hid (H.out.behind hch)
  have hn1 : n ≤ 1099511627776 := by have := Hn.out; omega
  have Hr := Lib.hid hr
  clear hr hrd hch h0 h1 hn
  go_wp2
  go_loop [26] (fun i => ∃ k : Nat, k ≤ n ∧ i = .int .i64 k ∧ Hid (∀ j (hj : j < m.length), j < k → m[j] = 0)) (fun i => n - (intOf i).toNat)
  case atStart => exact ⟨0, Nat.zero_le _, rfl, Lib.hid (fun j hj h => absurd h (by omega))⟩
  case round =>
    obtain ⟨k, hk, rfl, HK⟩ := hrel
    by_cases hlt : k < n
    · obtain ⟨b, o, rfl, hb, hcell⟩ := Hr.out (by omega)
      have hck := hcell k (by omega)
      by_cases hb0 : m[k] = 0
      · have HK2 := Lib.hid (show ∀ j (hj : j < m.length), j < k + 1 → m[j] = 0 from fun j hj hjk => by
          rcases Nat.lt_or_ge j k with h | h
          · exact HK.out j hj h
          · have e : j = k := by omega
            subst e; exact hb0)
        rw [hb0] at hck
        have hck' : w1.cell? ⟨b, o + k, none⟩ = some (.int .u8 0) := hck
        clear hcell hck hb0 HK
        go_wp2
        go_round
        case rel => exact ⟨k + 1, by omega, by go_num, HK2⟩
        case measure => simp [intOf]; omega
      · have hx := byte_int hb0
        obtain ⟨X, hX⟩ : ∃ X : Int, X = (m[k].toNat : Int) := ⟨_, rfl⟩
        rw [← hX] at hck hx
        clear hcell hb0 hX HK
        go_wp2
        go_ret
        exact ⟨rfl, H.out.below HB1.out, Chg.of_below HB1.out⟩
    · exact absurd (fun j hj => HK.out j hj (by omega)) Hz.out
theorem clos_err (g : Nat) (vd : Value) (l : List UInt8) (a : Nat) (n : Int) (w : World) (h : Rd w g vd l a) (he : rdE l a n ≠ 0) :
    Calls Tryz.prog 65 #[.int .i64 n, .pointer (some ⟨g, 0, none⟩)] w (RPost w g vd l a (.tuple #[.int .u64 0, .int .i64 (rdE l a n)])) := by
  have Hf := Lib.hid (field_err g vd l a n w h he); clear h he
  go_enter Tryz.func65, Tryz.ntmps65
  go_wp2_with fail
  refine Hf.out.mono ?_
  rintro e w1 ⟨rfl, h1, h2⟩
  have H1 := Lib.hid h1; have H2 := Lib.hid h2; clear h1 h2
  go_wp2
  go_ret2
  exact ⟨rfl, H1.out, H2.out⟩
def REErr (w : World) (h : Nat) (E : Int) (e : Ending) (w' : World) : Prop := e = .returned (.tuple #[.slice none 0 0, .int .i64 E]) ∧ Chg (· = h) w w'
theorem rdAllE_step {l : List UInt8} {p k : Nat} {ns : List Int} (hlt : k < ns.length) (he : rdE l p ns[k] = 0) : rdAllE l p (ns.drop k) = rdAllE l (p + ns[k].toNat) (ns.drop (k + 1)) := by
  rw [drop_cons hlt, rdAllE, if_neg (by simp [he])]
theorem rdAllE_stop {l : List UInt8} {p k : Nat} {ns : List Int} (hlt : k < ns.length) (he : rdE l p ns[k] ≠ 0) : rdAllE l p (ns.drop k) = rdE l p ns[k] := by
  rw [drop_cons hlt, rdAllE, if_pos he]
set_option maxRecDepth 100000 in
theorem readEach_err (h : Nat) (vd sv : Value) (l : List UInt8) (a : Nat) (ns : List Int) (w : World) (hr : Rd w h vd l a) (hs : Ints .i64 w sv ns) (hsep : 0 < ns.length → ∀ b, sv.ownBlock = some b → b ≠ h) (hne : rdAllE l a ns ≠ 0) (hlen : ns.length ≤ 1048576) :
    Calls Tryz.prog 64 #[sv, .func (.func 65) #[] #[.pointer (some ⟨h, 0, none⟩)]] w (REErr w h (rdAllE l a ns)) := by
  obtain ⟨i0, hi0, hz0, hz1, hz2⟩ := info_parts u64_info
  obtain ⟨EE, hEE⟩ : ∃ E, E = rdAllE l a ns := ⟨_, rfl⟩
  rw [← hEE] at hne ⊢
  have Hrd := Lib.hid hr; have Hsep := Lib.hid hsep; have HEE := Lib.hid hEE; have Hne := Lib.hid hne
  have Hh := Lib.hid hr.lt; have Hlo := Lib.hid hr.lo
  clear hr hsep hEE hne
  obtain ⟨A, c, rfl, hc, hsr⟩ := hs
  have Hs := Lib.hid hsr; clear hsr
  go_enter Tryz.func64, Tryz.ntmps64
  go_wp2
  go_loopw [6, 13] (fun v i wr => ∃ (k p : Nat) (acc : List Int), k ≤ ns.length ∧ i = .int .i64 k ∧ Hid (acc.length = k) ∧ Hid (wr.ownsRow w.heap.size 40 1 v k (acc.map (Value.int .u64))) ∧ Hid (EE = rdAllE l p (ns.drop k)) ∧ Hid (Rd wr h vd l p) ∧ Hid (Chg (· = h) w wr)) (fun _ i _ => ns.length - (intOf i).toNat)
  case atStart => exact ⟨0, a, [], Nat.zero_le _, rfl, rfl, World.ownsRow_nil _ _ _ _, HEE, Hrd, Chg.refl _ _⟩
  case round =>
    obtain ⟨k, p, acc, hk, rfl, HA, HO, HV, HR, HC⟩ := hrel
    by_cases hlt : k < ns.length
    · obtain ⟨g, o, rfl, hg, hcell⟩ := Hs.out (by omega)
      have hgh : g ≠ h := Hsep.out (by omega) g rfl
      have hck : wr.cell? ⟨g, o + k, none⟩ = some (.int .i64 ns[k]) := (World.cell?_of_block (a := ⟨g, o + k, none⟩) (HC.out.block g hg hgh)).trans (hcell k hlt)
      clear hcell
      by_cases he : rdE l p ns[k] = 0
      · have HV1 := Lib.hid (HV.out.trans (rdAllE_step hlt he))
        obtain ⟨hn1, hn8, hfit⟩ := rdE_zero he
        obtain ⟨m, hm⟩ := Int.eq_ofNat_of_zero_le (show 0 ≤ ns[k] by omega)
        rw [hm] at hck HV1
        rw [Int.toNat_natCast] at HV1
        rw [hm, Int.toNat_natCast] at hfit
        have hm1 : 1 ≤ m := by omega
        have hm8 : m ≤ 8 := by omega
        have Hfit := Lib.hid hfit
        clear hfit hn1 hn8 hm he HV
        go_wp2_with fail
        refine (clos_ok h vd l p m _ HR.out hm1 hm8 Hfit.out).mono ?_
        rintro e w1 ⟨rfl, hR1, hC1⟩
        obtain ⟨X, hX⟩ : ∃ X : Nat, X = getV ((l.drop p).take m) := ⟨_, rfl⟩
        rw [← hX]
        have HO1 := Lib.hid (re_kept HO.out hC1 Hh.out)
        have HC1 := Lib.hid hC1; have HR1 := Lib.hid hR1
        clear hX hC1 hR1
        go_wp2_with (at_builtin; (refine wpList_append_own_at _ rfl (.tmp 26) (.tmp 28) 55 rfl w.heap.size 40 i0 (.int .u64 0) 1 8 Tryz.underlying55 hi0 hz0 hz1 hz2 rfl (by decide) _ k (acc.map (Value.int .u64)) rfl (HO1.out.alloc _) ⟨w1.heap.size, 0, none⟩ 1 1 [.int .u64 (X : Int)] rfl rfl ?c1 ?c2 ?c3 ?c4 ?c5 ?_))
        case c1 =>
          intro j u hj
          match j, hj with
          | 0, hj => simp at hj; subst hj; simp [Addr.add]
        case c2 => intro u hu; simp at hu; subst hu; rfl
        case c3 => unfold maxLen; omega
        case c4 => omega
        case c5 => have := HC.out.size; have := HC1.out.size; simp; omega
        intro v' w2 hown' hgrow _ hat'
        have hst := re_step Hh.out Hlo.out HC.out HC1.out HR1.out HO1.out hgrow
        have HR2 := Lib.hid hst.1; have HC2 := Lib.hid hst.2
        have HO2 := Lib.hid (show w2.ownsRow w.heap.size 40 1 v' (k + 1) ((acc ++ [(X : Int)]).map (Value.int .u64)) by rw [List.map_append]; exact hown')
        have HA2 := Lib.hid (show (acc ++ [(X : Int)]).length = k + 1 by rw [List.length_append, HA.out]; rfl)
        clear hst hown' hgrow hat' HO1 HC1 HR1
        go_wp2
        go_roundw
        case rel => exact ⟨k + 1, p + m, _, by omega, by go_num, HA2, HO2, HV1, HR2, HC2⟩
        case measure => simp [intOf]; omega
      · have Hce := Lib.hid (clos_err h vd l p ns[k] _ HR.out he)
        have hE2 := HV.out.trans (rdAllE_stop hlt he)
        rw [← hE2] at Hce
        have hne := Hne.out
        clear he hE2 HV
        go_wp2_with fail
        refine Hce.out.mono ?_
        rintro e w1 ⟨rfl, -, hC1⟩
        have HC1 := Lib.hid (HC.out.trans hC1 (fun i hi _ => hi))
        clear hC1 Hce
        go_wp2
        go_ret2
        exact ⟨rfl, HC1.out⟩
    · have h1 := HV.out
      rw [List.drop_eq_nil_of_le (by omega)] at h1
      exact absurd h1 Hne.out
set_option maxRecDepth 100000 in
theorem All_err (g : Nat) (vd sv : Value) (l : List UInt8) (a : Nat) (ns : List Int) (w : World) (hr : Rd w g vd l a) (hs : Ints .i64 w sv ns) (hne : rdAllE l a ns ≠ 0) (hlen : ns.length ≤ 1048576) :
    Calls Tryz.prog 42 #[.pointer (some ⟨g, 0, none⟩), sv] w (RPost w g vd l a (.tuple #[.slice none 0 0, .int .i64 (rdAllE l a ns)])) := by
  have hmf : ∀ (fn : Fn) (first cap : Array Value) (w : World), (Instr.makeFunc fn first cap).run Tryz.prog w = .ok (.func fn first cap) w := fun _ _ _ _ => rfl
  have h0 := hr.cell0
  have h1 := hr.cell1
  obtain ⟨A, c, hvd, -, -⟩ := hr.byt
  subst hvd
  have hcall := readEach_err w.heap.size _ sv l a ns _ (hr.ahead 85) (hs.below (alloc_below w _)) (fun h0 b hb => by
    obtain ⟨A', c', rfl, -, hrr⟩ := hs
    obtain ⟨g', o', rfl, hg', -⟩ := hrr h0
    have : g' = b := by simpa [Value.ownBlock] using hb
    omega) hne hlen
  obtain ⟨EE, hEE⟩ : ∃ E, E = rdAllE l a ns := ⟨_, rfl⟩
  rw [← hEE] at hne hcall ⊢
  have Hcall := Lib.hid hcall; have Hrd := Lib.hid hr
  clear hcall hr hs hEE
  go_enter Tryz.func42, Tryz.ntmps42
  go_wp2_with fail
  refine (orEmpty_some g _).mono ?_
  rintro e w' ⟨rfl, rfl⟩
  go_wp2_with fail
  refine Hcall.out.mono ?_
  rintro e w1 ⟨rfl, hch⟩
  have HB1 := Lib.hid (Hrd.out.behind hch)
  clear hch h0 h1 Hcall
  go_wp2
  go_ret2
  exact ⟨rfl, Hrd.out.below HB1.out, Chg.of_below HB1.out⟩
end Go.Proofs.YtajlddgemkkcdaaGreat
