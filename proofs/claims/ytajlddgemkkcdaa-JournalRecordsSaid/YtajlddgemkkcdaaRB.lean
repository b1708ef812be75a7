/- Rows of pages; the contract of the reference's Record. Conditions stand in each theorem. -/
import Derived.Test.YtajlddgemkkcdaaRA
namespace Go.Proofs.Ytajlddgemkkcdaa
open Go.RowKit
set_option linter.unusedVariables false
set_option maxHeartbeats 4000000
set_option maxRecDepth 100000
attribute [local go_sem ↓ 100000] builtin_appX
def Pg.cells (x : Pg) : List Value := [.int .u8 x.s.k, .int .i64 x.s.s, .int .u64 x.s.q, .int .u64 x.s.p, .int .i64 x.s.i, .int .i64 x.s.n, x.ev]
/-- The cells of pages, as a row. -/
def fl7 (L : List Pg) : List Value := L.flatMap Pg.cells
theorem fl7_snoc (L : List Pg) (r : Pg) : fl7 (L ++ [r]) = fl7 L ++ r.cells := by simp [fl7]
theorem fl7_at (L : List Pg) (i j : Nat) (hi : i < L.length) (hj : j < 7) : (fl7 L)[i * 7 + j]? = L[i].cells[j]? := by
  induction L generalizing i with
  | nil => cases hi
  | cons e r ih =>
    have hc : e.cells.length = 7 := rfl
    show (e.cells ++ fl7 r)[i * 7 + j]? = _
    cases i with
    | zero =>
      rw [List.getElem?_append_left (by rw [hc]; omega)]
      simp
    | succ i =>
      rw [List.getElem?_append_right (by rw [hc]; omega), hc, show (i + 1) * 7 + j - 7 = i * 7 + j by omega, ih i (by simpa using hi)]
      simp
/-- The slice of pages: none yet, or a row of its own. -/
def Own7 (W : World) (base : Nat) (v : Value) (L : List Pg) : Prop := (L = [] ∧ v = .slice none 0 0) ∨ (L ≠ [] ∧ W.ownsRow base 46 7 v L.length (fl7 L))
theorem pg_one (r : Pg) : ∀ u ∈ r.cells, u.oneCell' = true := by
  intro u hu
  simp only [Pg.cells, List.mem_cons, List.mem_nil_iff, or_false] at hu
  rcases hu with rfl | rfl | rfl | rfl | rfl | rfl | rfl <;> rfl
theorem PgAt.cells {W : World} {b o : Nat} {r : Pg} (h : PgAt W b o r) : ∀ j u, r.cells[j]? = some u → W.cell? ((⟨b, o, none⟩ : Addr).add j) = some u := by
  intro j u hu
  rw [add_plain]
  have hj : j < 7 := (List.getElem?_eq_some_iff.1 hu).1
  have : j = 0 ∨ j = 1 ∨ j = 2 ∨ j = 3 ∨ j = 4 ∨ j = 5 ∨ j = 6 := by omega
  rcases this with rfl | rfl | rfl | rfl | rfl | rfl | rfl <;> (simp only [Pg.cells, List.getElem?_cons_succ, List.getElem?_cons_zero, Option.some.injEq] at hu; subst hu)
  · exact h.c0
  · exact h.c1
  · exact h.c2
  · exact h.c3
  · exact h.c4
  · exact h.c5
  · exact h.c6
theorem Own7.later {W W' : World} {base : Nat} {v : Value} {L : List Pg} (h : Own7 W base v L) (hb : Below W.heap.size W W') : Own7 W' base v L := by
  rcases h with h | ⟨h1, h2⟩
  · exact .inl h
  · exact .inr ⟨h1, own_below8 h2 hb⟩
theorem Own7.at_ {W : World} {base : Nat} {v : Value} {L : List Pg} (h : Own7 W base v L) (h0 : 0 < L.length) : ∃ g c, v = .slice (some ⟨g, 0, none⟩) L.length c ∧ L.length ≤ c ∧ g < W.heap.size ∧ ∀ k (hk : k < L.length), PgAt W g (k * 7) L[k] := by
  rcases h with ⟨rfl, _⟩ | ⟨_, h⟩
  · cases h0
  · rcases h.2 with ⟨_, h0⟩ | ⟨g, cap, cur, rfl, hb, hg, h1, h2, h3, h4⟩
    · omega
    · refine ⟨g, cap, rfl, by omega, (Array.getElem?_eq_some_iff.1 hg).1, fun k hk => ?_⟩
      have hc : ∀ j, j < 7 → W.cell? ⟨g, k * 7 + j, none⟩ = L[k].cells[j]? := by
        intro j hj
        rw [cell_of_row _ _ _ _ _ (0, 0) hg, ← fl7_at L k j hk hj, ← h4, List.getElem?_take, if_pos (by omega)]
        simp
      have c0 := hc 0 (by omega)
      rw [Nat.add_zero] at c0
      exact ⟨c0, hc 1 (by omega), hc 2 (by omega), hc 3 (by omega), hc 4 (by omega), hc 5 (by omega), hc 6 (by omega)⟩
/-- One page is appended. -/
theorem app7 {W : World} {base b : Nat} {v : Value} {L : List Pg} {r : Pg} (ho : Own7 W base v L) (hb : base ≤ W.heap.size) (hl : L.length < 100000) (hr : PgAt W b 0 r) :
    ∃ A c W', (appX #[35, 35] 35 #[v, .slice (some ⟨b, 0, none⟩) 1 1]).run Try.prog W = .ok (.value (.slice A (L.length + 1) c)) W' ∧ Own7 W' base (.slice A (L.length + 1) c) (L ++ [r]) ∧ W.grownBy W' v.ownBlock := by
  obtain ⟨i, hi, hz0, hz1, hz2⟩ := info_parts8 info46
  have ho' : W.ownsRow base 46 7 v L.length (fl7 L) := by
    rcases ho with ⟨rfl, rfl⟩ | ⟨_, h⟩
    · exact World.ownsRow_nil _ _ _ _
    · exact h
  obtain ⟨v', W', h1, h2, h3, _⟩ := run_append_own (P := Try.prog) W base 35 35 46 i _ 7 72 Try.underlying35 hi hz0 hz1 hz2 rfl (by decide) v L.length (fl7 L) ho' ⟨b, 0, none⟩ 1 1 r.cells rfl hr.cells (pg_one r) (by unfold maxLen; omega) (by omega) hb
  obtain ⟨A, c, rfl⟩ := own_form8 h2
  refine ⟨A, c, W', appX_run h1, .inr ⟨by simp, ?_⟩, h3⟩
  rw [fl7_snoc, List.length_append]; exact h2
theorem Own7.grown {W W' : World} {base B : Nat} {a : World} {v : Value} {L : List Pg} (h : Own7 W base v L) (hg : W.grownBy W' v.ownBlock) (hb : Below B a W) (hB : B ≤ base) (hs : B ≤ W.heap.size) : Below B a W' :=
  hb.grown hg hs (fun k hk => by
    rcases h with ⟨_, rfl⟩ | ⟨_, h⟩
    · cases hk
    · exact Nat.le_trans hB (h.lt k hk).1)
/-- What the reference's Record leaves. -/
def RrPost (w : World) (b : Bool) (Q : List (Spr × List (Int × Int))) (e : Ending) (w' : World) : Prop :=
  (if b = true then ∃ v L, e = .returned (.tuple #[v, .int .i64 0]) ∧ RecR w' v L Q else e = .returned (.tuple #[.slice none 0 0, .int .i64 2])) ∧ Below w.heap.size w w'
theorem chnk_ref (c : Nat) (l : List (Int × Int)) (i q hi : Nat) (hq : q = c * i) (hh : hi = min (q + c) l.length) : (l.take hi).drop q = chnk c l i := by
  unfold chnk
  subst hq hh
  rw [List.drop_take]
  by_cases h1 : c * i + c ≤ l.length
  · rw [Nat.min_eq_left h1, Nat.add_sub_cancel_left]
  · rw [Nat.min_eq_right (by omega), List.take_of_length_le (by simp), List.take_of_length_le (by simp; omega)]
theorem rrecord_2 (size first prev : Int) (A : Option Addr) (c0 : Nat) (l : List (Int × Int)) (w : World) (h : Ent w (.slice A l.length c0) l) (hl : l.length ≤ 1000) (hf : 0 ≤ first) (hp : 0 ≤ prev) :
    Calls Try.prog 16 #[.int .u8 2, .int .i64 size, .int .u64 first, .int .u64 prev, .slice A l.length c0] w (RrPost w (recB 2 size first prev l) (recQ 2 first prev (capF size).toNat (recN size l) l (recN size l))) := by
  have HL := Lib.hid h
  have HC := Lib.hid (fun W => rcap_any size W)
  have HV := Lib.hid (fun (W : World) (hW : Below w.heap.size w W) => right_any _ l W (h.below hW) (by omega))
  have HP := Lib.hid (fun W => rpages_any size (l.length : Int) (by unfold I64; omega) W)
  have hli : (l.length : Int) ≤ 1000 := by omega
  have h1 : kdB 2 = true := by decide
  by_cases h2 : first = 0
  · subst h2
    have hno : recB 2 size 0 prev l = false := by unfold recB; exact decide_eq_false (fun h => h.1.1.1.1.2 rfl)
    rw [hno]
    clear HL h
    go_enter Try.func16, Try.ntmps16
    go_wp2_with (first
      | ((go_at_call 12; with_reducible refine (HC.out _).mono ?_); rintro e w2 ⟨rfl, hg⟩; have HB2 := Lib.hid hg.below; clear hg)
      | ((go_at_call 26; with_reducible refine (HV.out _ HB2.out).mono ?_); rintro e w3 ⟨rfl, hg⟩; have HB3 := Lib.hid (HB2.out.trans (hg.below.mono HB2.out.size)); clear hg)
      | ((go_at_call 14; with_reducible refine (HP.out _).mono ?_); rintro e w4 ⟨rfl, hg⟩; have HB4 := Lib.hid (HB3.out.trans (hg.below.mono HB3.out.size)); clear hg))
    go_ret2
    exact ⟨by rw [if_neg (by decide)]; rfl, Below.refl _ _⟩
  have h2b : (first == 0) = false := by simpa using h2
  by_cases h3 : first ≤ 9223372036854775808
  case neg =>
    have h3z : decide ((9223372036854775808 : Int) < first) = true := by simp; omega
    have hno : recB 2 size first prev l = false := by unfold recB; exact decide_eq_false (fun h => h3 h.1.1.1.2)
    rw [hno]
    clear HL h
    go_enter Try.func16, Try.ntmps16
    go_wp2_with (first
      | ((go_at_call 12; with_reducible refine (HC.out _).mono ?_); rintro e w2 ⟨rfl, hg⟩; have HB2 := Lib.hid hg.below; clear hg)
      | ((go_at_call 26; with_reducible refine (HV.out _ HB2.out).mono ?_); rintro e w3 ⟨rfl, hg⟩; have HB3 := Lib.hid (HB2.out.trans (hg.below.mono HB2.out.size)); clear hg)
      | ((go_at_call 14; with_reducible refine (HP.out _).mono ?_); rintro e w4 ⟨rfl, hg⟩; have HB4 := Lib.hid (HB3.out.trans (hg.below.mono HB3.out.size)); clear hg))
    go_ret2
    exact ⟨by rw [if_neg (by decide)]; rfl, Below.refl _ _⟩
  have h3b : decide ((9223372036854775808 : Int) < first) = false := by simp; omega
  by_cases h4 : prev < first
  case neg =>
    have h4z : decide (first ≤ prev) = true := by simp; omega
    have hno : recB 2 size first prev l = false := by unfold recB; exact decide_eq_false (fun h => h4 h.1.1.2)
    rw [hno]
    clear HL h
    go_enter Try.func16, Try.ntmps16
    go_wp2_with (first
      | ((go_at_call 12; with_reducible refine (HC.out _).mono ?_); rintro e w2 ⟨rfl, hg⟩; have HB2 := Lib.hid hg.below; clear hg)
      | ((go_at_call 26; with_reducible refine (HV.out _ HB2.out).mono ?_); rintro e w3 ⟨rfl, hg⟩; have HB3 := Lib.hid (HB2.out.trans (hg.below.mono HB2.out.size)); clear hg)
      | ((go_at_call 14; with_reducible refine (HP.out _).mono ?_); rintro e w4 ⟨rfl, hg⟩; have HB4 := Lib.hid (HB3.out.trans (hg.below.mono HB3.out.size)); clear hg))
    go_ret2
    exact ⟨by rw [if_neg (by decide)]; rfl, Below.refl _ _⟩
  have h4b : decide (first ≤ prev) = false := by simp; omega
  by_cases h5 : capF size = 0
  · rw [h5] at HC
    have hno : recB 2 size first prev l = false := by unfold recB; exact decide_eq_false (fun h => h.1.2 h5)
    rw [hno]
    clear HL h
    go_enter Try.func16, Try.ntmps16
    go_wp2_with (first
      | ((go_at_call 12; with_reducible refine (HC.out _).mono ?_); rintro e w2 ⟨rfl, hg⟩; have HB2 := Lib.hid hg.below; clear hg)
      | ((go_at_call 26; with_reducible refine (HV.out _ HB2.out).mono ?_); rintro e w3 ⟨rfl, hg⟩; have HB3 := Lib.hid (HB2.out.trans (hg.below.mono HB2.out.size)); clear hg)
      | ((go_at_call 14; with_reducible refine (HP.out _).mono ?_); rintro e w4 ⟨rfl, hg⟩; have HB4 := Lib.hid (HB3.out.trans (hg.below.mono HB3.out.size)); clear hg))
    go_ret2
    exact ⟨by rw [if_neg (by decide)]; rfl, HB2.out⟩
  by_cases h6 : allB l = true
  case neg =>
    have h6f : allB l = false := by cases e : allB l <;> simp_all
    rw [h6f] at HV
    have h5' : (capF size == 0) = false := by simpa using h5
    have h5'' := capF_rng size
    generalize hcf : capF size = cf at HC h5'
    have hno : recB 2 size first prev l = false := by unfold recB; exact decide_eq_false (fun h => h6 h.2)
    rw [hno]
    clear HL h
    go_enter Try.func16, Try.ntmps16
    go_wp2_with (first
      | ((go_at_call 12; with_reducible refine (HC.out _).mono ?_); rintro e w2 ⟨rfl, hg⟩; have HB2 := Lib.hid hg.below; clear hg)
      | ((go_at_call 26; with_reducible refine (HV.out _ HB2.out).mono ?_); rintro e w3 ⟨rfl, hg⟩; have HB3 := Lib.hid (HB2.out.trans (hg.below.mono HB2.out.size)); clear hg)
      | ((go_at_call 14; with_reducible refine (HP.out _).mono ?_); rintro e w4 ⟨rfl, hg⟩; have HB4 := Lib.hid (HB3.out.trans (hg.below.mono HB3.out.size)); clear hg))
    go_ret2
    exact ⟨by rw [if_neg (by decide)]; rfl, HB3.out⟩
  have hyes : recB 2 size first prev l = true := by unfold recB; exact decide_eq_true ⟨⟨⟨⟨⟨h1, h2⟩, h3⟩, h4⟩, h5⟩, h6⟩
  rw [hyes]
  rw [h6] at HV
  obtain ⟨c, hc, hc1, hc2, hN, hN1, hNi⟩ := recN_facts size l h5 hl
  rw [hc] at HC ⊢
  rw [hN] at HP
  rw [Int.toNat_natCast]
  have h5' : ((c : Int) == 0) = false := by simp; omega
  generalize recN size l = N at *
  have hNz : decide ((65535 : Int) < (N : Int)) = false := by simp; omega
  have hfi : first ≤ 9223372036854775808 := h3
  have HNI := Lib.hid hNi
  clear hyes hc hN hNi h1 h2 h3 h4 h5 h6 h
  go_enter Try.func16, Try.ntmps16
  go_upto_region 3 with (first
      | ((go_at_call 12; with_reducible refine (HC.out _).mono ?_); rintro e w2 ⟨rfl, hg⟩; have HB2 := Lib.hid hg.below; clear hg)
      | ((go_at_call 26; with_reducible refine (HV.out _ HB2.out).mono ?_); rintro e w3 ⟨rfl, hg⟩; have HB3 := Lib.hid (HB2.out.trans (hg.below.mono HB2.out.size)); clear hg)
      | ((go_at_call 14; with_reducible refine (HP.out _).mono ?_); rintro e w4 ⟨rfl, hg⟩; have HB4 := Lib.hid (HB3.out.trans (hg.below.mono HB3.out.size)); clear hg))
  go_upto_region 8 with (first
      | ((go_at_call 14; with_reducible refine (HP.out _).mono ?_); rintro e w4 ⟨rfl, hg⟩; have HB4 := Lib.hid (HB3.out.trans (hg.below.mono HB3.out.size)); clear hg)
      | ((go_at_call 12; with_reducible refine (HC.out _).mono ?_); rintro e w5 ⟨rfl, hg⟩; have HB5 := Lib.hid (HB4.out.trans (hg.below.mono HB4.out.size)); clear hg))
  have HB0 := Lib.hid HB5.out
  obtain ⟨W0, hW0⟩ : ∃ W0, W0 = w5 := ⟨_, rfl⟩
  rw [← hW0] at HB0 ⊢
  clear hW0 HB2 HB3 HB4 HB5 HC HV HP
  have hN0 : (N : Int) ≤ 1001 := by omega
  go_loopw [14, 15] (fun v i wr => ∃ (j : Nat) (A1 : Option Addr) (c1 : Nat) (L : List Pg), j ≤ N ∧ i = .int .i64 j ∧ v = .slice A1 L.length c1 ∧ Hid (Own7 wr w.heap.size (.slice A1 L.length c1) L) ∧ Hid (L.map (fun x => (x.s, x.es)) = recQ 2 first prev c N l j) ∧ Hid (∀ x ∈ L, Ent w x.ev x.es) ∧ Hid (Below w.heap.size w wr)) (fun _ i _ => N - (RowKit.intOf i).toNat)
  case atStart => exact ⟨0, none, 0, [], Nat.zero_le _, rfl, rfl, Lib.hid (.inl ⟨rfl, rfl⟩), Lib.hid rfl, Lib.hid (fun x hx => by cases hx), HB0⟩
  case round =>
    obtain ⟨j, A1, c1, L, hj, rfl, rfl, HO, HM, HE, HB⟩ := hrel
    clear HB0
    have hLj : L.length = j := by
      have h1 := congrArg List.length HM.out
      rw [List.length_map, recQ_length] at h1
      exact h1
    by_cases hlt : j < N
    · have hci := HNI.out j hlt
      have hcap : l.length ≤ c0 := by
        obtain ⟨A', c', e, h2, _⟩ := HL.out
        injection e with _ _ e3
        rw [e3]
        exact h2
      have HQ := Lib.hid (recQ_succ 2 first prev c N l j)
      obtain ⟨q, hq⟩ : ∃ q, q = c * j := ⟨_, rfl⟩
      obtain ⟨hi, hh⟩ : ∃ hi, hi = min (q + c) l.length := ⟨_, rfl⟩
      rw [← hq] at hci
      obtain ⟨A2, c2, hrun, he⟩ := ent_lh (lo := q) (hi := hi) HL.out (by omega) (by omega) hcap
      rw [chnk_ref c l j q hi hq hh] at hrun he
      have hmul : (c : Int) * (j : Int) = (q : Int) := by rw [hq, Int.natCast_mul]
      have hmin : min ((q : Int) + (c : Int)) (l.length : Int) = (hi : Int) := by omega
      have hj0 : (0 : Int) ≤ (j : Int) := by omega
      have hj1 : (j : Int) < (N : Int) := by omega
      have hq0 : (0 : Int) ≤ (q : Int) := by omega
      have hq1 : (q : Int) ≤ 1000 := by omega
      obtain ⟨x, hx⟩ : ∃ x : Pg, x = ⟨⟨2, 0, first + (j : Int), prev, (j : Int), (N : Int)⟩, A2, c2, chnk c l j⟩ := ⟨_, rfl⟩
      obtain ⟨W1, hW1⟩ : ∃ W1, W1 = wr.alloc (.cells #[.int .u8 2, .int .i64 0, .int .u64 (first + (j : Int)), .int .u64 prev, .int .i64 (j : Int), .int .i64 (N : Int)] 44) := ⟨_, rfl⟩
      have hb1 : Below wr.heap.size wr W1 := by rw [hW1]; exact (Below.refl _ _).alloc (Nat.le_refl _) _
      have hp0 : PgAt ((W1.alloc (.cells x.row 46)).drew) W1.heap.size 0 x := (PgAt.new W1 x 46).keep (fun i => rfl)
      have hbd : Below W1.heap.size W1 ((W1.alloc (.cells x.row 46)).drew) := ((Below.refl _ _).alloc (Nat.le_refl _) _).drew
      have hbw : Below wr.heap.size wr ((W1.alloc (.cells x.row 46)).drew) := hb1.trans (hbd.mono hb1.size)
      have ho2 := HO.out.later hbw
      have hb2 : Below w.heap.size w ((W1.alloc (.cells x.row 46)).drew) := HB.out.trans (hbw.mono HB.out.size)
      obtain ⟨A4, c4, W4, hrunA, ho4, hg4⟩ := app7 ho2 hb2.size (by omega) hp0
      have hb4 := ho2.grown hg4 hb2 (Nat.le_refl _) hb2.size
      have HO4 := Lib.hid ho4
      have HB4 := Lib.hid hb4
      have HE4 : Hid (∀ y ∈ L ++ [x], Ent w y.ev y.es) := Lib.hid (fun y hy => by
        rcases List.mem_append.1 hy with hy | hy
        · exact HE.out y hy
        · obtain rfl := List.mem_singleton.1 hy
          rw [hx]
          exact he)
      have HM4 : Hid ((L ++ [x]).map (fun x => (x.s, x.es)) = recQ 2 first prev c N l (j + 1)) := Lib.hid (by
        rw [HQ.out, List.map_append, HM.out, hx]
        rfl)
      clear hLj hp0 hbd hbw ho2 hb2 ho4 hg4 hb4 he HO HM HE HQ hb1 hq hh
      rw [hW1] at hrunA
      rw [hx] at hrunA
      simp only [Pg.row, Pg.ev, World.size_alloc] at hrunA
      have HX := Lib.hid hx
      clear hW1 hx
      go_upto_region 11 with fail
      go_region
      all_goals
        go_wp2
        go_roundw
        case rel => exact ⟨j + 1, A4, c4, L ++ [x], by omega, by go_num, by rw [List.length_append]; rfl, (by rw [List.length_append]; exact HO4), HM4, HE4, HB4⟩
        case measure => simp [RowKit.intOf]; omega
    · obtain rfl : j = N := by omega
      have hpg : RecR wr (.slice A1 L.length c1) L (recQ 2 first prev c j l j) := by
        refine ⟨?_, HM.out, fun x hx => (HE.out x hx).below HB.out⟩
        by_cases h0 : 0 < L.length
        · obtain ⟨g, cap, e, h1, h2, h3⟩ := HO.out.at_ h0
          injection e with e1 _ e3
          subst e1 e3
          exact ⟨_, _, rfl, h1, fun _ => ⟨g, 0, rfl, h2, fun k hk => by rw [Nat.zero_add]; exact h3 k hk⟩⟩
        · refine ⟨_, _, rfl, by omega, fun h => absurd (Nat.pos_of_ne_zero h) h0⟩
      have HPG := Lib.hid hpg
      clear hpg HO HM HE
      go_wp2
      go_ret2
      exact ⟨by rw [if_pos rfl]; exact ⟨_, L, rfl, HPG.out⟩, HB.out⟩
theorem rrecord_3 (size first prev : Int) (A : Option Addr) (c0 : Nat) (l : List (Int × Int)) (w : World) (h : Ent w (.slice A l.length c0) l) (hl : l.length ≤ 1000) (hf : 0 ≤ first) (hp : 0 ≤ prev) :
    Calls Try.prog 16 #[.int .u8 3, .int .i64 size, .int .u64 first, .int .u64 prev, .slice A l.length c0] w (RrPost w (recB 3 size first prev l) (recQ 3 first prev (capF size).toNat (recN size l) l (recN size l))) := by
  have HL := Lib.hid h
  have HC := Lib.hid (fun W => rcap_any size W)
  have HV := Lib.hid (fun (W : World) (hW : Below w.heap.size w W) => right_any _ l W (h.below hW) (by omega))
  have HP := Lib.hid (fun W => rpages_any size (l.length : Int) (by unfold I64; omega) W)
  have hli : (l.length : Int) ≤ 1000 := by omega
  have h1 : kdB 3 = true := by decide
  by_cases h2 : first = 0
  · subst h2
    have hno : recB 3 size 0 prev l = false := by unfold recB; exact decide_eq_false (fun h => h.1.1.1.1.2 rfl)
    rw [hno]
    clear HL h
    go_enter Try.func16, Try.ntmps16
    go_wp2_with (first
      | ((go_at_call 12; with_reducible refine (HC.out _).mono ?_); rintro e w2 ⟨rfl, hg⟩; have HB2 := Lib.hid hg.below; clear hg)
      | ((go_at_call 26; with_reducible refine (HV.out _ HB2.out).mono ?_); rintro e w3 ⟨rfl, hg⟩; have HB3 := Lib.hid (HB2.out.trans (hg.below.mono HB2.out.size)); clear hg)
      | ((go_at_call 14; with_reducible refine (HP.out _).mono ?_); rintro e w4 ⟨rfl, hg⟩; have HB4 := Lib.hid (HB3.out.trans (hg.below.mono HB3.out.size)); clear hg))
    go_ret2
    exact ⟨by rw [if_neg (by decide)]; rfl, Below.refl _ _⟩
  have h2b : (first == 0) = false := by simpa using h2
  by_cases h3 : first ≤ 9223372036854775808
  case neg =>
    have h3z : decide ((9223372036854775808 : Int) < first) = true := by simp; omega
    have hno : recB 3 size first prev l = false := by unfold recB; exact decide_eq_false (fun h => h3 h.1.1.1.2)
    rw [hno]
    clear HL h
    go_enter Try.func16, Try.ntmps16
    go_wp2_with (first
      | ((go_at_call 12; with_reducible refine (HC.out _).mono ?_); rintro e w2 ⟨rfl, hg⟩; have HB2 := Lib.hid hg.below; clear hg)
      | ((go_at_call 26; with_reducible refine (HV.out _ HB2.out).mono ?_); rintro e w3 ⟨rfl, hg⟩; have HB3 := Lib.hid (HB2.out.trans (hg.below.mono HB2.out.size)); clear hg)
      | ((go_at_call 14; with_reducible refine (HP.out _).mono ?_); rintro e w4 ⟨rfl, hg⟩; have HB4 := Lib.hid (HB3.out.trans (hg.below.mono HB3.out.size)); clear hg))
    go_ret2
    exact ⟨by rw [if_neg (by decide)]; rfl, Below.refl _ _⟩
  have h3b : decide ((9223372036854775808 : Int) < first) = false := by simp; omega
  by_cases h4 : prev < first
  case neg =>
    have h4z : decide (first ≤ prev) = true := by simp; omega
    have hno : recB 3 size first prev l = false := by unfold recB; exact decide_eq_false (fun h => h4 h.1.1.2)
    rw [hno]
    clear HL h
    go_enter Try.func16, Try.ntmps16
    go_wp2_with (first
      | ((go_at_call 12; with_reducible refine (HC.out _).mono ?_); rintro e w2 ⟨rfl, hg⟩; have HB2 := Lib.hid hg.below; clear hg)
      | ((go_at_call 26; with_reducible refine (HV.out _ HB2.out).mono ?_); rintro e w3 ⟨rfl, hg⟩; have HB3 := Lib.hid (HB2.out.trans (hg.below.mono HB2.out.size)); clear hg)
      | ((go_at_call 14; with_reducible refine (HP.out _).mono ?_); rintro e w4 ⟨rfl, hg⟩; have HB4 := Lib.hid (HB3.out.trans (hg.below.mono HB3.out.size)); clear hg))
    go_ret2
    exact ⟨by rw [if_neg (by decide)]; rfl, Below.refl _ _⟩
  have h4b : decide (first ≤ prev) = false := by simp; omega
  by_cases h5 : capF size = 0
  · rw [h5] at HC
    have hno : recB 3 size first prev l = false := by unfold recB; exact decide_eq_false (fun h => h.1.2 h5)
    rw [hno]
    clear HL h
    go_enter Try.func16, Try.ntmps16
    go_wp2_with (first
      | ((go_at_call 12; with_reducible refine (HC.out _).mono ?_); rintro e w2 ⟨rfl, hg⟩; have HB2 := Lib.hid hg.below; clear hg)
      | ((go_at_call 26; with_reducible refine (HV.out _ HB2.out).mono ?_); rintro e w3 ⟨rfl, hg⟩; have HB3 := Lib.hid (HB2.out.trans (hg.below.mono HB2.out.size)); clear hg)
      | ((go_at_call 14; with_reducible refine (HP.out _).mono ?_); rintro e w4 ⟨rfl, hg⟩; have HB4 := Lib.hid (HB3.out.trans (hg.below.mono HB3.out.size)); clear hg))
    go_ret2
    exact ⟨by rw [if_neg (by decide)]; rfl, HB2.out⟩
  by_cases h6 : allB l = true
  case neg =>
    have h6f : allB l = false := by cases e : allB l <;> simp_all
    rw [h6f] at HV
    have h5' : (capF size == 0) = false := by simpa using h5
    have h5'' := capF_rng size
    generalize hcf : capF size = cf at HC h5'
    have hno : recB 3 size first prev l = false := by unfold recB; exact decide_eq_false (fun h => h6 h.2)
    rw [hno]
    clear HL h
    go_enter Try.func16, Try.ntmps16
    go_wp2_with (first
      | ((go_at_call 12; with_reducible refine (HC.out _).mono ?_); rintro e w2 ⟨rfl, hg⟩; have HB2 := Lib.hid hg.below; clear hg)
      | ((go_at_call 26; with_reducible refine (HV.out _ HB2.out).mono ?_); rintro e w3 ⟨rfl, hg⟩; have HB3 := Lib.hid (HB2.out.trans (hg.below.mono HB2.out.size)); clear hg)
      | ((go_at_call 14; with_reducible refine (HP.out _).mono ?_); rintro e w4 ⟨rfl, hg⟩; have HB4 := Lib.hid (HB3.out.trans (hg.below.mono HB3.out.size)); clear hg))
    go_ret2
    exact ⟨by rw [if_neg (by decide)]; rfl, HB3.out⟩
  have hyes : recB 3 size first prev l = true := by unfold recB; exact decide_eq_true ⟨⟨⟨⟨⟨h1, h2⟩, h3⟩, h4⟩, h5⟩, h6⟩
  rw [hyes]
  rw [h6] at HV
  obtain ⟨c, hc, hc1, hc2, hN, hN1, hNi⟩ := recN_facts size l h5 hl
  rw [hc] at HC ⊢
  rw [hN] at HP
  rw [Int.toNat_natCast]
  have h5' : ((c : Int) == 0) = false := by simp; omega
  generalize recN size l = N at *
  have hNz : decide ((65535 : Int) < (N : Int)) = false := by simp; omega
  have hfi : first ≤ 9223372036854775808 := h3
  have HNI := Lib.hid hNi
  clear hyes hc hN hNi h1 h2 h3 h4 h5 h6 h
  go_enter Try.func16, Try.ntmps16
  go_upto_region 3 with (first
      | ((go_at_call 12; with_reducible refine (HC.out _).mono ?_); rintro e w2 ⟨rfl, hg⟩; have HB2 := Lib.hid hg.below; clear hg)
      | ((go_at_call 26; with_reducible refine (HV.out _ HB2.out).mono ?_); rintro e w3 ⟨rfl, hg⟩; have HB3 := Lib.hid (HB2.out.trans (hg.below.mono HB2.out.size)); clear hg)
      | ((go_at_call 14; with_reducible refine (HP.out _).mono ?_); rintro e w4 ⟨rfl, hg⟩; have HB4 := Lib.hid (HB3.out.trans (hg.below.mono HB3.out.size)); clear hg))
  go_upto_region 8 with (first
      | ((go_at_call 14; with_reducible refine (HP.out _).mono ?_); rintro e w4 ⟨rfl, hg⟩; have HB4 := Lib.hid (HB3.out.trans (hg.below.mono HB3.out.size)); clear hg)
      | ((go_at_call 12; with_reducible refine (HC.out _).mono ?_); rintro e w5 ⟨rfl, hg⟩; have HB5 := Lib.hid (HB4.out.trans (hg.below.mono HB4.out.size)); clear hg))
  have HB0 := Lib.hid HB5.out
  obtain ⟨W0, hW0⟩ : ∃ W0, W0 = w5 := ⟨_, rfl⟩
  rw [← hW0] at HB0 ⊢
  clear hW0 HB2 HB3 HB4 HB5 HC HV HP
  have hN0 : (N : Int) ≤ 1001 := by omega
  go_loopw [14, 15] (fun v i wr => ∃ (j : Nat) (A1 : Option Addr) (c1 : Nat) (L : List Pg), j ≤ N ∧ i = .int .i64 j ∧ v = .slice A1 L.length c1 ∧ Hid (Own7 wr w.heap.size (.slice A1 L.length c1) L) ∧ Hid (L.map (fun x => (x.s, x.es)) = recQ 3 first prev c N l j) ∧ Hid (∀ x ∈ L, Ent w x.ev x.es) ∧ Hid (Below w.heap.size w wr)) (fun _ i _ => N - (RowKit.intOf i).toNat)
  case atStart => exact ⟨0, none, 0, [], Nat.zero_le _, rfl, rfl, Lib.hid (.inl ⟨rfl, rfl⟩), Lib.hid rfl, Lib.hid (fun x hx => by cases hx), HB0⟩
  case round =>
    obtain ⟨j, A1, c1, L, hj, rfl, rfl, HO, HM, HE, HB⟩ := hrel
    clear HB0
    have hLj : L.length = j := by
      have h1 := congrArg List.length HM.out
      rw [List.length_map, recQ_length] at h1
      exact h1
    by_cases hlt : j < N
    · have hci := HNI.out j hlt
      have hcap : l.length ≤ c0 := by
        obtain ⟨A', c', e, h2, _⟩ := HL.out
        injection e with _ _ e3
        rw [e3]
        exact h2
      have HQ := Lib.hid (recQ_succ 3 first prev c N l j)
      obtain ⟨q, hq⟩ : ∃ q, q = c * j := ⟨_, rfl⟩
      obtain ⟨hi, hh⟩ : ∃ hi, hi = min (q + c) l.length := ⟨_, rfl⟩
      rw [← hq] at hci
      obtain ⟨A2, c2, hrun, he⟩ := ent_lh (lo := q) (hi := hi) HL.out (by omega) (by omega) hcap
      rw [chnk_ref c l j q hi hq hh] at hrun he
      have hmul : (c : Int) * (j : Int) = (q : Int) := by rw [hq, Int.natCast_mul]
      have hmin : min ((q : Int) + (c : Int)) (l.length : Int) = (hi : Int) := by omega
      have hj0 : (0 : Int) ≤ (j : Int) := by omega
      have hj1 : (j : Int) < (N : Int) := by omega
      have hq0 : (0 : Int) ≤ (q : Int) := by omega
      have hq1 : (q : Int) ≤ 1000 := by omega
      obtain ⟨x, hx⟩ : ∃ x : Pg, x = ⟨⟨3, 0, first + (j : Int), prev, (j : Int), (N : Int)⟩, A2, c2, chnk c l j⟩ := ⟨_, rfl⟩
      obtain ⟨W1, hW1⟩ : ∃ W1, W1 = wr.alloc (.cells #[.int .u8 3, .int .i64 0, .int .u64 (first + (j : Int)), .int .u64 prev, .int .i64 (j : Int), .int .i64 (N : Int)] 44) := ⟨_, rfl⟩
      have hb1 : Below wr.heap.size wr W1 := by rw [hW1]; exact (Below.refl _ _).alloc (Nat.le_refl _) _
      have hp0 : PgAt ((W1.alloc (.cells x.row 46)).drew) W1.heap.size 0 x := (PgAt.new W1 x 46).keep (fun i => rfl)
      have hbd : Below W1.heap.size W1 ((W1.alloc (.cells x.row 46)).drew) := ((Below.refl _ _).alloc (Nat.le_refl _) _).drew
      have hbw : Below wr.heap.size wr ((W1.alloc (.cells x.row 46)).drew) := hb1.trans (hbd.mono hb1.size)
      have ho2 := HO.out.later hbw
      have hb2 : Below w.heap.size w ((W1.alloc (.cells x.row 46)).drew) := HB.out.trans (hbw.mono HB.out.size)
      obtain ⟨A4, c4, W4, hrunA, ho4, hg4⟩ := app7 ho2 hb2.size (by omega) hp0
      have hb4 := ho2.grown hg4 hb2 (Nat.le_refl _) hb2.size
      have HO4 := Lib.hid ho4
      have HB4 := Lib.hid hb4
      have HE4 : Hid (∀ y ∈ L ++ [x], Ent w y.ev y.es) := Lib.hid (fun y hy => by
        rcases List.mem_append.1 hy with hy | hy
        · exact HE.out y hy
        · obtain rfl := List.mem_singleton.1 hy
          rw [hx]
          exact he)
      have HM4 : Hid ((L ++ [x]).map (fun x => (x.s, x.es)) = recQ 3 first prev c N l (j + 1)) := Lib.hid (by
        rw [HQ.out, List.map_append, HM.out, hx]
        rfl)
      clear hLj hp0 hbd hbw ho2 hb2 ho4 hg4 hb4 he HO HM HE HQ hb1 hq hh
      rw [hW1] at hrunA
      rw [hx] at hrunA
      simp only [Pg.row, Pg.ev, World.size_alloc] at hrunA
      have HX := Lib.hid hx
      clear hW1 hx
      go_upto_region 11 with fail
      go_region
      all_goals
        go_wp2
        go_roundw
        case rel => exact ⟨j + 1, A4, c4, L ++ [x], by omega, by go_num, by rw [List.length_append]; rfl, (by rw [List.length_append]; exact HO4), HM4, HE4, HB4⟩
        case measure => simp [RowKit.intOf]; omega
    · obtain rfl : j = N := by omega
      have hpg : RecR wr (.slice A1 L.length c1) L (recQ 3 first prev c j l j) := by
        refine ⟨?_, HM.out, fun x hx => (HE.out x hx).below HB.out⟩
        by_cases h0 : 0 < L.length
        · obtain ⟨g, cap, e, h1, h2, h3⟩ := HO.out.at_ h0
          injection e with e1 _ e3
          subst e1 e3
          exact ⟨_, _, rfl, h1, fun _ => ⟨g, 0, rfl, h2, fun k hk => by rw [Nat.zero_add]; exact h3 k hk⟩⟩
        · refine ⟨_, _, rfl, by omega, fun h => absurd (Nat.pos_of_ne_zero h) h0⟩
      have HPG := Lib.hid hpg
      clear hpg HO HM HE
      go_wp2
      go_ret2
      exact ⟨by rw [if_pos rfl]; exact ⟨_, L, rfl, HPG.out⟩, HB.out⟩
theorem rrecord_any (k size first prev : Int) (A : Option Addr) (c0 : Nat) (l : List (Int × Int)) (w : World) (h : Ent w (.slice A l.length c0) l) (hl : l.length ≤ 1000) (hf : 0 ≤ first) (hp : 0 ≤ prev) :
    Calls Try.prog 16 #[.int .u8 k, .int .i64 size, .int .u64 first, .int .u64 prev, .slice A l.length c0] w (RrPost w (recB k size first prev l) (recQ k first prev (capF size).toNat (recN size l) l (recN size l))) := by
  by_cases h2 : k = 2
  · subst h2
    exact rrecord_2 size first prev A c0 l w h hl hf hp
  by_cases h3 : k = 3
  · subst h3
    exact rrecord_3 size first prev A c0 l w h hl hf hp
  have hno : recB k size first prev l = false := by
    unfold recB
    exact decide_eq_false (fun h => by
      have h1 := h.1.1.1.1.1
      unfold kdB at h1
      have := of_decide_eq_true h1
      omega)
  rw [hno]
  clear hno h
  go_enter Try.func16, Try.ntmps16
  go_wp2
  go_ret2
  exact ⟨by rw [if_neg (by decide)]; rfl, Below.refl _ _⟩
end Go.Proofs.Ytajlddgemkkcdaa
