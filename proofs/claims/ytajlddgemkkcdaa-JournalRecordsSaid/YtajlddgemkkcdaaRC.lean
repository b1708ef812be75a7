/- The walk of JournalRecords. Conditions stand in each theorem. -/
import Derived.Test.YtajlddgemkkcdaaRB
import Derived.BigQuiet
namespace Go.Proofs.Ytajlddgemkkcdaa
open Go.RowKit
set_option linter.unusedVariables false
set_option maxHeartbeats 8000000
set_option maxRecDepth 100000
attribute [local go_sem ↓ 100000] builtin_appX
theorem RecR.below {w w' : World} {v : Value} {L : List Pg} {Q : List (Spr × List (Int × Int))} (h : RecR w v L Q) (hb : Below w.heap.size w w') : RecR w' v L Q :=
  ⟨h.1.below hb, h.2.1, fun x hx => (h.2.2 x hx).below hb⟩
theorem RecR.setCell {w : World} {v : Value} {L : List Pg} {Q : List (Spr × List (Int × Int))} {B : Nat} (h : RecR w v L Q) (hv : FrB B v) (hL : ∀ x ∈ L, FrB B x.ev) (p : Addr) (hp : p.block < B) (u : Value) : RecR (w.setCell p u) v L Q := by
  obtain ⟨⟨A, c, rfl, hc, hr⟩, hm, he⟩ := h
  have hsz : w.heap.size ≤ (w.setCell p u).heap.size := by simp
  have ho : ∀ b, B ≤ b → ∀ j, (w.setCell p u).cell? ⟨b, j, none⟩ = w.cell? ⟨b, j, none⟩ := fun b hb j => World.cell?_setCell_other _ _ _ _ (fun e => by
    have : p.block = b := by rw [e]
    omega)
  refine ⟨⟨A, c, rfl, hc, fun hn => ?_⟩, hm, fun x hx => (he x hx).keepB hsz (fun b hb j => ho b (hL x hx b hb) j)⟩
  obtain ⟨g, o, rfl, hg, hcell⟩ := hr hn
  exact ⟨g, o, rfl, by omega, fun j hj => (hcell j hj).keep (fun i => ho g (hv g rfl) i)⟩
/-- The pages of a record, or none. -/
def recX (b : Bool) (Q : List (Spr × List (Int × Int))) : List (Spr × List (Int × Int)) := if b = true then Q else []
def recE (b : Bool) : Int := if b = true then 0 else 2
theorem recR_nil (w : World) : RecR w (.slice none 0 0) [] [] := ⟨⟨none, 0, rfl, Nat.le_refl _, fun h => absurd rfl h⟩, rfl, fun x hx => by cases hx⟩
theorem RcPost.both {w w' : World} {b : Bool} {Q : List (Spr × List (Int × Int))} {e : Ending} (h : RcPost w b Q e w') :
    ∃ A c L, e = .returned (.tuple #[.slice A L.length c, .int .i64 (recE b)]) ∧ RecR w' (.slice A L.length c) L (recX b Q) ∧ FrB w.heap.size (.slice A L.length c) ∧ (∀ x ∈ L, FrB w.heap.size x.ev) ∧ Below w.heap.size w w' := by
  obtain ⟨h1, h2⟩ := h
  unfold recE recX
  cases b with
  | false =>
    rw [if_neg (by decide)] at h1
    exact ⟨none, 0, [], h1, recR_nil w', (fun b (hb : (Value.slice none 0 0).ownBlock = some b) => by cases hb), (fun x (hx : x ∈ []) => by cases hx), h2⟩
  | true =>
    rw [if_pos rfl] at h1
    obtain ⟨v, L, he, hr, hf, hx⟩ := h1
    obtain ⟨A, c, rfl, _⟩ := id hr.1
    exact ⟨A, c, L, he, hr, hf, hx, h2⟩
theorem RrPost.both {w w' : World} {b : Bool} {Q : List (Spr × List (Int × Int))} {e : Ending} (h : RrPost w b Q e w') :
    ∃ A c L, e = .returned (.tuple #[.slice A L.length c, .int .i64 (recE b)]) ∧ RecR w' (.slice A L.length c) L (recX b Q) ∧ Below w.heap.size w w' := by
  obtain ⟨h1, h2⟩ := h
  unfold recE recX
  cases b with
  | false =>
    rw [if_neg (by decide)] at h1
    exact ⟨none, 0, [], h1, recR_nil w', h2⟩
  | true =>
    rw [if_pos rfl] at h1
    obtain ⟨v, L, he, hr⟩ := h1
    obtain ⟨A, c, rfl, _⟩ := id hr.1
    exact ⟨A, c, L, he, hr, h2⟩
theorem recX_ents {b : Bool} {k first prev : Int} {c n : Nat} {l : List (Int × Int)} : (recX b (recQ k first prev c n l n)).length ≤ n ∧ ∀ q ∈ recX b (recQ k first prev c n l n), q.2.length ≤ l.length := by
  unfold recX
  cases b with
  | false => exact ⟨Nat.zero_le _, fun q hq => by cases hq⟩
  | true =>
    rw [if_pos rfl]
    refine ⟨Nat.le_of_eq (recQ_length _ _ _ _ _ _ _), fun q hq => ?_⟩
    unfold recQ at hq
    obtain ⟨i, _, rfl⟩ := List.mem_map.1 hq
    show (chnk c l i).length ≤ _
    rw [chnk_len]
    omega
theorem recN_le (size : Int) (l : List (Int × Int)) (hl : l.length ≤ 1000) : recN size l ≤ 1001 := by
  by_cases h : capF size = 0
  · unfold recN pgsF
    rw [if_pos (.inl h)]
    decide
  · obtain ⟨_, _, _, _, _, h, _⟩ := recN_facts size l h hl
    exact h
/-- A row of entries whose second numbers may be written. -/
def OwnW (W : World) (base : Nat) (v : Value) (n : Nat) : Prop := ∃ xs, W.ownsRow base 40 2 v n xs ∧ ∀ j, j < n → ∃ x : Int, xs[j * 2 + 1]? = some (.int .i64 x)
theorem OwnW.of {W : World} {base : Nat} {v : Value} {l : List (Int × Int)} (h : W.ownsRow base 40 2 v l.length (en2 l)) : OwnW W base v l.length := by
  exact ⟨_, h, fun j hj => ⟨_, (en2_at l j hj).2⟩⟩
theorem OwnW.at_ {W : World} {base : Nat} {A : Option Addr} {c n : Nat} (h : OwnW W base (.slice A n c) n) {j : Nat} (hj : j < n) :
    ∃ g x, A = some ⟨g, 0, none⟩ ∧ base ≤ g ∧ W.cell? ⟨g, j * 2 + 1, none⟩ = some (.int .i64 x) ∧ W.frozen? ⟨g, j * 2 + 1, none⟩ = false ∧ ∀ y, OwnW (W.setCell ⟨g, j * 2 + 1, none⟩ (.int .i64 y)) base (.slice A n c) n := by
  obtain ⟨xs, h, hx⟩ := h
  have hg : ∃ g, A = some ⟨g, 0, none⟩ := by
    rcases h.2 with ⟨_, h0⟩ | ⟨g, cap, cur, e, _⟩
    · omega
    · injection e with e1 _ _; exact ⟨g, e1⟩
  obtain ⟨g, rfl⟩ := hg
  obtain ⟨x, h1⟩ := hx j hj
  have hlen := h.1
  refine ⟨g, x, rfl, (h.lt g rfl).1, (h.cellAt _ (by omega)).trans h1, h.frozenAt _, fun y => ⟨_, (h.stored (j * 2 + 1) _).1, fun i hi => ?_⟩⟩
  rw [List.getElem?_set]
  by_cases e : j * 2 + 1 = i * 2 + 1
  · rw [if_pos e, if_pos (by omega)]
    exact ⟨y, rfl⟩
  · rw [if_neg e]
    exact hx i hi
theorem records_any (k n first prev : Int) (v : Value) (l : List (Int × Int)) (w : World) (hv : Ent w v l) (hf : 0 ≤ first) (hp : 0 ≤ prev) : Calls Try.prog 4 #[.int .u8 k, .int .i64 n, .int .u64 first, .int .u64 prev, v] w (LawPost w) := by
  have HWK := Lib.hid works_any
  have hve := hv
  obtain ⟨A, c, rfl, hc, hr⟩ := hv
  clear hc hr
  by_cases h1 : 60 < l.length
  · have h1z : (60 : Int) < (l.length : Int) := by omega
    clear hve
    go_enter Try.func4, Try.ntmps4
    go_wp2_with ((go_at_call 7; (with_reducible refine (HWK.out _).mono ?_)); rintro e w2 ⟨rfl, hb2⟩; have HB2 := Lib.hid hb2; clear hb2)
    go_ret
    exact ⟨rfl, HB2.out⟩
  have h1z : (l.length : Int) ≤ 60 := by omega
  by_cases h2 : 1000 < n
  · clear hve
    go_enter Try.func4, Try.ntmps4
    go_wp2_with ((go_at_call 7; (with_reducible refine (HWK.out _).mono ?_)); rintro e w2 ⟨rfl, hb2⟩; have HB2 := Lib.hid hb2; clear hb2)
    go_ret
    exact ⟨rfl, HB2.out⟩
  have h2z : n ≤ 1000 := by omega
  have hb : Below w.heap.size w (w.alloc (.cells #[] 40)) := (Below.refl _ _).alloc (Nat.le_refl _) _
  obtain ⟨B, d, W2, hrun, ho, hg⟩ := app_ent (W := w.alloc (.cells #[] 40)) (base := w.heap.size) (v := .slice (some ⟨w.heap.size, 0, none⟩) 0 0) (en := []) (World.ownsRow_made w #[] 0 (Nat.le_refl _) (Nat.zero_le _) (by simp)) (hve.below hb) (by simp; omega) hb.size
  have hb2 : Below w.heap.size w W2 := hb.grown hg hb.size (fun j hj => by cases hj; exact Nat.le_refl _)
  simp only [List.length_nil, Nat.zero_add, List.nil_append] at hrun ho
  have HOW := Lib.hid (OwnW.of ho)
  have HLT := Lib.hid (fun g hg => (ho.lt g hg).2)
  have HB2 := Lib.hid hb2
  have HR := Lib.hid (record_any k n first prev B d l W2 (Ent.of_own ho) (by omega) hf hp)
  have HRR := Lib.hid (fun W (hW : Below w.heap.size w W) => rrecord_any k n first prev A c l W (hve.below hW) (by omega) hf hp)
  have HNUM := Lib.hid (fun k W => num_any k W)
  have HX := Lib.hid (recX_ents (b := recB k n first prev l) (k := k) (first := first) (prev := prev) (c := (capF n).toNat) (n := recN n l) (l := l))
  have HN := Lib.hid (recN_le n l (by omega))
  generalize recQ k first prev (capF n).toNat (recN n l) l (recN n l) = Q0 at *
  generalize recB k n first prev l = rb at *
  generalize recN n l = N at *
  clear ho hg hb hb2 hve h1 h2
  go_enter Try.func4, Try.ntmps4
  go_upto_region 6 with ((go_at_call 15; with_reducible refine HR.out.mono ?_); rintro e w3 hpost; obtain ⟨A3, c3, L, rfl, hrr, hf1, hf2, hb3⟩ := hpost.both; have HRE := Lib.hid hrr; have HF1 := Lib.hid hf1; have HF2 := Lib.hid hf2; have HB3 := Lib.hid hb3; clear hpost hrr hf1 hf2 hb3)
  have how3 : OwnW w3 w.heap.size (.slice B l.length d) l.length := by
    obtain ⟨xs, h1, h2⟩ := HOW.out
    exact ⟨xs, own_below8 h1 HB3.out, h2⟩
  have HO3 := Lib.hid how3
  have HBW3 := Lib.hid (HB2.out.trans (HB3.out.mono HB2.out.size))
  clear how3 HOW HR hrun HB2 HB3
  go_loopw [14] (fun i wr => ∃ (j : Nat), j ≤ l.length ∧ i = .int .i64 j ∧ Hid (OwnW wr w.heap.size (.slice B l.length d) l.length) ∧ Hid (RecR wr (.slice A3 L.length c3) L (recX rb Q0)) ∧ Hid (Below w.heap.size w wr)) (fun i _ => l.length - (RowKit.intOf i).toNat)
  case atStart => exact ⟨0, Nat.zero_le _, rfl, HO3, HRE, HBW3⟩
  case round =>
    obtain ⟨j, hj, rfl, HO, HA, HB⟩ := hrel
    clear HO3 HRE HBW3
    by_cases hlt : j < l.length
    · obtain ⟨g0, x, rfl, hbg, hc1, hfz, hst⟩ := HO.out.at_ hlt
      have HST : Hid (∀ y, OwnW (wr.setCell ⟨g0, j * 2 + 1, none⟩ (.int .i64 y)) w.heap.size (.slice (some ⟨g0, 0, none⟩) l.length d) l.length ∧ RecR (wr.setCell ⟨g0, j * 2 + 1, none⟩ (.int .i64 y)) (.slice A3 L.length c3) L (recX rb Q0) ∧ Below w.heap.size w (wr.setCell ⟨g0, j * 2 + 1, none⟩ (.int .i64 y))) :=
        Lib.hid (fun y => ⟨hst y, HA.out.setCell HF1.out HF2.out _ (HLT.out g0 rfl) _, HB.out.setCell hbg _⟩)
      have hj0 : (0 : Int) ≤ (j : Int) := by omega
      have hj1 : (j : Int) < (l.length : Int) := by omega
      clear hst HO HA HB
      go_wp2
      go_roundw
      case rel =>
        obtain ⟨a1, a2, a3⟩ := HST.out _
        exact ⟨j + 1, by omega, by go_num, Lib.hid a1, Lib.hid a2, Lib.hid a3⟩
      case measure => simp [RowKit.intOf]; omega
    · obtain rfl : j = l.length := by omega
      go_upto_region 10 with ((go_at_call 16; with_reducible refine (HRR.out _ HB.out).mono ?_); rintro e w4 hpost; obtain ⟨A4, c4, M, rfl, hrr, hb4⟩ := hpost.both; have HRM := Lib.hid hrr; have HB4 := Lib.hid (HB.out.trans (hb4.mono HB.out.size)); have HRL := Lib.hid (HA.out.below hb4); clear hpost hrr hb4)
      have hml : M.length = L.length := by
        have h1 := congrArg List.length (HRL.out.2.1.trans HRM.out.2.1.symm)
        simpa using h1.symm
      have hLl : (L.length : Int) ≤ 1001 := by
        have h1 := congrArg List.length HRL.out.2.1
        rw [List.length_map] at h1
        have := HX.out.1
        have := HN.out
        omega
      have hne1 : (recE rb != recE rb) = false := by simp
      have hml' : (M.length : Int) = (L.length : Int) := by omega
      have hne2 : ((L.length : Int) != (M.length : Int)) = false := by rw [hml']; simp
      have HML := Lib.hid hml
      generalize recE rb = er at *
      clear HA HB HF1 HF2 HLT HRR hml hml'
      go_upto_region 13 with ((go_at_call 10; with_reducible refine (HNUM.out _ _).mono ?_); rintro e w5 ⟨rfl, hg⟩; have HB5 := Lib.hid (HB4.out.trans (hg.below.mono HB4.out.size)); have HL5 := Lib.hid (HRL.out.below hg.below); have HM5 := Lib.hid (HRM.out.below hg.below); clear hg)
      clear HRL HRM HB4
      go_loopw [17] (fun i wr => ∃ (j : Nat), j ≤ L.length ∧ i = .int .i64 j ∧ Hid (RecR wr (.slice A3 L.length c3) L (recX rb Q0)) ∧ Hid (RecR wr (.slice A4 M.length c4) M (recX rb Q0)) ∧ Hid (Below w.heap.size w wr)) (fun i _ => L.length - (RowKit.intOf i).toNat)
      case atStart => exact ⟨0, Nat.zero_le _, rfl, HL5, HM5, HB5⟩
      case round =>
        obtain ⟨j, hj, rfl, HA, HM, HB⟩ := hrel
        clear HL5 HM5 HB5
        by_cases hlt : j < L.length
        · have hltM : j < M.length := by rw [HML.out]; exact hlt
          obtain ⟨⟨A', c', ea, ha0, hra⟩, hma, hea⟩ := HA.out
          obtain ⟨⟨B', d', eb, hb0, hrb⟩, hmb, heb⟩ := HM.out
          injection ea with ea1 _ _
          injection eb with eb1 _ _
          subst ea1 eb1
          obtain ⟨g, o, rfl, hg, hcx⟩ := hra (by omega)
          obtain ⟨g', o', rfl, hg', hcy⟩ := hrb (by omega)
          have hx := hcx j hlt
          have hy := hcy j hltM
          have hex := hea _ (List.getElem_mem hlt)
          have hey := heb _ (List.getElem_mem hltM)
          have hxy : (L[j].s, L[j].es) = (M[j].s, M[j].es) := by
            have h1 : (L.map (fun x => (x.s, x.es)))[j]? = (M.map (fun x => (x.s, x.es)))[j]? := by rw [hma, hmb]
            rw [List.getElem?_map, List.getElem?_map, List.getElem?_eq_getElem hlt, List.getElem?_eq_getElem hltM] at h1
            exact Option.some.inj h1
          have hle : L[j].es.length ≤ l.length := by
            refine HX.out.2 (L[j].s, L[j].es) ?_
            rw [← hma]
            exact List.mem_map.2 ⟨_, List.getElem_mem hlt, rfl⟩
          clear hcx hcy hra hrb hea heb hma hmb
          generalize L[j] = x at *
          generalize M[j] = y at *
          obtain ⟨⟨xk, xs, xq, xp, xi, xn⟩, xa, xc, xe⟩ := x
          obtain ⟨ys, ya, yc, ye⟩ := y
          injection hxy with e1 e2
          simp only at e1 e2
          subst e1 e2
          have HSM : Hid (∀ p : Gw wr, Calls Try.prog 17 #[.slice xa xe.length xc, .slice ya xe.length yc] p.W (Ret p.W (.bool true))) := Lib.hid (fun p => by
            have := same_any _ _ _ _ p.W (hex.below p.h.below) (hey.below p.h.below) (by simp only at hle ⊢; omega) (by simp only at hle ⊢; omega)
            simpa using this)
          have hxr := fun r : Gw wr => hx.keep (fun i => r.h.below.cell (p := ⟨g, i, none⟩) hg)
          have hyr := fun r : Gw wr => hy.keep (fun i => r.h.below.cell (p := ⟨g', i, none⟩) hg')
          have x0 := fun r : Gw wr => (hxr r).c0
          have x1 := fun r : Gw wr => (hxr r).c1
          have x2 := fun r : Gw wr => (hxr r).c2
          have x3 := fun r : Gw wr => (hxr r).c3
          have x4 := fun r : Gw wr => (hxr r).c4
          have x5 := fun r : Gw wr => (hxr r).c5
          have x6 := fun r : Gw wr => (hxr r).c6
          have y0 := fun r : Gw wr => (hyr r).c0
          have y1 := fun r : Gw wr => (hyr r).c1
          have y2 := fun r : Gw wr => (hyr r).c2
          have y3 := fun r : Gw wr => (hyr r).c3
          have y4 := fun r : Gw wr => (hyr r).c4
          have y5 := fun r : Gw wr => (hyr r).c5
          have y6 := fun r : Gw wr => (hyr r).c6
          simp only [Pg.ev] at x0 x1 x2 x3 x4 x5 x6 y0 y1 y2 y3 y4 y5 y6
          have hne := gw_ne wr
          have hj0 : (0 : Int) ≤ (j : Int) := by omega
          have hj1 : (j : Int) < (L.length : Int) := by omega
          have hj2 : (j : Int) < (M.length : Int) := by have := HML.out; omega
          clear hxr hyr hx hy hex hey hne1 hne2
          go_upto_region 15 with fail
          refine wp_region_gw (by kernel_rfl) (by kernel_rfl) ?_
          repeat (go_big_quiet_step ((go_at_call 17; exact gw_of _ (HSM.out _))))
          refine wpQuiet_nil ?_
          rintro w6 ⟨⟨_, hg6⟩, rfl⟩
          have hb6 := hg6.below
          have HA6 := Lib.hid (HA.out.below hb6)
          have HM6 := Lib.hid (HM.out.below hb6)
          have HB6 := Lib.hid (HB.out.trans (hb6.mono HB.out.size))
          clear x0 x1 x2 x3 x4 x5 x6 y0 y1 y2 y3 y4 y5 y6 hne hb6 HA HM HB HSM hg hg'
          go_wp2
          go_roundw
          case rel => exact ⟨j + 1, by omega, by go_num, HA6, HM6, HB6⟩
          case measure => simp [RowKit.intOf]; omega
        · obtain rfl : j = L.length := by omega
          clear hne1 hne2
          go_wp2_with ((go_at_call 7; (with_reducible refine (HWK.out _).mono ?_)); rintro e w9 ⟨rfl, hb9⟩; have HB9 := Lib.hid (HB.out.trans (hb9.mono HB.out.size)); clear hb9)
          go_ret
          exact ⟨rfl, HB9.out⟩
end Go.Proofs.Ytajlddgemkkcdaa
