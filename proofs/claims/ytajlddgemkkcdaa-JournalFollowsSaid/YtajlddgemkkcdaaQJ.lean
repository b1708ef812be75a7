/- The contract of the reference's whole. Conditions stand in each theorem. -/
import Derived.Test.YtajlddgemkkcdaaQI
import Derived.Test.YtajlddgemkkcdaaY
namespace Go.Proofs.Ytajlddgemkkcdaa
open Go.RowKit
set_option linter.unusedVariables false
set_option maxHeartbeats 8000000
set_option maxRecDepth 100000
attribute [local go_sem ↓ 100000] builtin_appX
theorem nodup_lt_len : ∀ (n : Nat) (l : List Nat), l.Nodup → (∀ x ∈ l, x < n) → l.length ≤ n
  | 0, l, _, h => by
    cases l with
    | nil => exact Nat.le_refl _
    | cons x t => exact absurd (h x (by simp)) (by omega)
  | n + 1, l, hd, h => by
    by_cases hm : n ∈ l
    · have h1 := nodup_lt_len n (l.erase n) (hd.erase n) (fun x hx => by
        have h2 := (hd.mem_erase_iff).1 hx
        have := h x h2.2
        omega)
      rw [List.length_erase_of_mem hm] at h1
      omega
    · have := nodup_lt_len n l hd (fun x hx => by
        have := h x hx
        have : x ≠ n := fun e => hm (by rw [← e]; exact hx)
        omega)
      omega
/-- The places of the pages of a record, if all are there. -/
def whF (l : List Pg) (r : Rec) : Option (List Nat) := if (ordF l r.n.toNat (plK l l.length r)).length = r.n.toNat then some (ordF l r.n.toNat (plK l l.length r)) else none
theorem ord_pg (l : List Pg) (n : Nat) (r : Rec) : ordF l n (plK l l.length r) = (List.range n).filterMap fun (j : Nat) => pgF l r (j : Int) := rfl
theorem plK_mem {l : List Pg} {r : Rec} {p : Nat} (h : p ∈ plK l l.length r) : p < l.length ∧ isP l r p = true := by
  unfold plK at h
  have := List.mem_filter.1 h
  exact ⟨List.mem_range.1 this.1, this.2⟩
theorem ord_sub {l : List Pg} {n : Nat} {r : Rec} {p : Nat} (h : p ∈ ordF l n (plK l l.length r)) : p ∈ plK l l.length r := by
  unfold ordF at h
  obtain ⟨j, _, hf⟩ := List.mem_filterMap.1 h
  exact List.mem_of_find?_eq_some hf
theorem ord_nodup (l : List Pg) (n : Nat) (P : List Nat) : (ordF l n P).Nodup := (ord_sorted (l := l) (n := n) (P := P)).imp (fun {a b} h e => by subst e; omega)
theorem wh_none {l : List Pg} {r : Rec} {t : Nat} (ht : t < r.n.toNat) (h : pgF l r (t : Int) = none) : whF l r = none := by
  unfold whF
  rw [if_neg]
  intro e
  rw [ord_pg, List.length_filterMap_eq_countP] at e
  have h2 : (List.range r.n.toNat).length = r.n.toNat := by simp
  rw [← h2] at e
  have := (List.countP_eq_length.1 (by rw [h2] at e ⊢; exact e)) t (List.mem_range.2 ht)
  rw [h] at this
  cases this
theorem wh_long {l : List Pg} {r : Rec} (h : (l.length : Int) < r.n) : whF l r = none := by
  unfold whF
  rw [if_neg]
  intro e
  have := nodup_lt_len l.length _ (ord_nodup l r.n.toNat (plK l l.length r)) (fun x hx => (plK_mem (ord_sub hx)).1)
  omega
theorem fm_all {α : Type} {f : Nat → Option α} : ∀ (n : Nat) (ps : List α), ps.length = n → (∀ t (h : t < ps.length), f t = some ps[t]) → (List.range n).filterMap f = ps
  | 0, ps, h, _ => by rw [List.eq_nil_of_length_eq_zero h]; rfl
  | n + 1, ps, h, hf => by
    have h1 := fm_all (f := f) n (ps.take n) (by rw [List.length_take]; omega) (fun t ht => by
      rw [List.length_take] at ht
      rw [hf t (by omega), List.getElem_take])
    rw [List.range_succ, List.filterMap_append, h1]
    have h2 : ps = ps.take n ++ [ps[n]'(by omega)] := by
      have := List.take_succ_eq_append_getElem (show n < ps.length by omega)
      rw [List.take_of_length_le (by omega)] at this
      exact this
    conv => rhs; rw [h2]
    congr 1
    simp [hf n (by omega)]
theorem wh_some {l : List Pg} {r : Rec} {ps : List Nat} (hl : ps.length = r.n.toNat) (h : ∀ t (ht : t < ps.length), pgF l r (t : Int) = some ps[t]) : whF l r = some ps := by
  have e : ordF l r.n.toNat (plK l l.length r) = ps := by rw [ord_pg]; exact fm_all _ ps hl h
  unfold whF
  rw [e, if_pos hl]
/-- What whole leaves. -/
def WhPost (w : World) (m : Option (List Nat)) (e : Ending) (w' : World) : Prop :=
  (match m with
    | none => e = .returned (.slice none 0 0)
    | some ps => ∃ g c, e = .returned (.slice (some ⟨g, 0, none⟩) ps.length c) ∧ Pls w' (.slice (some ⟨g, 0, none⟩) ps.length c) ps) ∧ Below w.heap.size w w'
theorem whole_any (o : Spr) (ho : jnB o = true) (hok : o.ok) (A : Option Addr) (c : Nat) (l : List Pg) (w : World) (h : Pgs w (.slice A l.length c) l) (hl : Okn l) (hm : l.length ≤ 10000) :
    Calls Try.prog 60 #[.slice A l.length c, o.v] w (WhPost w (whF l o.key)) := by
  have HPG := Lib.hid (fun (W : World) (hb : Below w.heap.size w W) (j : Int) => page_any o ho hok A c l W (h.below hb) hl hm j)
  have hn : o.key.n = o.n := rfl
  have HLG := Lib.hid (fun (h : (l.length : Int) < o.n) => wh_long (l := l) (r := o.key) h)
  have HNO := Lib.hid (fun (t : Nat) (ht : t < o.n.toNat) (h : pgF l o.key (t : Int) = none) => wh_none (l := l) (r := o.key) ht h)
  have HYE := Lib.hid (fun (ps : List Nat) (hl : ps.length = o.n.toNat) (h : ∀ t (ht : t < ps.length), pgF l o.key (t : Int) = some ps[t]) => wh_some (l := l) (r := o.key) hl h)
  have HPI : Hid (∀ j, pgI l o.key j = match pgF l o.key j with | some i => (i : Int) | none => -1) := Lib.hid (fun j => rfl)
  have HPL : Hid (∀ j i, pgF l o.key j = some i → i < l.length) := Lib.hid (fun j i h => (plK_mem (List.mem_of_find?_eq_some h)).1)
  obtain ⟨R, hR⟩ : ∃ R, R = whF l o.key := ⟨_, rfl⟩
  rw [← hR] at HLG HNO HYE ⊢
  obtain ⟨-, -, n1, n2, -⟩ := jn_facts ho
  obtain ⟨key, hkey⟩ : ∃ key, key = o.key := ⟨_, rfl⟩
  rw [← hkey] at HPG HNO HYE HPI HPL
  obtain ⟨ok, os, oq, op, oi, on⟩ := o
  simp only at n1 n2 HLG HNO HYE
  simp only [Spr.v, Spr.row] at HPG
  have hli : (l.length : Int) ≤ 10000 := by omega
  have HW1 := Lib.hid (heap_alloc_new w (.cells #[.int .u8 ok, .int .i64 os, .int .u64 oq, .int .u64 op, .int .i64 oi, .int .i64 on] 44))
  obtain ⟨N, hN⟩ : ∃ N : Nat, on = (N : Int) := ⟨on.toNat, by omega⟩
  clear h hl ho hR hkey hn hok
  subst hN
  simp only [Int.toNat_natCast] at HNO HYE
  by_cases hlong : (l.length : Int) < (N : Int)
  · have HRN := Lib.hid (HLG.out hlong)
    show Calls Try.prog 60 #[.slice A l.length c, .agg #[.int .u8 ok, .int .i64 os, .int .u64 oq, .int .u64 op, .int .i64 oi, .int .i64 (N : Int)]] w _
    go_enter Try.func60, Try.ntmps60
    go_wp2
    go_ret
    refine ⟨?_, (Below.refl _ w).alloc (Nat.le_refl _) _⟩
    rw [HRN.out]
    rfl
  show Calls Try.prog 60 #[.slice A l.length c, .agg #[.int .u8 ok, .int .i64 os, .int .u64 oq, .int .u64 op, .int .i64 oi, .int .i64 (N : Int)]] w _
  clear HLG
  go_enter Try.func60, Try.ntmps60
  go_wp2
  obtain ⟨W1, hW1⟩ : ∃ W1, W1 = w.alloc (.cells #[.int .u8 ok, .int .i64 os, .int .u64 oq, .int .u64 op, .int .i64 oi, .int .i64 (N : Int)] 44) := ⟨_, rfl⟩
  have HB1 : Hid (Below w.heap.size w W1) := Lib.hid (by rw [hW1]; exact (Below.refl _ w).alloc (Nat.le_refl _) _)
  have HS1 : Hid (W1.heap.size = w.heap.size + 1) := Lib.hid (by rw [hW1]; simp)
  rw [← hW1] at HW1 ⊢
  clear hW1
  go_loopw [5, 6] (fun v i wr => ∃ (k : Nat) (ps : List Nat) (A1 : Option Addr) (c1 : Nat), k ≤ N ∧ i = .int .i64 (k : Int) ∧ v = .slice A1 k c1 ∧ Hid (ps.length = k) ∧ Hid (∀ t (ht : t < ps.length), pgF l key (t : Int) = some ps[t]) ∧ Hid (wr.ownsRow (w.heap.size + 1) 3 1 (.slice A1 k c1) ps.length (iv ps)) ∧ Hid (Below (w.heap.size + 1) W1 wr)) (fun _ i _ => N - (RowKit.intOf i).toNat)
  case atStart => exact ⟨0, [], none, 0, Nat.zero_le _, rfl, rfl, Lib.hid rfl, Lib.hid (fun t ht => absurd ht (by simp)), Lib.hid (World.ownsRow_nil _ _ _ _), Lib.hid (Below.refl _ _)⟩
  case round =>
    obtain ⟨k, ps, A1, c1, hk, rfl, rfl, HL, HPS, HO, HB⟩ := hrel
    have hb3 := (HB.out.block w.heap.size (by omega)).trans HW1.out
    have g0 := cell_of_row wr w.heap.size 0 _ _ _ hb3
    have g1 := cell_of_row wr w.heap.size 1 _ _ _ hb3
    have g2 := cell_of_row wr w.heap.size 2 _ _ _ hb3
    have g3 := cell_of_row wr w.heap.size 3 _ _ _ hb3
    have g4 := cell_of_row wr w.heap.size 4 _ _ _ hb3
    have g5 := cell_of_row wr w.heap.size 5 _ _ _ hb3
    have hbw : Below w.heap.size w wr := HB1.out.trans (HB.out.mono (Nat.le_succ _))
    have HBW := Lib.hid hbw
    clear hb3 hbw
    by_cases hlt : k < N
    · have hki : (k : Int) < (N : Int) := by omega
      have HPC := Lib.hid (HPG.out wr HBW.out (k : Int))
      have hpi := HPI.out (k : Int)
      rw [hpi] at HPC
      clear hpi
      cases hf : pgF l key (k : Int) with
      | none =>
        rw [hf] at HPC
        have HRN := Lib.hid (HNO.out k hlt hf)
        clear hf
        go_wp2_with ((go_at_call 92; with_reducible refine HPC.out.mono ?_); rintro e w4 ⟨rfl, hg⟩; have HG4 := Lib.hid hg.below; clear hg)
        go_ret
        refine ⟨?_, HBW.out.trans (HG4.out.mono HBW.out.size)⟩
        rw [HRN.out]
        rfl
      | some i =>
        rw [hf] at HPC
        have hil : (i : Int) < 10000 := by have := HPL.out _ _ hf; omega
        have hi0 : (0 : Int) ≤ (i : Int) := by omega
        have HPS2 : Hid (∀ t (ht : t < (ps ++ [i]).length), pgF l key (t : Int) = some (ps ++ [i])[t]) := Lib.hid (fun t ht => by
          by_cases e : t < ps.length
          · rw [HPS.out t e, List.getElem_append_left e]
          · rw [List.length_append] at ht
            have e2 : t = k := by have := HL.out; simp at ht; omega
            subst e2
            rw [hf, List.getElem_append_right (by omega)]
            simp)
        have HAP : Hid (∀ W, Gr wr W → ∃ B d W', (appX #[50, 50] 50 #[.slice A1 k c1, .slice (some ⟨W.heap.size, 0, none⟩) 1 1]).run Try.prog (W.alloc (.cells #[.int .i64 (i : Int)] 3)) = .ok (.value (.slice B (k + 1) d)) W' ∧ W'.ownsRow (w.heap.size + 1) 3 1 (.slice B (k + 1) d) (ps ++ [i]).length (iv (ps ++ [i])) ∧ Below (w.heap.size + 1) wr W') := Lib.hid (fun W hW => by
          have hb := hW.below
          have hsz := HB.out.size
          have hs1 := HS1.out
          have hbs := hb.size
          have ho := own_below8 (own_below8 HO.out hb) (Below.alloc (Below.refl _ W) (Nat.le_refl _) (.cells #[.int .i64 (i : Int)] 3))
          have hx : Pls (W.alloc (.cells #[.int .i64 (i : Int)] 3)) (.slice (some ⟨W.heap.size, 0, none⟩) 1 1) [i] := ⟨_, 1, rfl, Nat.le_refl _, fun _ => ⟨W.heap.size, _, rfl, heap_alloc_new W _, fun j hj => by obtain rfl : j = 0 := (by simpa using hj); rfl⟩⟩
          have hlen := HL.out
          rw [hlen] at ho
          have hkn : k ≤ 65535 := by omega
          obtain ⟨B, d, W', h1, h2, h3⟩ := app_pls (us := ps) (ps := [i]) (by rw [hlen]; exact ho) hx (by rw [hlen]; simp; omega) (by simp; omega)
          rw [hlen] at h1
          refine ⟨B, d, W', h1, by rw [hlen] at h2; exact h2, ?_⟩
          exact ((hb.mono (by omega)).alloc (by omega) _).grown h3 (by simp; omega) (fun b hb' => (ho.lt b hb').1))
        have HL2 : Hid ((ps ++ [i]).length = k + 1) := Lib.hid (by rw [List.length_append, HL.out]; rfl)
        clear hf
        go_wp2_with ((go_at_call 92; with_reducible refine HPC.out.mono ?_); rintro e w4 ⟨rfl, hg⟩; (obtain ⟨B, d, W5, hrun, hown, hb5⟩ := HAP.out _ hg); have HO5 := Lib.hid hown; have HB5 := Lib.hid (HB.out.trans (hb5)); clear hg hown hb5)
        go_roundw
        case rel => exact ⟨k + 1, ps ++ [i], B, d, by omega, by go_num, rfl, HL2, HPS2, HO5, HB5⟩
        case measure => simp [RowKit.intOf]; omega
    · obtain rfl : k = N := by omega
      have hki : ¬ (k : Int) < (k : Int) := by omega
      have HRS := Lib.hid (HYE.out ps HL.out HPS.out)
      go_wp2
      go_ret
      refine ⟨?_, HBW.out⟩
      rw [HRS.out]
      obtain ⟨g, hg⟩ : ∃ g, A1 = some ⟨g, 0, none⟩ := by
        rcases HO.out.2 with ⟨_, h0⟩ | ⟨g, cap, cur, e1, _⟩
        · have := HL.out; omega
        · injection e1 with e1 _ _; exact ⟨g, e1⟩
      subst hg
      have hl := HL.out
      have ho := HO.out
      refine ⟨g, c1, by rw [hl]; rfl, ?_⟩
      have e : (Value.slice (some ⟨g, 0, none⟩) ps.length c1) = .slice (some ⟨g, 0, none⟩) k c1 := by rw [hl]
      rw [e]
      exact Pls.of_own ho
end Go.Proofs.Ytajlddgemkkcdaa
