/- The Reader's cursor and its methods, where they succeed. Condition: the pointer leads to a reader. -/
import Derived.Test.YtajlddgemkkcdaaGreatWD
import Derived.Laws.BitsAllLaws
namespace Go.Proofs.YtajlddgemkkcdaaGreat
open Go.RowKit
set_option linter.unusedVariables false
set_option maxHeartbeats 1000000

def getE (l : List UInt8) : Int := if l.length < 1 ∨ 8 < l.length then 2 else 0
def getZ (l : List UInt8) : Int := if l.length < 1 ∨ 8 < l.length then 0 else getV l
theorem get_step (l : List UInt8) (k : Nat) (h : k < l.length) (h8 : l.length ≤ 8) :
    bits .or .u64 (getV (l.take k) : Int) (IntKind.u64.wrap ((l[k].toNat : Int) * 2 ^ (8 * k))) = (getV (l.take (k + 1)) : Int) := by
  have hb : l[k].toNat < 256 := l[k].toNat_lt
  have hk : 256 ^ (k + 1) ≤ 256 ^ 8 := Nat.pow_le_pow_right (by decide) (by omega)
  have hl : getV (l.take k) < 256 ^ k := by
    have := getV_lt (l.take k)
    rwa [List.length_take, Nat.min_eq_left (by omega)] at this
  have hm : l[k].toNat * 256 ^ k < 18446744073709551616 := by
    have h1 : l[k].toNat * 256 ^ k < 256 * 256 ^ k := Nat.mul_lt_mul_of_pos_right hb (Nat.pow_pos (by decide))
    rw [Nat.pow_succ] at hk
    omega
  have e : ((l[k].toNat : Int) * 2 ^ (8 * k)) = ((l[k].toNat * 256 ^ k : Nat) : Int) := by rw [pow256]; simp
  have hw : IntKind.u64.wrap ((l[k].toNat * 256 ^ k : Nat) : Int) = ((l[k].toNat * 256 ^ k : Nat) : Int) := by
    rw [IntKind.wrap_u64]
    exact Int.emod_eq_of_lt (by omega) (by omega)
  have hl2 : getV (l.take k) < 18446744073709551616 := by
    have : 256 ^ k ≤ 256 ^ (k + 1) := Nat.pow_le_pow_right (by decide) (by omega)
    omega
  rw [e, hw, u64_or_nat _ _ hl2 hm, Nat.or_comm, nat_join (8 * k) _ _ (by rw [pow256, Nat.mul_mod_left]) (by rw [← pow256]; exact hl), getV_take l k h, Nat.add_comm]
theorem Get_any (v : Value) (l : List UInt8) (w : World) (h : Byt w v l) (hl : l.length ≤ 9223372036854775807) : Calls Tryz.prog 99 #[v] w fun e w' => e = .returned (.tuple #[.int .u64 (getZ l), .int .i64 (getE l)]) ∧ w = w' := by
  obtain ⟨A, c, rfl, hc, hr⟩ := h
  by_cases hb : l.length < 1 ∨ 8 < l.length
  · have hz : getZ l = 0 ∧ getE l = 2 := ⟨if_pos hb, if_pos hb⟩
    have HZ := Lib.hid hz; clear hz hr
    have Hb := Lib.hid hb; clear hb
    have Hl := Lib.hid hl; clear hl
    go_enter Tryz.func99, Tryz.ntmps99
    go_wp2_with fail
    refine (checkSize_bad _ _ (by have := Hb.out; omega)).mono ?_
    rintro e w' ⟨rfl, rfl⟩
    go_wp2
    go_ret2
    exact ⟨by rw [HZ.out.1, HZ.out.2]; rfl, rfl⟩
  · obtain ⟨g, o, rfl, hg, hcell⟩ := hr (by omega)
    have hz : getZ l = getV l ∧ getE l = 0 := ⟨if_neg hb, if_neg hb⟩
    have HZ := Lib.hid hz; clear hz
    have h1 : 1 ≤ l.length := by omega
    have h8 : l.length ≤ 8 := by omega
    clear hb hl
    have Hcell := Lib.hid hcell; clear hcell
    go_enter Tryz.func99, Tryz.ntmps99
    go_wp2_with fail
    refine (checkSize_ok _ _ (by omega) (by omega)).mono ?_
    rintro e w' ⟨rfl, rfl⟩
    go_wp2
    go_loop [5, 16] (fun x i => ∃ k : Nat, k ≤ l.length ∧ i = .int .i64 k ∧ x = .int .u64 (getV (l.take k) : Int)) (fun _ i => l.length - (intOf i).toNat)
    case atStart => exact ⟨0, Nat.zero_le _, rfl, by simp [getV]⟩
    case round =>
      obtain ⟨k, hk, rfl, rfl⟩ := hrel
      by_cases hlt : k < l.length
      · have hck := Hcell.out k hlt
        have hb := l[k].toNat_lt
        go_wp2
        go_round
        case rel => exact ⟨k + 1, by omega, by go_num, by rw [get_step l k hlt h8]⟩
        case measure => simp [intOf]; omega
      · have He := Lib.hid (show k = l.length by omega)
        go_wp2
        go_ret2
        exact ⟨by rw [HZ.out.1, HZ.out.2, He.out, List.take_length]; rfl, rfl⟩
/-- The reader at block g holds the bytes l, at a position. -/
structure Rd (w : World) (g : Nat) (vd : Value) (l : List UInt8) (at_ : Nat) : Prop where
  blk : ∃ t, w.heap[g]? = some (.cells #[vd, .int .i64 (at_ : Int)] t (0, 0))
  byt : Byt w vd l
  le : at_ ≤ l.length
  small : l.length ≤ 1099511627776
  ne : ∀ b, vd.ownBlock = some b → b ≠ g
  lo : ∀ b, vd.ownBlock = some b → b < w.heap.size
theorem Rd.lt {w : World} {g : Nat} {vd : Value} {l : List UInt8} {a : Nat} (h : Rd w g vd l a) : g < w.heap.size := by obtain ⟨t, hb⟩ := h.blk; exact (Array.getElem?_eq_some_iff.1 hb).1
theorem Rd.cell0 {w : World} {g : Nat} {vd : Value} {l : List UInt8} {a : Nat} (h : Rd w g vd l a) : w.cell? ⟨g, 0, none⟩ = some vd := by obtain ⟨t, hb⟩ := h.blk; rw [cell_of_row w g 0 _ t (0, 0) hb]; rfl
theorem Rd.cell1 {w : World} {g : Nat} {vd : Value} {l : List UInt8} {a : Nat} (h : Rd w g vd l a) : w.cell? ⟨g, 1, none⟩ = some (.int .i64 (a : Int)) := by obtain ⟨t, hb⟩ := h.blk; rw [cell_of_row w g 1 _ t (0, 0) hb]; rfl
theorem Rd.free {w : World} {g : Nat} {vd : Value} {l : List UInt8} {a : Nat} (h : Rd w g vd l a) (j : Nat) : w.frozen? ⟨g, j, none⟩ = false := by obtain ⟨t, hb⟩ := h.blk; exact frozen_of_row w g j _ t hb
theorem Rd.below {w w' : World} {g : Nat} {vd : Value} {l : List UInt8} {a : Nat} (h : Rd w g vd l a) (hb : Below w.heap.size w w') : Rd w' g vd l a :=
  ⟨h.blk.imp fun _ h' => (hb.block g h.lt).trans h', h.byt.below hb, h.le, h.small, h.ne, fun b hb' => Nat.lt_of_lt_of_le (h.lo b hb') hb.size⟩
theorem orEmpty_some (g : Nat) (w : World) : Calls Tryz.prog 44 #[.pointer (some ⟨g, 0, none⟩)] w fun e w' => e = .returned (.pointer (some ⟨g, 0, none⟩)) ∧ w = w' := by
  go_enter Tryz.func44, Tryz.ntmps44
  go_wp2
  go_ret
  exact ⟨rfl, rfl⟩
theorem left_any (g : Nat) (vd : Value) (l : List UInt8) (a : Nat) (w : World) (h : Rd w g vd l a) : Calls Tryz.prog 46 #[.pointer (some ⟨g, 0, none⟩)] w fun e w' => e = .returned (.int .i64 ((l.length : Int) - a)) ∧ ∃ n, w' = w.drewN n := by
  have h0 := h.cell0
  have h1 := h.cell1
  have hs := h.small
  have hl := h.le
  obtain ⟨A, c, rfl, -, -⟩ := h.byt
  clear h
  go_enter Tryz.func46, Tryz.ntmps46
  go_wp2
  go_quiet (fail)
  go_wp2
  go_ret
  exact ⟨rfl, _, rfl⟩
theorem byt_set {w : World} {v : Value} {l : List UInt8} {g : Nat} (h : Byt w v l) (hne : ∀ b, v.ownBlock = some b → b ≠ g) (q j : Nat) (u : Value) : Byt ((w.drewN q).setCell ⟨g, j, none⟩ u) v l := by
  obtain ⟨A, c, rfl, hc, hr⟩ := h
  refine ⟨A, c, rfl, hc, fun hn => ?_⟩
  obtain ⟨b, o, rfl, hb, hcell⟩ := hr hn
  refine ⟨b, o, rfl, by simpa [World.setCell] using hb, fun i hi => ?_⟩
  rw [World.cell?_setCell_other _ ⟨g, j, none⟩ _ _ (fun e => by
    have : b = g := (congrArg Addr.block e).symm
    exact hne b rfl this)]
  exact hcell i hi
theorem rd_step {w : World} {g : Nat} {vd : Value} {l : List UInt8} {a b : Nat} (h : Rd w g vd l a) (hb : b ≤ l.length) (q : Nat) :
    Rd ((w.drewN q).setCell ⟨g, 1, none⟩ (.int .i64 (b : Int))) g vd l b ∧ Chg (· = g) w ((w.drewN q).setCell ⟨g, 1, none⟩ (.int .i64 (b : Int))) := by
  refine ⟨⟨?_, byt_set h.byt h.ne q 1 _, hb, h.small, h.ne, fun b hb' => by simpa [World.setCell] using h.lo b hb'⟩, ?_⟩
  · obtain ⟨t, hb⟩ := h.blk; exact ⟨t, by simp [World.setCell, Array.getElem?_modify, hb]⟩
  · exact Chg.setCell (S := (· = g)) (a := w) (w := w.drewN q) ⟨rfl, rfl, rfl, Nat.le_refl _, fun _ _ _ => rfl⟩ (p := ⟨g, 1, none⟩) rfl _
theorem sub_byt {w : World} {l : List UInt8} {A : Option Addr} {c a n : Nat} (h : Byt w (.slice A l.length c) l) (hn : a + n ≤ l.length) (hca : ¬ c = a) :
    Byt w (.slice (A.map (·.add a)) n (c - a)) ((l.drop a).take n) := by
  obtain ⟨A', c', he, hc, hr⟩ := h
  cases he
  have hl : ((l.drop a).take n).length = n := by rw [List.length_take, List.length_drop]; omega
  refine ⟨_, c - a, by rw [hl], by omega, fun h0 => ?_⟩
  obtain ⟨g, o, rfl, hg, hcell⟩ := hr (by omega)
  refine ⟨g, o + a, by rw [Option.map_some, add_plain], hg, fun j hj => ?_⟩
  rw [hl] at hj
  rw [show o + a + j = o + (a + j) by omega, hcell (a + j) (by omega)]
  simp
def AdvPost (w : World) (g : Nat) (vd : Value) (l : List UInt8) (a n : Nat) (e : Ending) (w' : World) : Prop :=
  (∃ v, e = .returned (.tuple #[v, .int .i64 0]) ∧ Byt w' v ((l.drop a).take n)) ∧ Rd w' g vd l (a + n) ∧ Chg (· = g) w w'
theorem adv_fin1 {w : World} {g a n c : Nat} {A : Option Addr} {l : List UInt8} (h : Rd w g (.slice A l.length c) l a) (hn : a + n ≤ l.length) (hca : ¬ c = a) (q : Nat) :
    AdvPost w g (.slice A l.length c) l a n (.returned (.tuple #[.slice (A.map (·.add a)) (a + n - a) (c - a), .int .i64 0])) ((w.drewN q).setCell ⟨g, 1, none⟩ (.int .i64 ((a : Int) + (n : Int)))) := by
  rw [show ((a : Int) + (n : Int)) = ((a + n : Nat) : Int) by omega, show a + n - a = n by omega]
  refine ⟨⟨_, rfl, byt_set (sub_byt h.byt hn hca) (fun b hb => ?_) _ _ _⟩, rd_step h hn q⟩
  rcases A with _ | ad
  · simp [Value.ownBlock] at hb
  · refine h.ne b ?_
    simp only [Option.map_some, Value.ownBlock] at hb ⊢
    rw [← hb]
    unfold Addr.add
    split <;> rfl
theorem adv_fin0 {w : World} {g a c : Nat} {A : Option Addr} {l : List UInt8} (h : Rd w g (.slice A l.length c) l a) (q : Nat) :
    AdvPost w g (.slice A l.length c) l a 0 (.returned (.tuple #[.slice A 0 0, .int .i64 0])) ((w.drewN q).setCell ⟨g, 1, none⟩ (.int .i64 (a : Int))) := by
  refine ⟨⟨_, rfl, ?_⟩, rd_step h h.le q⟩
  exact ⟨A, 0, by simp, by simp, fun h => absurd h (by simp)⟩
set_option maxRecDepth 100000 in
theorem advance_ok (g : Nat) (vd : Value) (l : List UInt8) (a n : Nat) (w : World) (h : Rd w g vd l a) (hn : a + n ≤ l.length) :
    Calls Tryz.prog 45 #[.pointer (some ⟨g, 0, none⟩), .int .i64 (n : Int)] w (AdvPost w g vd l a n) := by
  have h0 := h.cell0
  have h1 := h.cell1
  have hf := h.free 1
  have hs := h.small
  have hl := h.le
  obtain ⟨A, c, rfl, hc, hr⟩ := h.byt
  have Hh := Lib.hid h; clear h hr
  by_cases hca : c = a
  · have hn0 : n = 0 := by omega
    subst hn0
    go_enter Tryz.func45, Tryz.ntmps45
    go_wp2_with fail
    refine (left_any g _ l a _ Hh.out).mono ?_
    rintro e w' ⟨rfl, nq, rfl⟩
    go_wp2
    go_quiet (fail)
    go_wp2
    go_ret2
    exact adv_fin0 Hh.out _
  · go_enter Tryz.func45, Tryz.ntmps45
    go_wp2_with fail
    refine (left_any g _ l a _ Hh.out).mono ?_
    rintro e w' ⟨rfl, nq, rfl⟩
    go_wp2
    go_quiet (fail)
    go_wp2
    go_ret2
    exact adv_fin1 Hh.out hn hca _
theorem advance_neg (g : Nat) (n : Int) (w : World) (hn : n < 0) :
    Calls Tryz.prog 45 #[.pointer (some ⟨g, 0, none⟩), .int .i64 n] w fun e w' => e = .returned (.tuple #[.slice none 0 0, .int .i64 2]) ∧ w = w' := by
  go_enter Tryz.func45, Tryz.ntmps45
  go_wp2
  go_ret2
  exact ⟨rfl, rfl⟩
theorem advance_short (g : Nat) (vd : Value) (l : List UInt8) (a : Nat) (n : Int) (w : World) (h : Rd w g vd l a) (h0 : 0 ≤ n) (hn : (l.length : Int) < a + n) :
    Calls Tryz.prog 45 #[.pointer (some ⟨g, 0, none⟩), .int .i64 n] w fun e w' => e = .returned (.tuple #[.slice none 0 0, .int .i64 4]) ∧ ∃ q, w' = w.drewN q := by
  have Hh := Lib.hid h; clear h
  go_enter Tryz.func45, Tryz.ntmps45
  go_wp2_with fail
  refine (left_any g _ l a _ Hh.out).mono ?_
  rintro e w' ⟨rfl, nq, rfl⟩
  go_wp2
  go_ret2
  exact ⟨rfl, _, rfl⟩
theorem NewReader_any (v : Value) (l : List UInt8) (w : World) (h : Byt w v l) (hl : l.length ≤ 1099511627776) :
    Calls Tryz.prog 17 #[v] w fun e w' => (∃ g vd, e = .returned (.pointer (some ⟨g, 0, none⟩)) ∧ w.heap.size ≤ g ∧ (∀ b, vd.ownBlock = some b → w.heap.size ≤ b) ∧ Rd w' g vd l 0) ∧ Below w.heap.size w w' := by
  have H := Lib.hid h; clear h
  have Hl := Lib.hid hl; clear hl
  go_enter Tryz.func17, Tryz.ntmps17
  go_wp2_with fail
  refine (Clone_any v l _ H.out Hl.out).mono ?_
  rintro e w1 ⟨⟨v', rfl, h1⟩, h2⟩
  obtain ⟨A, c, hv, hc, hr⟩ := Byt.of_own h1
  subst hv
  have H1 := Lib.hid h1; have H2 := Lib.hid h2; clear h1 h2 hr
  go_wp2
  go_ret
  refine ⟨⟨w1.heap.size, _, rfl, H2.out.size, fun b hb => (H1.out.lt b hb).1, ⟨⟨87, heap_alloc_new w1 _⟩, (Byt.of_own H1.out).below ((Below.refl _ _).alloc (Nat.le_refl _) _), Nat.zero_le _, Hl.out, fun b hb => ?_, fun b hb => ?_⟩⟩, H2.out.alloc H2.out.size _⟩
  · have := (H1.out.lt b hb).2
    omega
  · have := (H1.out.lt b hb).2
    simp; omega
/-- What the reader's methods leave. -/
def RPost (w : World) (g : Nat) (vd : Value) (l : List UInt8) (a : Nat) (r : Value) (e : Ending) (w' : World) : Prop :=
  e = .returned r ∧ Rd w' g vd l a ∧ Chg (· = g) w w'
theorem Rd.drewN {w : World} {g : Nat} {vd : Value} {l : List UInt8} {a : Nat} (h : Rd w g vd l a) (q : Nat) : Rd (w.drewN q) g vd l a := ⟨h.blk, h.byt, h.le, h.small, h.ne, h.lo⟩
theorem chg_drewN (S : Nat → Prop) (w : World) (q : Nat) : Chg S w (w.drewN q) := ⟨rfl, rfl, rfl, Nat.le_refl _, fun _ _ _ => rfl⟩
set_option maxRecDepth 100000 in
theorem field_ok (g : Nat) (vd : Value) (l : List UInt8) (a n : Nat) (w : World) (h : Rd w g vd l a) (h1 : 1 ≤ n) (h8 : n ≤ 8) (hn : a + n ≤ l.length) :
    Calls Tryz.prog 66 #[.pointer (some ⟨g, 0, none⟩), .int .i64 (n : Int)] w (RPost w g vd l (a + n) (.tuple #[.int .u64 (getV ((l.drop a).take n)), .int .i64 0])) := by
  have H := Lib.hid h; clear h
  have Hn := Lib.hid hn; clear hn
  go_enter Tryz.func66, Tryz.ntmps66
  go_wp2_with fail
  refine (checkSize_ok _ _ (by omega) (by omega)).mono ?_
  rintro e w' ⟨rfl, rfl⟩
  go_wp2_with fail
  refine (advance_ok g vd l a n _ H.out Hn.out).mono ?_
  rintro e w1 ⟨⟨v, rfl, hb⟩, hrd, hch⟩
  have Hb := Lib.hid hb; have Hrd := Lib.hid hrd; have Hch := Lib.hid hch
  clear hb hrd hch
  go_wp2_with fail
  have hlen : ((l.drop a).take n).length = n := by have := Hn.out; rw [List.length_take, List.length_drop]; omega
  refine (Get_any v _ _ Hb.out (by rw [hlen]; omega)).mono ?_
  rintro e w2 ⟨rfl, rfl⟩
  have hgv : getZ ((l.drop a).take n) = getV ((l.drop a).take n) ∧ getE ((l.drop a).take n) = 0 := by
    have hb : ¬ (((l.drop a).take n).length < 1 ∨ 8 < ((l.drop a).take n).length) := by rw [hlen]; omega
    exact ⟨if_neg hb, if_neg hb⟩
  rw [hgv.1, hgv.2]
  clear hgv hlen
  go_wp2
  go_ret2
  exact ⟨rfl, Hrd.out, Hch.out⟩
theorem field_size (g : Nat) (n : Int) (w : World) (h : n < 1 ∨ 8 < n) : Calls Tryz.prog 66 #[.pointer (some ⟨g, 0, none⟩), .int .i64 n] w fun e w' => e = .returned (.tuple #[.int .u64 0, .int .i64 2]) ∧ w = w' := by
  have H := Lib.hid h; clear h
  go_enter Tryz.func66, Tryz.ntmps66
  go_wp2_with fail
  refine (checkSize_bad _ _ H.out).mono ?_
  rintro e w' ⟨rfl, rfl⟩
  go_wp2
  go_ret2
  exact ⟨rfl, rfl⟩
theorem field_short (g : Nat) (vd : Value) (l : List UInt8) (a n : Nat) (w : World) (h : Rd w g vd l a) (h1 : 1 ≤ n) (h8 : n ≤ 8) (hn : l.length < a + n) :
    Calls Tryz.prog 66 #[.pointer (some ⟨g, 0, none⟩), .int .i64 (n : Int)] w (RPost w g vd l a (.tuple #[.int .u64 0, .int .i64 4])) := by
  have H := Lib.hid h; clear h
  have Hn := Lib.hid hn; clear hn
  go_enter Tryz.func66, Tryz.ntmps66
  go_wp2_with fail
  refine (checkSize_ok _ _ (by omega) (by omega)).mono ?_
  rintro e w' ⟨rfl, rfl⟩
  go_wp2_with fail
  refine (advance_short g vd l a n _ H.out (by omega) (by have := Hn.out; omega)).mono ?_
  rintro e w1 ⟨rfl, q, rfl⟩
  go_wp2
  go_ret2
  exact ⟨rfl, H.out.drewN q, chg_drewN _ _ _⟩
/-- A copy of the cursor in a new block. -/
theorem Rd.ahead {w : World} {g : Nat} {vd : Value} {l : List UInt8} {a : Nat} (h : Rd w g vd l a) (t : TypeId) : Rd (w.alloc (.cells #[vd, .int .i64 (a : Int)] t)) w.heap.size vd l a :=
  ⟨⟨t, heap_alloc_new w _⟩, h.byt.below ((Below.refl _ _).alloc (Nat.le_refl _) _), h.le, h.small, fun b hb => by have := h.lo b hb; omega, fun b hb => by have := h.lo b hb; simp; omega⟩
/-- The reader's own block behind what was done to the copy. -/
theorem Rd.behind {w w1 : World} {g : Nat} {vd : Value} {l : List UInt8} {a : Nat} {o : Obj} (h : Rd w g vd l a) (hc : Chg (· = w.heap.size) (w.alloc o) w1) : Below w.heap.size w w1 :=
  ((Below.refl _ _).alloc (Nat.le_refl _) o).trans (hc.below (by simp) (fun i hi => by omega))
theorem rd_set {w w1 : World} {g : Nat} {vd : Value} {l : List UInt8} {a b : Nat} (h : Rd w g vd l a) (hb : Below w.heap.size w w1) (hl : b ≤ l.length) :
    Rd ((w1.setCell ⟨g, 0, none⟩ vd).setCell ⟨g, 1, none⟩ (.int .i64 (b : Int))) g vd l b ∧ Chg (· = g) w ((w1.setCell ⟨g, 0, none⟩ vd).setCell ⟨g, 1, none⟩ (.int .i64 (b : Int))) := by
  have h1 := h.below hb
  refine ⟨⟨?_, ?_, hl, h.small, h.ne, ?_⟩, ?_⟩
  · obtain ⟨t, hb'⟩ := h1.blk; exact ⟨t, by simp [World.setCell, Array.getElem?_modify, hb']⟩
  · exact byt_set (byt_set h1.byt h.ne 0 0 vd) h.ne 0 1 _
  · intro b hb'; simpa [World.setCell] using h1.lo b hb'
  · exact ((Chg.of_below hb : Chg (· = g) w w1).setCell (p := ⟨g, 0, none⟩) rfl vd).setCell (p := ⟨g, 1, none⟩) rfl _
theorem zero_byt {w : World} {v : Value} {n : Nat} (h : Byt w v (List.replicate n 0)) : ∃ B d, v = .slice B n d ∧ (0 < n → ∃ b o, B = some ⟨b, o, none⟩ ∧ ∀ j, j < n → w.cell? ⟨b, o + j, none⟩ = some (.int .u8 0)) := by
  obtain ⟨B, d, rfl, hd, hr⟩ := h
  refine ⟨B, d, by rw [List.length_replicate], fun hn => ?_⟩
  obtain ⟨b, o, e, hb, hc⟩ := hr (by simpa using hn)
  exact ⟨b, o, e, fun j hj => by have := hc j (by simpa using hj); simpa using this⟩
set_option maxRecDepth 100000 in
theorem Zeros_ok (g : Nat) (vd : Value) (l : List UInt8) (a n : Nat) (w : World) (h : Rd w g vd l a) (hn : a + n ≤ l.length) (hz : (l.drop a).take n = List.replicate n 0) :
    Calls Tryz.prog 21 #[.pointer (some ⟨g, 0, none⟩), .int .i64 (n : Int)] w (RPost w g vd l (a + n) (.int .i64 0)) := by
  have h0 := h.cell0
  have h1 := h.cell1
  have hs := h.small
  obtain ⟨A, c, hvd, -, -⟩ := h.byt
  subst hvd
  have H := Lib.hid h; clear h
  have Hn := Lib.hid hn; clear hn
  have Hz := Lib.hid hz; clear hz
  go_enter Tryz.func21, Tryz.ntmps21
  go_wp2_with fail
  refine (orEmpty_some g _).mono ?_
  rintro e w' ⟨rfl, rfl⟩
  go_wp2_with fail
  refine (advance_ok w.heap.size _ l a n _ (H.out.ahead 85) Hn.out).mono ?_
  rintro e w1 ⟨⟨v, rfl, hb⟩, hrd, hch⟩
  rw [Hz.out] at hb
  obtain ⟨B, d, hv, hr⟩ := zero_byt hb
  subst hv
  have HB1 := Lib.hid (H.out.behind hch)
  have hq0 := hrd.cell0
  have hq1 := hrd.cell1
  have hg := H.out.lt
  have hk0 : w1.cell? ⟨g, 0, none⟩ = some (.slice A l.length c) := (HB1.out.cell (by exact hg)).trans h0
  have hk1 : w1.cell? ⟨g, 1, none⟩ = some (.int .i64 (a : Int)) := (HB1.out.cell (by exact hg)).trans h1
  have hf0 : w1.frozen? ⟨g, 0, none⟩ = false := (HB1.out.frozen (by exact hg)).trans (H.out.free 0)
  have hf1 : w1.frozen? ⟨g, 1, none⟩ = false := (HB1.out.frozen (by exact hg)).trans (H.out.free 1)
  have hn1 : n ≤ 1099511627776 := by have := Hn.out; omega
  have Hr := Lib.hid hr
  clear hr hrd hch h0 h1
  go_wp2
  go_loop [26] (fun i => ∃ k : Nat, k ≤ n ∧ i = .int .i64 k) (fun i => n - (intOf i).toNat)
  case atStart => exact ⟨0, Nat.zero_le _, rfl⟩
  case round =>
    obtain ⟨k, hk, rfl⟩ := hrel
    by_cases hlt : k < n
    · obtain ⟨b, o, rfl, hcell⟩ := Hr.out (by omega)
      have hck : w1.cell? ⟨b, o + k, none⟩ = some (.int .u8 0) := hcell k hlt
      clear hcell
      go_wp2
      go_round
      case rel => exact ⟨k + 1, by omega, by go_num⟩
      case measure => simp [intOf]; omega
    · go_wp2
      go_ret
      have hfin := rd_set H.out HB1.out Hn.out
      exact ⟨rfl, hfin⟩
end Go.Proofs.YtajlddgemkkcdaaGreat
