/- The contracts of the Writer's method Add and of the Reader's cursor. Condition: the pointer leads to a writer or reader. -/
import Derived.Test.YtmolpnhgmdpdmaaDoorTk
namespace Go.Proofs.YtmolpnhgmdpdmaaDoor
open Go.RowKit
set_option linter.unusedVariables false
set_option maxHeartbeats 400000

theorem WPost.alloc {w w' : World} {g : Nat} {v : Value} {l : List UInt8} {k : Int} {e : Ending} (o : Obj) (hv : ∀ b, v.ownBlock = some b → b < w.heap.size) (h : WPost (w.alloc o) g v l k e w') : WPost w g v l k e w' := by
  obtain ⟨he, v', hw, hc, ha⟩ := h
  refine ⟨he, v', hw, ?_, ?_⟩
  · exact (Chg.of_below ((Below.refl _ _).alloc (Nat.le_refl _) o) : Chg _ w (w.alloc o)).trans hc (fun i hi _ => hi)
  · rcases ha with e | ⟨b, e, hb⟩
    · exact .inl e
    · exact .inr ⟨b, e, by simp at hb; omega⟩
theorem own_lt {w : World} {g : Nat} {v : Value} {l : List UInt8} (h : Wr w g v l) : ∀ b, v.ownBlock = some b → b < w.heap.size := fun b hb => (h.own.lt b hb).2
set_option maxRecDepth 100000 in
theorem Add_ok (g : Nat) (v : Value) (V n : Int) (l : List UInt8) (w : World) (h : Wr w g v l) (hV : 0 ≤ V) (hk : chk (1048576 - l.length) [(V, n)] = 0) :
    Calls Tryd.prog 40 #[.pointer (some ⟨g, 0, none⟩), .int .u64 V, .int .i64 n] w (WPost w g v (l ++ putB V.toNat n.toNat) 0) := by
  have hb := own_lt h
  have hg := h.lt
  have hW1 : Wr (w.alloc (.cells #[.int .u64 V, .int .i64 n] 74)) g v l := h.below ((Below.refl _ _).alloc (Nat.le_refl _) _)
  have hF : Fl (w.alloc (.cells #[.int .u64 V, .int .i64 n] 74)) (.slice (some ⟨w.heap.size, 0, none⟩) 1 1) [(V, n)] := by
    refine ⟨_, 1, rfl, Nat.le_refl _, fun _ => ⟨w.heap.size, 0, rfl, by simp, fun j hj => ?_⟩⟩
    simp at hj
    subst hj
    exact ⟨by simp, by simp⟩
  have hcall := AddAll_ok g v _ l [(V, n)] _ hW1 hF (by simpa using hV) (fun b hb' => by
    simp [Value.ownBlock] at hb'
    subst hb'
    exact ⟨by omega, fun e => by have := hb _ e; omega⟩) (by simp) hk
  have Hcall := Lib.hid hcall
  have Hb := Lib.hid hb
  clear hcall hb hF hW1 h hk
  go_enter Tryd.func40, Tryd.ntmps40
  go_wp2_with fail
  refine Hcall.out.mono ?_
  rintro e w' hw
  have hw' := hw.alloc _ Hb.out
  obtain ⟨rfl, hrest⟩ := hw'
  have Hrest := Lib.hid hrest; clear hrest hw
  go_wp2
  go_ret
  exact ⟨rfl, by simpa [flat] using Hrest.out⟩

/-- The reader at block g holds the bytes l, at a position. -/
structure Rd (w : World) (g : Nat) (vd : Value) (l : List UInt8) (at_ : Nat) : Prop where
  blk : ∃ t, w.heap[g]? = some (.cells #[vd, .int .i64 (at_ : Int)] t (0, 0))
  byt : Byt w vd l
  le : at_ ≤ l.length
  small : l.length ≤ 1099511627776
  ne : ∀ b, vd.ownBlock = some b → b ≠ g
  lo : ∀ b, vd.ownBlock = some b → b < w.heap.size
theorem Rd.lt {w : World} {g : Nat} {vd : Value} {l : List UInt8} {a : Nat} (h : Rd w g vd l a) : g < w.heap.size := by obtain ⟨t, hb⟩ := h.blk; exact (Array.getElem?_eq_some_iff.1 hb).1
theorem Rd.cell0 {w : World} {g : Nat} {vd : Value} {l : List UInt8} {a : Nat} (h : Rd w g vd l a) : w.cell? ⟨g, 0, none⟩ = some vd := by obtain ⟨t, hb⟩ := h.blk; rw [cell_of_row w g 0 _ t (0, 0) hb]; rfl
theorem Rd.cell1 {w : World} {g : Nat} {vd : Value} {l : List UInt8} {a : Nat} (h : Rd w g vd l a) : w.cell? ⟨g, 1, none⟩ = some (.int .i64 (a : Int)) := by obtain ⟨t, hb⟩ := h.blk; rw [cell_of_row w g 1 _ t (0, 0) hb]; rfl
theorem Rd.free {w : World} {g : Nat} {vd : Value} {l : List UInt8} {a : Nat} (h : Rd w g vd l a) (j : Nat) : w.frozen? ⟨g, j, none⟩ = false := by obtain ⟨t, hb⟩ := h.blk; exact frozen_of_row w g j _ t hb
theorem Rd.below {w w' : World} {g : Nat} {vd : Value} {l : List UInt8} {a : Nat} (h : Rd w g vd l a) (hb : Below w.heap.size w w') : Rd w' g vd l a :=
  ⟨h.blk.imp fun _ h' => (hb.block g h.lt).trans h', h.byt.below hb, h.le, h.small, h.ne, fun b hb' => Nat.lt_of_lt_of_le (h.lo b hb') hb.size⟩
theorem orEmpty_some (g : Nat) (w : World) : Calls Tryd.prog 59 #[.pointer (some ⟨g, 0, none⟩)] w fun e w' => e = .returned (.pointer (some ⟨g, 0, none⟩)) ∧ w = w' := by
  go_enter Tryd.func59, Tryd.ntmps59
  go_wp2
  go_ret
  exact ⟨rfl, rfl⟩
theorem left_any (g : Nat) (vd : Value) (l : List UInt8) (a : Nat) (w : World) (h : Rd w g vd l a) : Calls Tryd.prog 60 #[.pointer (some ⟨g, 0, none⟩)] w fun e w' => e = .returned (.int .i64 ((l.length : Int) - a)) ∧ ∃ n, w' = w.drewN n := by
  have h0 := h.cell0
  have h1 := h.cell1
  have hs := h.small
  have hl := h.le
  obtain ⟨A, c, rfl, -, -⟩ := h.byt
  clear h
  go_enter Tryd.func60, Tryd.ntmps60
  go_wp2
  go_quiet (fail)
  go_wp2
  go_ret
  exact ⟨rfl, _, rfl⟩
theorem byt_set {w : World} {v : Value} {l : List UInt8} {g : Nat} (h : Byt w v l) (hne : ∀ b, v.ownBlock = some b → b ≠ g) (q j : Nat) (u : Value) : Byt ((w.drewN q).setCell ⟨g, j, none⟩ u) v l := by
  obtain ⟨A, c, rfl, hc, hr⟩ := h
  refine ⟨A, c, rfl, hc, fun hn => ?_⟩
  obtain ⟨b, o, rfl, hb, hcell⟩ := hr hn
  refine ⟨b, o, rfl, by simpa [World.setCell] using hb, fun i hi => ?_⟩
  rw [World.cell?_setCell_other _ ⟨g, j, none⟩ _ _ (fun e => by
    have : b = g := (congrArg Addr.block e).symm
    exact hne b rfl this)]
  exact hcell i hi
theorem rd_step {w : World} {g : Nat} {vd : Value} {l : List UInt8} {a b : Nat} (h : Rd w g vd l a) (hb : b ≤ l.length) (q : Nat) :
    Rd ((w.drewN q).setCell ⟨g, 1, none⟩ (.int .i64 (b : Int))) g vd l b ∧ Chg (· = g) w ((w.drewN q).setCell ⟨g, 1, none⟩ (.int .i64 (b : Int))) := by
  refine ⟨⟨?_, byt_set h.byt h.ne q 1 _, hb, h.small, h.ne, fun b hb' => by simpa [World.setCell] using h.lo b hb'⟩, ?_⟩
  · obtain ⟨t, hb⟩ := h.blk; exact ⟨t, by simp [World.setCell, Array.getElem?_modify, hb]⟩
  · exact Chg.setCell (S := (· = g)) (a := w) (w := w.drewN q) ⟨rfl, rfl, rfl, Nat.le_refl _, fun _ _ _ => rfl⟩ (p := ⟨g, 1, none⟩) rfl _
theorem sub_byt {w : World} {l : List UInt8} {A : Option Addr} {c a n : Nat} (h : Byt w (.slice A l.length c) l) (hn : a + n ≤ l.length) (hca : ¬ c = a) :
    Byt w (.slice (A.map (·.add a)) n (c - a)) ((l.drop a).take n) := by
  obtain ⟨A', c', he, hc, hr⟩ := h
  cases he
  have hl : ((l.drop a).take n).length = n := by rw [List.length_take, List.length_drop]; omega
  refine ⟨_, c - a, by rw [hl], by omega, fun h0 => ?_⟩
  obtain ⟨g, o, rfl, hg, hcell⟩ := hr (by omega)
  refine ⟨g, o + a, by rw [Option.map_some, add_plain], hg, fun j hj => ?_⟩
  rw [hl] at hj
  rw [show o + a + j = o + (a + j) by omega, hcell (a + j) (by omega)]
  simp
def AdvPost (w : World) (g : Nat) (vd : Value) (l : List UInt8) (a n : Nat) (e : Ending) (w' : World) : Prop :=
  (∃ v, e = .returned (.tuple #[v, .int .i64 0]) ∧ Byt w' v ((l.drop a).take n)) ∧ Rd w' g vd l (a + n) ∧ Chg (· = g) w w'
theorem adv_fin1 {w : World} {g a n c : Nat} {A : Option Addr} {l : List UInt8} (h : Rd w g (.slice A l.length c) l a) (hn : a + n ≤ l.length) (hca : ¬ c = a) (q : Nat) :
    AdvPost w g (.slice A l.length c) l a n (.returned (.tuple #[.slice (A.map (·.add a)) (a + n - a) (c - a), .int .i64 0])) ((w.drewN q).setCell ⟨g, 1, none⟩ (.int .i64 ((a : Int) + (n : Int)))) := by
  rw [show ((a : Int) + (n : Int)) = ((a + n : Nat) : Int) by omega, show a + n - a = n by omega]
  refine ⟨⟨_, rfl, byt_set (sub_byt h.byt hn hca) (fun b hb => ?_) _ _ _⟩, rd_step h hn q⟩
  rcases A with _ | ad
  · simp [Value.ownBlock] at hb
  · refine h.ne b ?_
    simp only [Option.map_some, Value.ownBlock] at hb ⊢
    rw [← hb]
    unfold Addr.add
    split <;> rfl
theorem adv_fin0 {w : World} {g a c : Nat} {A : Option Addr} {l : List UInt8} (h : Rd w g (.slice A l.length c) l a) (q : Nat) :
    AdvPost w g (.slice A l.length c) l a 0 (.returned (.tuple #[.slice A 0 0, .int .i64 0])) ((w.drewN q).setCell ⟨g, 1, none⟩ (.int .i64 (a : Int))) := by
  refine ⟨⟨_, rfl, ?_⟩, rd_step h h.le q⟩
  exact ⟨A, 0, by simp, by simp, fun h => absurd h (by simp)⟩
set_option maxRecDepth 100000 in
theorem advance_ok (g : Nat) (vd : Value) (l : List UInt8) (a n : Nat) (w : World) (h : Rd w g vd l a) (hn : a + n ≤ l.length) :
    Calls Tryd.prog 65 #[.pointer (some ⟨g, 0, none⟩), .int .i64 (n : Int)] w (AdvPost w g vd l a n) := by
  have h0 := h.cell0
  have h1 := h.cell1
  have hf := h.free 1
  have hs := h.small
  have hl := h.le
  obtain ⟨A, c, rfl, hc, hr⟩ := h.byt
  have Hh := Lib.hid h; clear h hr
  by_cases hca : c = a
  · have hn0 : n = 0 := by omega
    subst hn0
    go_enter Tryd.func65, Tryd.ntmps65
    go_wp2_with fail
    refine (left_any g _ l a _ Hh.out).mono ?_
    rintro e w' ⟨rfl, nq, rfl⟩
    go_wp2
    go_quiet (fail)
    go_wp2
    go_ret2
    exact adv_fin0 Hh.out _
  · go_enter Tryd.func65, Tryd.ntmps65
    go_wp2_with fail
    refine (left_any g _ l a _ Hh.out).mono ?_
    rintro e w' ⟨rfl, nq, rfl⟩
    go_wp2
    go_quiet (fail)
    go_wp2
    go_ret2
    exact adv_fin1 Hh.out hn hca _
theorem advance_neg (g : Nat) (n : Int) (w : World) (hn : n < 0) :
    Calls Tryd.prog 65 #[.pointer (some ⟨g, 0, none⟩), .int .i64 n] w fun e w' => e = .returned (.tuple #[.slice none 0 0, .int .i64 2]) ∧ w = w' := by
  go_enter Tryd.func65, Tryd.ntmps65
  go_wp2
  go_ret2
  exact ⟨rfl, rfl⟩
theorem advance_short (g : Nat) (vd : Value) (l : List UInt8) (a : Nat) (n : Int) (w : World) (h : Rd w g vd l a) (h0 : 0 ≤ n) (hn : (l.length : Int) < a + n) :
    Calls Tryd.prog 65 #[.pointer (some ⟨g, 0, none⟩), .int .i64 n] w fun e w' => e = .returned (.tuple #[.slice none 0 0, .int .i64 4]) ∧ ∃ q, w' = w.drewN q := by
  have Hh := Lib.hid h; clear h
  go_enter Tryd.func65, Tryd.ntmps65
  go_wp2_with fail
  refine (left_any g _ l a _ Hh.out).mono ?_
  rintro e w' ⟨rfl, nq, rfl⟩
  go_wp2
  go_ret2
  exact ⟨rfl, _, rfl⟩

theorem NewReader_any (v : Value) (l : List UInt8) (w : World) (h : Byt w v l) (hl : l.length ≤ 1099511627776) :
    Calls Tryd.prog 30 #[v] w fun e w' => (∃ g vd, e = .returned (.pointer (some ⟨g, 0, none⟩)) ∧ w.heap.size ≤ g ∧ (∀ b, vd.ownBlock = some b → w.heap.size ≤ b) ∧ Rd w' g vd l 0) ∧ Below w.heap.size w w' := by
  have H := Lib.hid h; clear h
  have Hl := Lib.hid hl; clear hl
  go_enter Tryd.func30, Tryd.ntmps30
  go_wp2_with fail
  refine (Clone_any v l _ H.out Hl.out).mono ?_
  rintro e w1 ⟨⟨v', rfl, h1⟩, h2⟩
  obtain ⟨A, c, hv, hc, hr⟩ := Byt.of_own h1
  subst hv
  have H1 := Lib.hid h1; have H2 := Lib.hid h2; clear h1 h2 hr
  go_wp2
  go_ret
  refine ⟨⟨w1.heap.size, _, rfl, H2.out.size, fun b hb => (H1.out.lt b hb).1, ⟨⟨97, heap_alloc_new w1 _⟩, (Byt.of_own H1.out).below ((Below.refl _ _).alloc (Nat.le_refl _) _), Nat.zero_le _, Hl.out, fun b hb => ?_, fun b hb => ?_⟩⟩, H2.out.alloc H2.out.size _⟩
  · have := (H1.out.lt b hb).2
    omega
  · have := (H1.out.lt b hb).2
    simp; omega

/-- What the reader's methods leave. -/
def RPost (w : World) (g : Nat) (vd : Value) (l : List UInt8) (a : Nat) (r : Value) (e : Ending) (w' : World) : Prop :=
  e = .returned r ∧ Rd w' g vd l a ∧ Chg (· = g) w w'
theorem Rd.drewN {w : World} {g : Nat} {vd : Value} {l : List UInt8} {a : Nat} (h : Rd w g vd l a) (q : Nat) : Rd (w.drewN q) g vd l a := ⟨h.blk, h.byt, h.le, h.small, h.ne, h.lo⟩
theorem chg_drewN (S : Nat → Prop) (w : World) (q : Nat) : Chg S w (w.drewN q) := ⟨rfl, rfl, rfl, Nat.le_refl _, fun _ _ _ => rfl⟩
set_option maxRecDepth 100000 in
theorem field_ok (g : Nat) (vd : Value) (l : List UInt8) (a n : Nat) (w : World) (h : Rd w g vd l a) (h1 : 1 ≤ n) (h8 : n ≤ 8) (hn : a + n ≤ l.length) :
    Calls Tryd.prog 64 #[.pointer (some ⟨g, 0, none⟩), .int .i64 (n : Int)] w (RPost w g vd l (a + n) (.tuple #[.int .u64 (getV ((l.drop a).take n)), .int .i64 0])) := by
  have H := Lib.hid h; clear h
  have Hn := Lib.hid hn; clear hn
  go_enter Tryd.func64, Tryd.ntmps64
  go_wp2_with fail
  refine (checkSize_ok _ _ (by omega) (by omega)).mono ?_
  rintro e w' ⟨rfl, rfl⟩
  go_wp2_with fail
  refine (advance_ok g vd l a n _ H.out Hn.out).mono ?_
  rintro e w1 ⟨⟨v, rfl, hb⟩, hrd, hch⟩
  have Hb := Lib.hid hb; have Hrd := Lib.hid hrd; have Hch := Lib.hid hch
  clear hb hrd hch
  go_wp2_with fail
  have hlen : ((l.drop a).take n).length = n := by have := Hn.out; rw [List.length_take, List.length_drop]; omega
  refine (Get_any v _ _ Hb.out (by rw [hlen]; omega)).mono ?_
  rintro e w2 ⟨rfl, rfl⟩
  have hgv : getZ ((l.drop a).take n) = getV ((l.drop a).take n) ∧ getE ((l.drop a).take n) = 0 := by
    have hb : ¬ (((l.drop a).take n).length < 1 ∨ 8 < ((l.drop a).take n).length) := by rw [hlen]; omega
    exact ⟨if_neg hb, if_neg hb⟩
  rw [hgv.1, hgv.2]
  clear hgv hlen
  go_wp2
  go_ret2
  exact ⟨rfl, Hrd.out, Hch.out⟩
theorem field_size (g : Nat) (n : Int) (w : World) (h : n < 1 ∨ 8 < n) : Calls Tryd.prog 64 #[.pointer (some ⟨g, 0, none⟩), .int .i64 n] w fun e w' => e = .returned (.tuple #[.int .u64 0, .int .i64 2]) ∧ w = w' := by
  have H := Lib.hid h; clear h
  go_enter Tryd.func64, Tryd.ntmps64
  go_wp2_with fail
  refine (checkSize_bad _ _ H.out).mono ?_
  rintro e w' ⟨rfl, rfl⟩
  go_wp2
  go_ret2
  exact ⟨rfl, rfl⟩
theorem field_short (g : Nat) (vd : Value) (l : List UInt8) (a n : Nat) (w : World) (h : Rd w g vd l a) (h1 : 1 ≤ n) (h8 : n ≤ 8) (hn : l.length < a + n) :
    Calls Tryd.prog 64 #[.pointer (some ⟨g, 0, none⟩), .int .i64 (n : Int)] w (RPost w g vd l a (.tuple #[.int .u64 0, .int .i64 4])) := by
  have H := Lib.hid h; clear h
  have Hn := Lib.hid hn; clear hn
  go_enter Tryd.func64, Tryd.ntmps64
  go_wp2_with fail
  refine (checkSize_ok _ _ (by omega) (by omega)).mono ?_
  rintro e w' ⟨rfl, rfl⟩
  go_wp2_with fail
  refine (advance_short g vd l a n _ H.out (by omega) (by have := Hn.out; omega)).mono ?_
  rintro e w1 ⟨rfl, q, rfl⟩
  go_wp2
  go_ret2
  exact ⟨rfl, H.out.drewN q, chg_drewN _ _ _⟩
theorem Next_of (g : Nat) (n : Int) (w : World) (x y : Value) (vd : Value) (l : List UInt8) (a : Nat) (h : Calls Tryd.prog 64 #[.pointer (some ⟨g, 0, none⟩), .int .i64 n] w (RPost w g vd l a (.tuple #[x, y]))) :
    Calls Tryd.prog 41 #[.pointer (some ⟨g, 0, none⟩), .int .i64 n] w (RPost w g vd l a (.tuple #[x, y])) := by
  have H := Lib.hid h; clear h
  go_enter Tryd.func41, Tryd.ntmps41
  go_wp2_with fail
  refine (orEmpty_some g _).mono ?_
  rintro e w' ⟨rfl, rfl⟩
  go_wp2_with fail
  refine H.out.mono ?_
  rintro e w1 ⟨rfl, h1, h2⟩
  have H1 := Lib.hid h1; have H2 := Lib.hid h2; clear h1 h2
  go_wp2
  go_ret2
  exact ⟨rfl, H1.out, H2.out⟩
end Go.Proofs.YtmolpnhgmdpdmaaDoor
