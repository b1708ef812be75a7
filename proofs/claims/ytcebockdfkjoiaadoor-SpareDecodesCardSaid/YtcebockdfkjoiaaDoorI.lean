/- The contracts of checksum, seal and Encode. Conditions stand in each theorem. -/
import Derived.Test.YtcebockdfkjoiaaDoorH
import Derived.Test.YtcebockdfkjoiaaDoorD
import Derived.Test.YtcebockdfkjoiaaDoorG
namespace Go.Proofs.YtcebockdfkjoiaaDoor
open Go.RowKit
set_option linter.unusedVariables false
set_option maxHeartbeats 1000000
set_option maxRecDepth 100000

theorem checksum_any (v1 v2 : Value) (l1 l2 : List UInt8) (w : World) (hT : Tabs w) (h1 : Byt w v1 l1) (h2 : Byt w v2 l2) (n1 : l1.length ≤ maxLen) (n2 : l2.length ≤ maxLen) :
    Calls Tryd.prog 28 #[v1, v2] w fun e w' => e = .returned (.int .u64 (crc32 (l1 ++ l2) : Nat)) ∧ Below w.heap.size w w' := by
  have hr : Rws (w.alloc (.cells #[v1, v2] 26)) (.slice (some ⟨w.heap.size, 0, none⟩) 2 2) [l1, l2] := by
    refine ⟨_, _, rfl, fun _ => ⟨w.heap.size, 0, rfl, by simp, fun j hj => ?_⟩⟩
    have hb : Below w.heap.size w (w.alloc (.cells #[v1, v2] 26)) := (Below.refl _ _).alloc (Nat.le_refl _) _
    have hc := fun j => cell_of_row (w.alloc (.cells #[v1, v2] 26)) w.heap.size j _ 26 (0, 0) (heap_alloc_new w _)
    rcases j with _ | _ | j
    · exact ⟨v1, hc 0, h1.below hb⟩
    · exact ⟨v2, hc 1, h2.below hb⟩
    · simp only [List.length_cons, List.length_nil] at hj; omega
  have HC := Lib.hid (Sum32_any _ [l1, l2] _ (hT.below ((Below.refl _ _).alloc (Nat.le_refl _) _)) hr (by unfold maxLen; simp) (by simp [n1, n2]))
  have Hq := Lib.hid (show [l1, l2].flatten = l1 ++ l2 by simp)
  have hlt := crc32_lt [l1, l2].flatten
  rw [Hq.out] at HC hlt
  clear Hq hT hr n1 n2
  generalize crc32 (l1 ++ l2) = q at *
  obtain ⟨A1, c1, rfl, -, -⟩ := h1
  obtain ⟨A2, c2, rfl, -, -⟩ := h2
  go_enter Tryd.func28, Tryd.ntmps28
  go_wp2_with ((go_at_call 40; with_reducible refine HC.out.mono ?_); rintro e w' ⟨rfl, rfl⟩)
  go_ret
  exact ⟨ret_int rfl, (Below.refl _ _).alloc (Nat.le_refl _) _⟩
/-- What the eight fields of an encoding are. -/
def fields (s : Sp) : List (Int × Int) := [(1280591427, 4), (s.kind, 1), (0, 3), (s.seq, 8), (s.prev, 8), (s.sector, 4), (s.index, 4), (s.length, 4)]
theorem fields_flat (s : Sp) : flat (fields s) ++ List.replicate 24 0 = s.body := by
  simp only [flat, fields, List.map_cons, List.map_nil, List.flatten_cons, List.flatten_nil, List.append_nil, Sp.body, List.append_assoc, Int.toNat_natCast]
  rfl
theorem fields_fit (s : Sp) (hw : s.wf) (h : s.ok) : chk (1048576 - (([] : List UInt8).length : Int)) (fields s) = 0 := by
  have p : ∀ v n : Int, 1 ≤ n → n ≤ 8 → v ≤ onesZ (8 * n).toNat → putE v n = 0 := fun v n h0 h1 h2 => (put_ok h0 h1 h2).2
  have k := hw.kind; have q := hw.seq; have r := hw.prev
  obtain ⟨⟨h1, h2, h3, h4, h5⟩, h6⟩ := h
  have hs : 0 ≤ s.sector ∧ s.sector ≤ 4294967294 := by rcases h6 with h | h <;> omega
  have e1 : onesZ (8 * (1 : Int)).toNat = 255 := by decide
  have e3 : onesZ (8 * (3 : Int)).toNat = 16777215 := by decide
  have e4 : onesZ (8 * (4 : Int)).toNat = 4294967295 := by decide
  have e8 : onesZ (8 * (8 : Int)).toNat = 18446744073709551615 := by decide
  simp only [chk, fields, List.length_nil]
  rw [p _ 4 (by decide) (by decide) (by rw [e4]; decide), p _ 1 (by decide) (by decide) (by rw [e1]; omega), p _ 3 (by decide) (by decide) (by rw [e3]; decide), p _ 8 (by decide) (by decide) (by rw [e8]; omega), p _ 8 (by decide) (by decide) (by rw [e8]; omega),
    p _ 4 (by decide) (by decide) (by rw [e4]; omega), p _ 4 (by decide) (by decide) (by rw [e4]; omega), p _ 4 (by decide) (by decide) (by rw [e4]; omega)]
  simp
theorem fields_pos (s : Sp) (h : s.ok) : ∀ f ∈ fields s, 0 ≤ f.1 := by
  obtain ⟨⟨h1, h2, h3, h4, h5⟩, h6⟩ := h
  have hs : 0 ≤ s.sector ∧ s.sector ≤ 4294967294 := by rcases h6 with h | h <;> omega
  intro f hf
  simp only [fields, List.mem_cons, List.not_mem_nil, or_false] at hf
  rcases hf with rfl | rfl | rfl | rfl | rfl | rfl | rfl | rfl <;> simp only <;> omega
theorem below_alloc (w : World) (o : Obj) : Below w.heap.size w (w.alloc o) := (Below.refl _ _).alloc (Nat.le_refl _) o
/-- A writer that the call itself has made. -/
structure WG (w W : World) (g : Nat) (v : Value) (l : List UInt8) : Prop where
  is : Wr W g v l
  bel : Below w.heap.size w W
  ge : w.heap.size ≤ g
  vge : ∀ b, v.ownBlock = some b → w.heap.size ≤ b
theorem WG.post {w W W' : World} {g : Nat} {v : Value} {l l' : List UInt8} {k : Int} {e : Ending} (h : WG w W g v l) (hp : WPost W g v l' k e W') : e = .returned (.int .i64 k) ∧ ∃ v', WG w W' g v' l' := by
  obtain ⟨he, v', h1, h2, h3⟩ := hp
  refine ⟨he, v', h1, h.bel.trans (h2.below h.bel.size ?_), h.ge, ?_⟩
  · rintro i (rfl | hi)
    · exact h.ge
    · exact h.vge i hi
  · intro b hb
    rcases h3 with e | ⟨b', e, hb'⟩
    · exact h.vge b (by rw [← e]; exact hb)
    · rw [e] at hb; injection hb with hb; have := h.bel.size; omega
theorem WG.later {w W W' : World} {g : Nat} {v : Value} {l : List UInt8} (h : WG w W g v l) (hb : Below W.heap.size W W') : WG w W' g v l := ⟨h.is.below hb, h.bel.trans (hb.mono h.bel.size), h.ge, h.vge⟩
theorem WG.new (w : World) : WG w (w.alloc (.cells #[.slice none 0 0] 67)) w.heap.size (.slice none 0 0) [] := ⟨wr_new w, below_alloc w _, Nat.le_refl _, fun b hb => by simp [Value.ownBlock] at hb⟩
theorem fl_below {w w' : World} {v : Value} {fs : List (Int × Int)} (h : Fl w v fs) (hb : Below w.heap.size w w') : Fl w' v fs := by
  obtain ⟨A, c, rfl, hc, hr⟩ := h
  refine ⟨A, c, rfl, hc, fun h0 => ?_⟩
  obtain ⟨b, o, rfl, hlt, hh⟩ := hr h0
  exact ⟨b, o, rfl, Nat.lt_of_lt_of_le hlt hb.size, fun j hj => ⟨(hb.cell hlt).trans (hh j hj).1, (hb.cell hlt).trans (hh j hj).2⟩⟩
theorem fl_block {w : World} {v : Value} {s : Sp} (h : Fl w v (fields s)) : ∀ b, v.ownBlock = some b → b < w.heap.size := by
  obtain ⟨A, c, rfl, -, hr⟩ := h
  obtain ⟨b, o, rfl, hb, -⟩ := hr (by simp [fields])
  intro b' hb'
  simp [Value.ownBlock] at hb'
  omega
theorem seal_any (v0 v1 : Value) (data : List UInt8) (s : Sp) (w : World) (hT : Tabs w) (h0 : Byt w v0 data) (hn : data.length ≤ maxLen) (h1 : Fl w v1 (fields s)) (hw : s.wf) (hok : s.ok) :
    Calls Tryd.prog 21 #[v0, v1] w fun e w' => (∃ r, e = .returned r ∧ Byt w' r (s.enc data) ∧ ∀ b, r.ownBlock = some b → w.heap.size ≤ b) ∧ Below w.heap.size w w' := by
  have H0 := Lib.hid h0; have HT := Lib.hid hT; have Hn := Lib.hid hn; clear h0 hT hn
  have HA := Lib.hid (AddAll_ok w.heap.size (.slice none 0 0) v1 [] (fields s) _ (wr_new w) (fl_below h1 (below_alloc w _)) (fields_pos s hok) (fun b hb => ⟨by have := fl_block h1 b hb; omega, by simp [Value.ownBlock]⟩) (by simp [fields]) (fields_fit s hw hok))
  clear hw hok
  obtain ⟨A, c, rfl, -, -⟩ := h1
  go_enter Tryd.func21, Tryd.ntmps21
  go_wp2_with fail
  refine HA.out.mono ?_
  rintro e W1 hp
  obtain ⟨rfl, v2, hG⟩ := (WG.new w).post hp
  have G1 := Lib.hid hG; clear hG hp HA
  have e36 : ([] ++ flat (fields s)).length = 36 := by have := s.body_length; rw [← fields_flat, List.length_append, List.length_replicate] at this; rw [List.nil_append]; omega
  go_wp2_with fail
  refine (Len_any _ _ _ _ G1.out.is).mono ?_
  rintro e w' ⟨rfl, rfl⟩
  rw [e36]
  go_wp2_with fail
  refine (show Calls Tryd.prog 34 #[.pointer (some ⟨w.heap.size, 0, none⟩), .int .i64 ((24 : Nat) : Int)] W1 _ from Zero_ok w.heap.size 24 _ _ W1 G1.out.is (by rw [e36]; decide)).mono ?_
  rintro e W2 hp
  rw [List.nil_append, fields_flat] at hp
  obtain ⟨rfl, v3, hG⟩ := G1.out.post hp
  have G2 := Lib.hid hG; clear hG hp G1 e36
  go_wp2_with fail
  refine (Bytes_any _ _ _ _ G2.out.is).mono ?_
  rintro e W3 ⟨⟨vb, rfl, hb⟩, hbel⟩
  have HB := Lib.hid (Byt.of_own (show W3.ownsRow W2.heap.size 5 1 vb s.body.length (bv s.body) from hb)); have G3 := Lib.hid (G2.out.later hbel); clear hb hbel G2
  go_wp2_with fail
  refine (checksum_any v0 vb data s.body W3 (HT.out.below G3.out.bel) (H0.out.below G3.out.bel) HB.out Hn.out (by rw [s.body_length]; decide)).mono ?_
  rintro e W4 ⟨rfl, hbel⟩
  have G4 := Lib.hid (G3.out.later hbel); clear hbel G3 HB
  have hlt := crc32_lt (data ++ s.body)
  obtain ⟨q, hq⟩ : ∃ q, q = crc32 (data ++ s.body) := ⟨_, rfl⟩
  rw [← hq] at hlt ⊢
  have Hq := Lib.hid hq; clear hq
  have ha := Add_ok w.heap.size v3 (q : Int) 4 s.body W4 G4.out.is (by omega) (by
    have e4 : onesZ (8 * (4 : Int)).toNat = 4294967295 := by decide
    have hp := (put_ok (v := (q : Int)) (n := 4) (by decide) (by decide) (by rw [e4]; omega)).2
    simp only [chk, hp, s.body_length]; simp)
  have HA := Lib.hid ha; clear ha
  go_wp2_with fail
  refine HA.out.mono ?_
  rintro e W5 hp
  obtain ⟨rfl, v4, hG⟩ := G4.out.post hp
  have He := Lib.hid (show s.body ++ putB (q : Int).toNat (4 : Int).toNat = s.enc data by rw [Int.toNat_natCast, Hq.out]; rfl)
  rw [He.out] at hG
  have G5 := Lib.hid hG; clear hG hp G4 HA
  go_wp2_with fail
  refine (Bytes_any _ _ _ _ G5.out.is).mono ?_
  rintro e W6 ⟨⟨vr, rfl, hb⟩, hbel⟩
  have HB := Lib.hid hb; have G6 := Lib.hid (G5.out.later hbel); have Hs := Lib.hid G5.out.bel.size; clear hb hbel G5
  go_wp2
  go_ret
  exact ⟨⟨vr, rfl, Byt.of_own HB.out, fun b hb => Nat.le_trans Hs.out (HB.out.lt b hb).1⟩, G6.out.bel⟩
/-- What Encode leaves. -/
def EncPost (w : World) (s : Sp) (data : List UInt8) (e : Ending) (w' : World) : Prop :=
  (∃ r, e = .returned (.tuple #[r, .int .i64 (if s.ok then 0 else 2)]) ∧ Byt w' r (if s.ok then s.enc data else []) ∧ ∀ b, r.ownBlock = some b → w.heap.size ≤ b) ∧ Below w.heap.size w w'
theorem Encode_bad (s : Sp) (v : Value) (data : List UInt8) (w : World) (hw : s.wf) (hok : ¬ s.ok) : Calls Tryd.prog 9 #[s.val, v] w (EncPost w s data) := by
  have HV := Lib.hid (Valid_any s hw (w.alloc (.cells #[.int .u8 (s.kind : Int), .int .i64 s.sector, .int .u64 (s.seq : Int), .int .u64 (s.prev : Int), .int .i64 s.index, .int .i64 s.length] 25)))
  rw [decide_eq_false hok] at HV
  have Hok := Lib.hid hok; clear hok hw
  unfold Sp.val at *
  have Hfin : Hid (∀ w', Below w.heap.size w w' → EncPost w s data (.returned (.tuple #[.slice none 0 0, .int .i64 2])) w') := Lib.hid fun w' hb => by
    refine ⟨⟨_, by rw [if_neg Hok.out], by rw [if_neg Hok.out]; exact Byt.none w', fun b hb => by simp [Value.ownBlock] at hb⟩, hb⟩
  generalize EncPost w s data = R at *
  go_enter Tryd.func9, Tryd.ntmps9
  go_wp2_with fail
  refine HV.out.mono ?_
  rintro e W1 ⟨rfl, hb⟩
  have Hb := Lib.hid hb; clear hb
  go_wp2
  have hx : Below (w.alloc (.cells #[.int .u8 (s.kind : Int), .int .i64 s.sector, .int .u64 (s.seq : Int), .int .u64 (s.prev : Int), .int .i64 s.index, .int .i64 s.length] 25)).heap.size _ _ := Hb.out
  exact Hfin.out _ ((below_alloc w _).trans (hx.mono (by simp)))
theorem Encode_ok (s : Sp) (v : Value) (data : List UInt8) (w : World) (hT : Tabs w) (hB : Byt w v data) (hn : data.length ≤ maxLen) (hw : s.wf) (hok : s.ok) : Calls Tryd.prog 9 #[s.val, v] w (EncPost w s data) := by
  have HV := Lib.hid (Valid_any s hw (w.alloc (.cells #[.int .u8 (s.kind : Int), .int .i64 s.sector, .int .u64 (s.seq : Int), .int .u64 (s.prev : Int), .int .i64 s.index, .int .i64 s.length] 25)))
  rw [decide_eq_true hok] at HV
  have HT := Lib.hid hT; have HB := Lib.hid hB; have Hn := Lib.hid hn; clear hT hB hn
  have Hok := Lib.hid hok; have Hw := Lib.hid hw
  have hs : 0 ≤ s.sector ∧ s.sector ≤ 4294967294 := by rcases hok.2 with h | h <;> omega
  have g1 := hs.1; have g2 := hs.2; have g3 := hok.1.2.2.2.1; have g4 : s.index ≤ 65535 := by have := hok.1; omega
  have g5 : 0 ≤ s.length := by have := hok.1; omega
  have g6 := hok.1.2.2.1
  have g7 := hw.kind
  clear hs hok hw
  unfold Sp.val at *
  have Hfin : Hid (∀ w' r, Below w.heap.size w w' → Byt w' r (s.enc data) → (∀ b, r.ownBlock = some b → w.heap.size ≤ b) → EncPost w s data (.returned (.tuple #[r, .int .i64 0])) w') := Lib.hid fun w' r hb h1 h2 => by
    refine ⟨⟨r, by rw [if_pos Hok.out], by rw [if_pos Hok.out]; exact h1, h2⟩, hb⟩
  generalize EncPost w s data = R at *
  go_enter Tryd.func9, Tryd.ntmps9
  go_wp2_with fail
  refine HV.out.mono ?_
  rintro e W1 ⟨rfl, hb⟩
  have Hb := Lib.hid ((below_alloc w (.cells #[.int .u8 (s.kind : Int), .int .i64 s.sector, .int .u64 (s.seq : Int), .int .u64 (s.prev : Int), .int .i64 s.index, .int .i64 s.length] 25)).trans (hb.mono (by simp)))
  have hc := fun j => (hb.cell (p := ⟨w.heap.size, j, none⟩) (by simp)).trans (cell_of_row (w.alloc (.cells #[.int .u8 (s.kind : Int), .int .i64 s.sector, .int .u64 (s.seq : Int), .int .u64 (s.prev : Int), .int .i64 s.index, .int .i64 s.length] 25)) w.heap.size j _ 25 (0, 0) (heap_alloc_new w _))
  have c0 : W1.cell? ⟨w.heap.size, 0, none⟩ = some (.int .u8 (s.kind : Int)) := hc 0
  have c1 : W1.cell? ⟨w.heap.size, 1, none⟩ = some (.int .i64 s.sector) := hc 1
  have c2 : W1.cell? ⟨w.heap.size, 2, none⟩ = some (.int .u64 (s.seq : Int)) := hc 2
  have c3 : W1.cell? ⟨w.heap.size, 3, none⟩ = some (.int .u64 (s.prev : Int)) := hc 3
  have c4 : W1.cell? ⟨w.heap.size, 4, none⟩ = some (.int .i64 s.index) := hc 4
  have c5 : W1.cell? ⟨w.heap.size, 5, none⟩ = some (.int .i64 s.length) := hc 5
  clear hc hb HV
  go_wp2_with fail
  have hfl : Fl (W1.alloc (.cells #[.int .u64 1280591427, .int .i64 4, .int .u64 (s.kind : Int), .int .i64 1, .int .u64 0, .int .i64 3, .int .u64 (s.seq : Int), .int .i64 8, .int .u64 (s.prev : Int), .int .i64 8, .int .u64 s.sector, .int .i64 4, .int .u64 s.index, .int .i64 4, .int .u64 s.length, .int .i64 4] 51)) (.slice (some ⟨W1.heap.size, 0, none⟩) 8 8) (fields s) := by
    refine ⟨_, 8, rfl, Nat.le_refl _, fun _ => ⟨W1.heap.size, 0, rfl, by simp, fun j hj => ?_⟩⟩
    have hr := fun j => cell_of_row _ W1.heap.size j _ 51 (0, 0) (heap_alloc_new W1 (.cells #[.int .u64 1280591427, .int .i64 4, .int .u64 (s.kind : Int), .int .i64 1, .int .u64 0, .int .i64 3, .int .u64 (s.seq : Int), .int .i64 8, .int .u64 (s.prev : Int), .int .i64 8, .int .u64 s.sector, .int .i64 4, .int .u64 s.index, .int .i64 4, .int .u64 s.length, .int .i64 4] 51))
    rcases j with _ | _ | _ | _ | _ | _ | _ | _ | j
    · exact ⟨hr 0, hr 1⟩
    · exact ⟨hr 2, hr 3⟩
    · exact ⟨hr 4, hr 5⟩
    · exact ⟨hr 6, hr 7⟩
    · exact ⟨hr 8, hr 9⟩
    · exact ⟨hr 10, hr 11⟩
    · exact ⟨hr 12, hr 13⟩
    · exact ⟨hr 14, hr 15⟩
    · simp only [fields, List.length_cons, List.length_nil] at hj; omega
  have hb2 := (below_alloc W1 (.cells #[.int .u64 1280591427, .int .i64 4, .int .u64 (s.kind : Int), .int .i64 1, .int .u64 0, .int .i64 3, .int .u64 (s.seq : Int), .int .i64 8, .int .u64 (s.prev : Int), .int .i64 8, .int .u64 s.sector, .int .i64 4, .int .u64 s.index, .int .i64 4, .int .u64 s.length, .int .i64 4] 51))
  have Hb2 := Lib.hid (Hb.out.trans (hb2.mono Hb.out.size)); clear hb2
  refine (seal_any v _ data s _ (HT.out.below Hb2.out) (HB.out.below Hb2.out) Hn.out hfl Hw.out Hok.out).mono ?_
  rintro e W2 ⟨⟨r, rfl, h1, h2⟩, h3⟩
  have H1 := Lib.hid h1; have H2 := Lib.hid (fun b hb => Nat.le_trans Hb2.out.size (h2 b hb)); have H3 := Lib.hid (Hb2.out.trans (h3.mono Hb2.out.size)); clear h1 h2 h3 hfl Hb2 c0 c1 c2 c3 c4 c5
  go_wp2
  exact Hfin.out _ _ H3.out H1.out H2.out
theorem Encode_any (s : Sp) (v : Value) (data : List UInt8) (w : World) (hT : Tabs w) (hB : Byt w v data) (hn : data.length ≤ maxLen) (hw : s.wf) : Calls Tryd.prog 9 #[s.val, v] w (EncPost w s data) := by
  by_cases hok : s.ok
  · exact Encode_ok s v data w hT hB hn hw hok
  · exact Encode_bad s v data w hw hok
end Go.Proofs.YtcebockdfkjoiaaDoor
