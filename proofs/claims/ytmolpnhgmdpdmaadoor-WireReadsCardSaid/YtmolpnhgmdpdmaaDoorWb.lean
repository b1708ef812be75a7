/- The law's own function add, kind by kind: what it appends to the writer, and that the errors agree. Conditions stand in each theorem. -/
import Derived.Test.YtmolpnhgmdpdmaaDoorWa
import Derived.Deep.RegionWith
import Derived.Deep.OwnRows
namespace Go.Proofs.YtmolpnhgmdpdmaaDoor
open Go.RowKit
set_option linter.unusedVariables false
set_option maxHeartbeats 1000000

/-- What a call appends: the bytes m, in the writer and in the result. -/
def APost (w : World) (g : Nat) (v : Value) (l m : List UInt8) (e : Ending) (w' : World) : Prop :=
  (∃ r, e = .returned (.tuple #[r, .bool true]) ∧ Byt w' r m) ∧ ∃ v', Wr w' g v' (l ++ m) ∧ Chg (fun b => b = g ∨ v.ownBlock = some b) w w' ∧ (v'.ownBlock = v.ownBlock ∨ ∃ b, v'.ownBlock = some b ∧ w.heap.size ≤ b)
theorem APost.of {w w' : World} {g : Nat} {v r : Value} {l m : List UInt8} {k : Int} {e : Ending} (h : WPost w g v (l ++ m) k e w') (hr : Byt w' r m) : APost w g v l m (.returned (.tuple #[r, .bool true])) w' := ⟨⟨r, rfl, hr⟩, h.2⟩
/-- A block that is neither the writer's nor its row's. -/
theorem WPost.cell {w w' : World} {g : Nat} {v : Value} {l : List UInt8} {k : Int} {e : Ending} (h : WPost w g v l k e w') {b j : Nat} {x : Value} (hb : b < w.heap.size) (hg : b ≠ g) (hv : v.ownBlock ≠ some b) (hc : w.cell? ⟨b, j, none⟩ = some x) : w'.cell? ⟨b, j, none⟩ = some x := by
  obtain ⟨-, v', -, hch, -⟩ := h
  exact (World.cell?_of_block (a := ⟨b, j, none⟩) (hch.block b hb (by rintro (h | h); exact hg h; exact hv h))).trans hc
theorem WPost.byt {w w' : World} {g : Nat} {v r : Value} {l m : List UInt8} {k : Int} {e : Ending} (h : WPost w g v l k e w') (hr : Byt w r m) (hs : 0 < m.length → ∀ b, r.ownBlock = some b → b ≠ g ∧ v.ownBlock ≠ some b) : Byt w' r m := by
  obtain ⟨A, c, rfl, hc, hcell⟩ := hr
  refine ⟨A, c, rfl, hc, fun h0 => ?_⟩
  obtain ⟨b, o, rfl, hb, hh⟩ := hcell h0
  have hb2 := hs h0 b rfl
  obtain ⟨-, v', -, hch, -⟩ := id h
  exact ⟨b, o, rfl, Nat.lt_of_lt_of_le hb hch.size, fun j hj => h.cell hb hb2.1 hb2.2 (hh j hj)⟩
theorem cells_of (w : World) (vs : Array Value) (t : TypeId) (j : Nat) (x : Value) (h : vs[j]? = some x) {w' : World} (hb : Below (w.alloc (.cells vs t)).heap.size (w.alloc (.cells vs t)) w') : w'.cell? ⟨w.heap.size, j, none⟩ = some x := by
  refine (hb.cell (by show w.heap.size < _; simp)).trans ?_
  rw [cell_of_row (w.alloc (.cells vs t)) w.heap.size j vs t (0, 0) (heap_alloc_new w _)]
  exact h
theorem Fl.below {w w' : World} {v : Value} {fs : List (Int × Int)} (h : Fl w v fs) (hb : Below w.heap.size w w') : Fl w' v fs := by
  obtain ⟨A, c, rfl, hc, hr⟩ := h
  refine ⟨A, c, rfl, hc, fun h0 => ?_⟩
  obtain ⟨b, o, e, hb', hcell⟩ := hr h0
  exact ⟨b, o, e, Nat.lt_of_lt_of_le hb' hb.size, fun j hj => ⟨(hb.cell (by exact hb')).trans (hcell j hj).1, (hb.cell (by exact hb')).trans (hcell j hj).2⟩⟩
set_option maxRecDepth 100000 in
theorem add_0 (g : Nat) (v : Value) (l : List UInt8) (V N : Int) (fv Bv : Value) (w : World) (h : Wr w g v l) (hV : 0 ≤ V) (hV2 : V ≤ 18446744073709551615) (hl : l.length + 8 ≤ 1048576) :
    Calls Tryd.prog 26 #[.pointer (some ⟨g, 0, none⟩), .agg #[.int .i64 0, .int .u64 V, .int .i64 N, fv, Bv]] w (APost w g v l (putL V N)) := by
  have HW := Lib.hid (h.below (alloc_below w (.cells #[.int .i64 0, .int .u64 V, .int .i64 N, fv, Bv] 58)))
  have HL := Lib.hid (own_lt h); have Hg := Lib.hid h.lt
  clear h
  obtain ⟨L, hL⟩ : ∃ L, L = putL V N := ⟨_, rfl⟩
  obtain ⟨E, hE⟩ : ∃ E, E = putE V N := ⟨_, rfl⟩
  have Hput := Lib.hid (fun W => refPut_new V N W hV hV2)
  have Hadd := Lib.hid (fun W (h : Wr W g v l) => Add_any g v V N l W h hV hl)
  rw [← hL, ← hE] at Hput Hadd
  rw [← hL]
  clear hV hV2 hl hL hE
  go_enter Tryd.func26, Tryd.ntmps26
  go_wp2_with fail
  refine (Hput.out _).mono ?_
  rintro e w1 ⟨r, rfl, hB, hn, hb⟩
  have hc1 := cells_of w _ _ 1 _ rfl hb
  have hc2 := cells_of w _ _ 2 _ rfl hb
  have HB := Lib.hid hB; have Hb := Lib.hid hb; have HN := Lib.hid hn; clear hB hb hn
  go_wp2_with fail
  refine (Hadd.out _ (HW.out.below Hb.out)).mono ?_
  intro e w2 hp
  have hby := hp.byt HB.out (fun _ b hb => ⟨by have h1 := HN.out b hb; have h2 := Hg.out; simp at h1; omega, fun e => by have h1 := HN.out b hb; have h2 := HL.out b e; simp at h1; omega⟩)
  have HQ := Lib.hid (APost.of (hp.behind ((alloc_below w _).trans (Hb.out.mono (by simp)))) hby)
  obtain ⟨rfl, -⟩ := hp
  clear hby HB Hb HN HW HL Hg
  go_wp2
  go_ret2
  exact HQ.out
set_option maxRecDepth 100000 in
theorem add_1 (g : Nat) (v : Value) (l : List UInt8) (V N : Int) (fv Bv : Value) (w : World) (h : Wr w g v l) (fs : List (Int × Int)) (w0 : World) (hF : Fl w fv fs) (hF0 : Fl w0 fv fs) (hg0 : w0.heap.size ≤ g) (hv0 : ∀ b, v.ownBlock = some b → w0.heap.size ≤ b) (hfs : ∀ f ∈ fs, 0 ≤ f.1 ∧ f.1 ≤ 18446744073709551615) (hlen : fs.length ≤ 20) (hl : l.length + 160 ≤ 1048576) :
    Calls Tryd.prog 26 #[.pointer (some ⟨g, 0, none⟩), .agg #[.int .i64 1, .int .u64 V, .int .i64 N, fv, Bv]] w (APost w g v l (allL fs)) := by
  have HW := Lib.hid (h.below (alloc_below w (.cells #[.int .i64 1, .int .u64 V, .int .i64 N, fv, Bv] 58)))
  have HL := Lib.hid (own_lt h); have Hg := Lib.hid h.lt
  clear h
  obtain ⟨L, hL⟩ : ∃ L, L = allL fs := ⟨_, rfl⟩
  obtain ⟨E, hE⟩ : ∃ E, E = allE fs := ⟨_, rfl⟩
  have HF := Lib.hid (hF.below (alloc_below w (.cells #[.int .i64 1, .int .u64 V, .int .i64 N, fv, Bv] 58)))
  have Hput := Lib.hid (fun W (h : Fl W fv fs) => refPutAll_any fv fs W h hfs (by omega))
  have Hadd := Lib.hid (fun W (h : Wr W g v l) (h1 : Fl W fv fs) => AddAll_any g v fv l fs W w0 h h1 hF0 hg0 hv0 (fun f hf => (hfs f hf).1) hlen hl)
  rw [← hL, ← hE] at Hput Hadd
  rw [← hL]
  clear hfs hlen hl hL hE hF hF0 hg0 hv0
  go_enter Tryd.func26, Tryd.ntmps26
  go_wp2_with fail
  refine (Hput.out _ HF.out).mono ?_
  rintro e w1 ⟨r, rfl, hB, hn, hb⟩
  have hc3 := cells_of w _ _ 3 _ rfl hb
  have HB := Lib.hid hB; have Hb := Lib.hid hb; have HN := Lib.hid hn; clear hB hb hn
  go_wp2_with fail
  refine (Hadd.out _ (HW.out.below Hb.out) (HF.out.below Hb.out)).mono ?_
  intro e w2 hp
  have hby := hp.byt HB.out (fun _ b hb => ⟨by have h1 := HN.out b hb; have h2 := Hg.out; simp at h1; omega, fun e => by have h1 := HN.out b hb; have h2 := HL.out b e; simp at h1; omega⟩)
  have HQ := Lib.hid (APost.of (hp.behind ((alloc_below w _).trans (Hb.out.mono (by simp)))) hby)
  obtain ⟨rfl, -⟩ := hp
  clear hby HB Hb HN HW HL Hg
  go_wp2
  go_ret2
  exact HQ.out
set_option maxRecDepth 100000 in
theorem add_2 (g : Nat) (v : Value) (l : List UInt8) (V N : Int) (fv Bv : Value) (w : World) (h : Wr w g v l) (B : List UInt8) (hB : Byt w Bv B) (hs : 0 < B.length → ∀ b, Bv.ownBlock = some b → b ≠ g ∧ v.ownBlock ≠ some b) (hl : l.length + B.length ≤ 1048576) :
    Calls Tryd.prog 26 #[.pointer (some ⟨g, 0, none⟩), .agg #[.int .i64 2, .int .u64 V, .int .i64 N, fv, Bv]] w (APost w g v l B) := by
  have HW := Lib.hid (h.below (alloc_below w (.cells #[.int .i64 2, .int .u64 V, .int .i64 N, fv, Bv] 58)))
  have HL := Lib.hid (own_lt h); have Hg := Lib.hid h.lt
  clear h
  have HB := Lib.hid (hB.below (alloc_below w (.cells #[.int .i64 2, .int .u64 V, .int .i64 N, fv, Bv] 58)))
  have Hs := Lib.hid hs; have Hl := Lib.hid hl
  clear hB hs hl
  go_enter Tryd.func26, Tryd.ntmps26
  go_wp2
  go_region_with (go_at_call 38; refine (AddBytes_ok g v Bv l B _ (HW.out.below (Below.refl _ _).drew) (HB.out.below (Below.refl _ _).drew) Hl.out).mono ?_; intro e w2 hp; have hc4 := hp.cell (b := w.heap.size) (j := 4) (x := Bv) (by simp) (by have := Hg.out; omega) (fun e => by have := HL.out _ e; omega) (by simp); have hby := hp.byt (HB.out.below (Below.refl _ _).drew) Hs.out; have HQ := Lib.hid (APost.of (hp.behind (alloc_below w _).drew) hby); obtain ⟨rfl, -⟩ := hp; clear hby)
  all_goals (go_wp2; go_ret2; exact HQ.out)
set_option maxRecDepth 100000 in
theorem add_3 (g : Nat) (v : Value) (l : List UInt8) (V N : Int) (fv Bv : Value) (w : World) (h : Wr w g v l) (B : List UInt8) (hB : Byt w Bv B) (hBl : B.length ≤ 100) (hN : N ≤ 1000) (hl : l.length + 1000 ≤ 1048576) :
    Calls Tryd.prog 26 #[.pointer (some ⟨g, 0, none⟩), .agg #[.int .i64 3, .int .u64 V, .int .i64 N, fv, Bv]] w (APost w g v l (padL B N)) := by
  have HW := Lib.hid (h.below (alloc_below w (.cells #[.int .i64 3, .int .u64 V, .int .i64 N, fv, Bv] 58)))
  have HL := Lib.hid (own_lt h); have Hg := Lib.hid h.lt
  clear h
  have hpl : (padL B N).length ≤ 1000 := by
    unfold padL
    split
    · simp
    · split
      · simp
      · rw [List.length_append, List.length_replicate]; omega
  obtain ⟨s, hs⟩ : ∃ s : ByteArray, s = ⟨B.toArray⟩ := ⟨_, rfl⟩
  have hst := fun W (h : Byt W Bv B) => run_string (P := Tryd.prog) 23 9 5 Tryd.underlying23 Tryd.underlying5 Tryd.underlying9 h
  have hsB : s.data.toList = B := by rw [hs]
  have hsz : s.size ≤ 9223372036854775807 := by show s.data.toList.length ≤ _; rw [hsB]; omega
  have HB0 := Lib.hid (hB.below (alloc_below w (.cells #[.int .i64 3, .int .u64 V, .int .i64 N, fv, Bv] 58)))
  have hst0 := hst _ HB0.out
  rw [← hs] at hst hst0
  have hput := fun W => refPad_new s N W hsz
  have hadd := fun W (h : Wr W g v l) => AddText_any g v l s N W h hsz (by rw [hsB]; omega)
  rw [hsB] at hput hadd
  obtain ⟨L, hL⟩ : ∃ L, L = padL B N := ⟨_, rfl⟩
  obtain ⟨E, hE⟩ : ∃ E, E = padE B N := ⟨_, rfl⟩
  rw [← hL, ← hE] at hput hadd
  rw [← hL]
  have Hput := Lib.hid hput; have Hadd := Lib.hid hadd; have Hst := Lib.hid hst
  clear hpl hput hadd hst hL hE hsz hsB hs hB hBl hN hl
  go_enter Tryd.func26, Tryd.ntmps26
  go_wp2_with fail
  refine (Hput.out _).mono ?_
  rintro e w1 ⟨r, rfl, hB, hn, hb⟩
  have hc2 := cells_of w _ _ 2 _ rfl hb
  have hc4 := cells_of w _ _ 4 _ rfl hb
  have HB := Lib.hid hB; have Hb := Lib.hid hb; have HN := Lib.hid hn; clear hB hb hn
  have hst1 := Hst.out _ (HB0.out.below Hb.out)
  go_wp2_with fail
  refine (Hadd.out _ (HW.out.below Hb.out)).mono ?_
  intro e w2 hp
  have hby := hp.byt HB.out (fun _ b hb => ⟨by have h1 := HN.out b hb; have h2 := Hg.out; simp at h1; omega, fun e => by have h1 := HN.out b hb; have h2 := HL.out b e; simp at h1; omega⟩)
  have HQ := Lib.hid (APost.of (hp.behind ((alloc_below w _).trans (Hb.out.mono (by simp)))) hby)
  obtain ⟨rfl, -⟩ := hp
  clear hby HB Hb HN HW HL Hg
  go_wp2
  go_ret2
  exact HQ.out
set_option maxRecDepth 100000 in
theorem add_4n (g : Nat) (v : Value) (l : List UInt8) (V N : Int) (fv Bv : Value) (w : World) (h : Wr w g v l) (hN : N < 0) :
    Calls Tryd.prog 26 #[.pointer (some ⟨g, 0, none⟩), .agg #[.int .i64 4, .int .u64 V, .int .i64 N, fv, Bv]] w (APost w g v l []) := by
  have HW := Lib.hid (h.below (alloc_below w (.cells #[.int .i64 4, .int .u64 V, .int .i64 N, fv, Bv] 58)))
  have HL := Lib.hid (own_lt h); have Hg := Lib.hid h.lt
  clear h
  go_enter Tryd.func26, Tryd.ntmps26
  go_wp2_with fail
  refine (Zero_neg g N v l _ HW.out hN).mono ?_
  intro e w2 hp
  have HQ := Lib.hid (APost.of (r := .slice none 0 0) (m := []) (by rw [List.append_nil]; exact hp.behind (alloc_below w _)) (Byt.none _))
  obtain ⟨rfl, -⟩ := hp
  go_wp2
  go_ret2
  exact HQ.out
theorem zeros_byt (W : World) (k : Nat) : Byt (W.alloc (.cells (madeCells #[.int .u8 0] k) 5)) (.slice (some ⟨W.heap.size, 0, none⟩) k k) (List.replicate k 0) := by
  refine ⟨_, k, by simp, by simp, fun _ => ⟨W.heap.size, 0, rfl, by simp, fun j hj => ?_⟩⟩
  simp at hj
  rw [cell_of_row _ W.heap.size (0 + j) _ 5 (0, 0) (heap_alloc_new W _), Nat.zero_add]
  simp [madeCells, hj, Nat.mod_one]
theorem WPost.later {w w2 w3 : World} {g : Nat} {v : Value} {l : List UInt8} {k : Int} {e : Ending} (h : WPost w g v l k e w2) (hb : Below w2.heap.size w2 w3) : WPost w g v l k e w3 := by
  obtain ⟨he, v', hw, hc, ha⟩ := h
  exact ⟨he, v', hw.below hb, hc.trans (T := fun _ => False) (Chg.of_below hb) (fun i hi _ => hi.elim), ha⟩
set_option maxRecDepth 100000 in
theorem add_4 (g : Nat) (v : Value) (l : List UInt8) (V N : Int) (fv Bv : Value) (w : World) (h : Wr w g v l) (k : Nat) (hN : N = (k : Int)) (hk : k ≤ 1000) (hl : l.length + k ≤ 1048576) :
    Calls Tryd.prog 26 #[.pointer (some ⟨g, 0, none⟩), .agg #[.int .i64 4, .int .u64 V, .int .i64 N, fv, Bv]] w (APost w g v l (List.replicate k 0)) := by
  have HW := Lib.hid (h.below (alloc_below w (.cells #[.int .i64 4, .int .u64 V, .int .i64 N, fv, Bv] 58)))
  have HL := Lib.hid (own_lt h); have Hg := Lib.hid h.lt
  clear h
  subst hN
  have hmk := fun W => run_make_row' (P := Tryd.prog) 23 5 (.int .u8 0) 1 Tryd.underlying23 u8_info rfl .i64 .i64 k (by omega) (by omega) W
  have Hl := Lib.hid hl; clear hl hk
  have hz := (zeros_byt (w.alloc (.cells #[.int .i64 4, .int .u64 V, .int .i64 (k : Int), fv, Bv] 58)) k).below (Below.refl _ _).drew
  rw [show (w.alloc (.cells #[.int .i64 4, .int .u64 V, .int .i64 (k : Int), fv, Bv] 58)).heap.size = w.heap.size + 1 from by simp] at hz
  have HZ := Lib.hid hz; clear hz
  go_enter Tryd.func26, Tryd.ntmps26
  go_wp2
  go_region_with (go_at_call 37; first
    | (refine (Zero_ok g k v l _ (HW.out.below (Below.refl _ _).drew) Hl.out).mono ?_; intro e w2 hp; have hc2 := hp.cell (b := w.heap.size) (j := 2) (x := .int .i64 k) (by simp <;> omega) (by have := Hg.out; omega) (fun e => by have := HL.out _ e; omega) (by simp); have HP := Lib.hid (hp.behind (alloc_below w _).drew); obtain ⟨rfl, -⟩ := hp)
    | (refine (Zero_ok g k v l _ (HW.out.below ((Below.refl _ _).alloc (Nat.le_refl _) _).drew) Hl.out).mono ?_; intro e w2 hp; have HY := Lib.hid (hp.byt HZ.out (fun _ b hb => by have hb' : w.heap.size + 1 = b := (by simpa [Value.ownBlock] using hb); exact ⟨by have := Hg.out; omega, fun e => by have := HL.out b e; omega⟩)); have hc2 := hp.cell (b := w.heap.size) (j := 2) (x := .int .i64 k) (by simp <;> omega) (by have := Hg.out; omega) (fun e => by have := HL.out _ e; omega) (by simp); have HP := Lib.hid (hp.behind (((alloc_below w _).alloc (by simp) _).drew)); obtain ⟨rfl, -⟩ := hp))

  all_goals first
    | (go_wp2; go_ret2; exact APost.of HP.out HY.out)
    | (go_wp2; go_ret2; exact APost.of (HP.out.later (alloc_below w2 _)) (zeros_byt w2 k))
set_option maxRecDepth 100000 in
theorem add_other (g : Nat) (v : Value) (l : List UInt8) (V N : Int) (fv Bv : Value) (w : World) (K : Int) (h : Wr w g v l) (h0 : K ≠ 0) (h1 : K ≠ 1) (h2 : K ≠ 2) (h3 : K ≠ 3) (h4 : K ≠ 4) :
    Calls Tryd.prog 26 #[.pointer (some ⟨g, 0, none⟩), .agg #[.int .i64 K, .int .u64 V, .int .i64 N, fv, Bv]] w (APost w g v l []) := by
  have HW := Lib.hid (h.below (alloc_below w (.cells #[.int .i64 K, .int .u64 V, .int .i64 N, fv, Bv] 58)))
  have HL := Lib.hid (own_lt h); have Hg := Lib.hid h.lt
  clear h
  go_enter Tryd.func26, Tryd.ntmps26
  go_wp2
  go_ret2
  have hw := HW.out
  exact ⟨⟨_, rfl, Byt.none _⟩, v, by rw [List.append_nil]; exact hw, Chg.of_below (alloc_below w _), .inl rfl⟩
end Go.Proofs.YtmolpnhgmdpdmaaDoor
