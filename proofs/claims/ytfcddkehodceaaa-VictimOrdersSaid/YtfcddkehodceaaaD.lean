/- rank of package victim: the useful candidates with their places. Conditions stand in each theorem. -/
import Derived.Test.YtfcddkehodceaaaC
import Derived.Laws.IdiomCopy
namespace Go.Proofs.Ytfcddkehodceaaa
open Go.RowKit
set_option linter.unusedVariables false
set_option maxHeartbeats 4000000
set_option maxRecDepth 100000
/-- The cells of a candidate at an offset. -/
structure CdO (W : World) (g o : Nat) (c : Cd) : Prop where
  c0 : W.cell? ⟨g, o, none⟩ = some (.int .i64 c.bl)
  c1 : W.cell? ⟨g, o + 1, none⟩ = some (.int .i64 c.va)
  c2 : W.cell? ⟨g, o + 2, none⟩ = some (.int .i64 c.pa)
  c3 : W.cell? ⟨g, o + 3, none⟩ = some (.int .i64 c.ag)
/-- A slice value that reads as the candidates l. -/
def Cs (w : World) (v : Value) (l : List Cd) : Prop :=
  ∃ A c, v = .slice A l.length c ∧ (0 < l.length → ∃ g o, A = some ⟨g, o, none⟩ ∧ g < w.heap.size ∧ ∀ i (h : i < l.length), CdO w g (o + i * 4) l[i])
theorem CdO.below {w W : World} {g o B : Nat} {c : Cd} (h : CdO w g o c) (hb : Below B w W) (hg : g < B) : CdO W g o c :=
  ⟨(hb.cell (p := ⟨g, _, none⟩) hg).trans h.c0, (hb.cell (p := ⟨g, _, none⟩) hg).trans h.c1, (hb.cell (p := ⟨g, _, none⟩) hg).trans h.c2, (hb.cell (p := ⟨g, _, none⟩) hg).trans h.c3⟩
theorem Cs.below {w W : World} {v : Value} {l : List Cd} (h : Cs w v l) (hb : Below w.heap.size w W) : Cs W v l := by
  obtain ⟨A, c, e, h1⟩ := h
  refine ⟨A, c, e, fun h0 => ?_⟩
  obtain ⟨g, o, e', hg, hc⟩ := h1 h0
  exact ⟨g, o, e', Nat.lt_of_lt_of_le hg hb.size, fun i hi => (hc i hi).below hb hg⟩
/-- The candidates with their places. -/
def rkL (l : List Cd) : List Rk := l.zipIdx.map fun p => ⟨p.1, (p.2 : Int)⟩
theorem rkL_length (l : List Cd) : (rkL l).length = l.length := by simp [rkL]
theorem rkL_at (l : List Cd) (i : Nat) (h : i < l.length) : (rkL l)[i]'(by rw [rkL_length]; exact h) = ⟨l[i], (i : Int)⟩ := by simp [rkL]
def usL (l : List Cd) : List Rk := useK (rkL l) (rkL l).length
/-- The error of a list. -/
def errL (l : List Cd) : Int := if ∀ c ∈ l, c.ok then (if usL l = [] then 9 else 0) else 2
/-- What rank gives. -/
def rankR (l : List Cd) : List Rk := if ∀ c ∈ l, c.ok then usL l else []
instance (l : List Cd) : Decidable (∀ c ∈ l, c.ok) := inferInstance
def RankPost (w : World) (l : List Cd) (e : Ending) (w' : World) : Prop := Below w.heap.size w w' ∧ ∃ v, e = .returned (.tuple #[v, .int .i64 (errL l)]) ∧ w'.ownsRow w.heap.size 52 7 v (rankR l).length (fl7 (rankR l))
theorem setCells_row {g : Nat} : ∀ (vs : List Value) (o : Nat) (W : World) (cur : Array Value), W.heap[g]? = some (.cells cur 52 (0, 0)) → ∃ cur', (W.setCells g o vs).heap[g]? = some (.cells cur' 52 (0, 0)) ∧ cur'.size = cur.size
  | [], o, W, cur, h => ⟨cur, h, rfl⟩
  | v :: r, o, W, cur, h => by
    obtain ⟨cur', h1, h2⟩ := setCells_row r (o + 1) (W.setCell ⟨g, o, none⟩ v) _ (heap_setCell_same W g o _ 52 _ h)
    exact ⟨cur', h1, by rw [h2]; simp⟩
theorem setCells_below {g B : Nat} (hg : B ≤ g) : ∀ (vs : List Value) (o : Nat) (w W : World), Below B w W → Below B w (W.setCells g o vs)
  | [], o, w, W, h => h
  | v :: r, o, w, W, h => setCells_below hg r (o + 1) w _ (h.setCell hg _)
theorem setCells_size {g : Nat} : ∀ (vs : List Value) (o : Nat) (W : World), (W.setCells g o vs).heap.size = W.heap.size
  | [], o, W => rfl
  | v :: r, o, W => (setCells_size r (o + 1) _).trans (by simp [World.setCell])
theorem AllAt.put {W : World} {g n k : Nat} {L : List Rk} (h : AllAt W g n k L) (hk : k < L.length) (hn : L.length ≤ n) : AllAt (W.setCells g (k * 7) L[k].cells) g n (k + 1) L := by
  obtain ⟨cur, h1, h2⟩ := h.row
  have hlen : L[k].cells.length = 7 := rfl
  obtain ⟨cur', h3, h4⟩ := setCells_row L[k].cells (k * 7) W cur h1
  refine ⟨⟨cur', h3, h4.trans h2⟩, hk, fun i hi hik => ?_⟩
  by_cases hi2 : i < k
  · have hr := h.el i hi hi2
    have e : ∀ j, j < 7 → (W.setCells g (k * 7) L[k].cells).cell? ⟨g, i * 7 + j, none⟩ = W.cell? ⟨g, i * 7 + j, none⟩ := fun j hj => World.cell?_setCells_out g _ _ _ _ (fun _ _ => .inl (by show i * 7 + j < k * 7; omega))
    exact ⟨(e 0 (by omega)).trans hr.c0, (e 1 (by omega)).trans hr.c1, (e 2 (by omega)).trans hr.c2, (e 3 (by omega)).trans hr.c3, (e 4 (by omega)).trans hr.c4, (e 5 (by omega)).trans hr.c5, (e 6 (by omega)).trans hr.c6⟩
  · obtain rfl : i = k := by omega
    have e := World.cell?_setCells_in g L[i].cells (i * 7) W (fun j hj => by
      rw [cell_of_row W g _ cur 52 (0, 0) h1]
      rw [hlen] at hj
      have : i * 7 + j < cur.size := by omega
      simp [this])
    exact ⟨e 0 (by rw [hlen]; omega), e 1 (by rw [hlen]; omega), e 2 (by rw [hlen]; omega), e 3 (by rw [hlen]; omega), e 4 (by rw [hlen]; omega), e 5 (by rw [hlen]; omega), e 6 (by rw [hlen]; omega)⟩
theorem AllAt.slot {W : World} {g n k : Nat} {L : List Rk} (h : AllAt W g n k L) {i j : Nat} (hi : i < n) (hj : j < 7) : (∃ u, W.cell? ⟨g, i * 7 + j, none⟩ = some u) ∧ W.frozen? ⟨g, i * 7 + j, none⟩ = false := by
  obtain ⟨cur, h1, h2⟩ := h.row
  have : i * 7 + j < cur.size := by omega
  exact ⟨⟨cur[i * 7 + j], by rw [cell_of_row W g _ cur 52 (0, 0) h1]; simp [this]⟩, frozen_of_row W g _ _ 52 h1⟩
def zk7 (n : Nat) : Array Value := madeCells #[.int .i64 0, .int .i64 0, .int .i64 0, .int .i64 0, .int .i64 0, .int .i64 0, .int .i64 0] (n * 7)
theorem make7 (n : Nat) (hn : n ≤ 5000) (W : World) : (Instr.makeSlice 46 (.int .i64 (n : Int)) (.int .i64 (n : Int))).run Try.prog W = .ok (.slice (some ⟨W.heap.size, 0, none⟩) n n) (W.alloc (.cells (zk7 n) 52)) := by
  obtain ⟨i0, hi0, hz0, hz1, hz2⟩ := info_parts info52
  have hr := run_makeSlice (P := Try.prog) W 46 52 i0 _ Try.underlying46 hi0 hz0 .i64 .i64 n n (by omega) (Int.le_refl _) (by rw [hz1]; omega) (by rw [hz2]; omega) (by omega)
  simp only [Int.toNat_natCast] at hr
  rw [hr, hz1]
  rfl
theorem AllAt.made (W : World) (n : Nat) (L : List Rk) : AllAt (W.alloc (.cells (zk7 n) 52)) W.heap.size n 0 L :=
  ⟨⟨zk7 n, heap_alloc_new W _, size_madeCells _ _⟩, Nat.zero_le _, fun i hi h => absurd h (by omega)⟩
theorem rank_any (w : World) (v : Value) (l : List Cd) (hv : Cs w v l) (hl : l.length < 4000) : Calls Try.prog 17 #[v] w (RankPost w l) := by
  obtain ⟨A, c, rfl, hA⟩ := hv
  have HA := Lib.hid hA
  have hmk := make7 l.length (by omega) w
  obtain ⟨w1, hw1⟩ : ∃ w1 : World, w1 = w.alloc (.cells (zk7 l.length) 52) := ⟨_, rfl⟩
  rw [← hw1] at hmk
  have HALL : Hid (AllAt w1 w.heap.size l.length 0 (rkL l)) := by rw [hw1]; exact AllAt.made w l.length (rkL l)
  have HB1 : Hid (Below w.heap.size w w1) := by rw [hw1]; exact (Below.refl _ _).alloc (Nat.le_refl _) _
  have hs1 : w1.heap.size = w.heap.size + 1 := by rw [hw1]; simp
  have HS1 := Lib.hid hs1
  have hlz : (l.length : Int) < 4000 := by omega
  clear hA hs1 hw1
  obtain ⟨g, hg⟩ : ∃ g, g = w.heap.size := ⟨_, rfl⟩
  rw [← hg] at hmk HALL
  have HG := Lib.hid hg
  clear hg
  go_enter Try.func17, Try.ntmps17
  go_wp2
  go_loopw [13] (fun i wr => ∃ k : Nat, k ≤ l.length ∧ i = .int .i64 k ∧ Hid (AllAt wr g l.length k (rkL l)) ∧ Hid (Below w.heap.size w wr) ∧ Hid (w1.heap.size ≤ wr.heap.size) ∧ Hid (∀ i (h : i < l.length), i < k → l[i].ok)) (fun i _ => l.length - (RowKit.intOf i).toNat)
  case atStart => exact ⟨0, Nat.zero_le _, rfl, HALL, HB1, Nat.le_refl _, fun i h h2 => absurd h2 (by omega)⟩
  case round =>
    clear hmk
    obtain ⟨k, hk, rfl, HR, HB, HS, HOK⟩ := hrel
    have hkz : (k : Int) ≤ (l.length : Int) := by omega
    by_cases hlt : k < l.length
    · have hltz : (k : Int) < (l.length : Int) := by omega
      obtain ⟨ga, o, rfl, hga, hc⟩ := HA.out (by omega)
      have hco := (hc k hlt).below HB.out hga
      obtain ⟨x, hx⟩ : ∃ x, x = l[k] := ⟨_, rfl⟩
      rw [← hx] at hco
      have HX := Lib.hid hx
      clear hx hc
      have c0 := hco.c0; have c1 := hco.c1; have c2 := hco.c2; have c3 := hco.c3
      have HV : Hid (∀ W, Calls Try.prog 25 #[x.v] W (Ret W (.bool (decide x.ok)))) := fun W => isValid_any x W
      have HBX : Hid (CdAt (wr.alloc (.cells #[.int .i64 x.bl, .int .i64 x.va, .int .i64 x.pa, .int .i64 x.ag] 23)) wr.heap.size x) := CdAt.new wr x 23
      obtain ⟨w2, hw2⟩ : ∃ w2 : World, w2 = wr.alloc (.cells #[.int .i64 x.bl, .int .i64 x.va, .int .i64 x.pa, .int .i64 x.ag] 23) := ⟨_, rfl⟩
      rw [← hw2] at HBX
      have HB2 : Hid (Below wr.heap.size wr w2) := by rw [hw2]; exact (Below.refl _ _).alloc (Nat.le_refl _) _
      have HW2 := Lib.hid hw2
      clear hw2 hco
      by_cases hok : x.ok
      · rw [decide_eq_true hok] at HV
        have HSC : Hid (∀ W, Calls Try.prog 26 #[x.v] W (Ret W (.agg #[.int .i64 x.num, .int .i64 x.den]))) := fun W => scoreOf_any x hok W
        have HOK2 := Lib.hid hok
        clear hok
        obtain ⟨x0, hx0⟩ : ∃ x0, x0 = x := ⟨_, rfl⟩
        rw [← hx0] at HX HOK2
        have HX0 := Lib.hid hx0
        clear hx0
        obtain ⟨bl, va, pa, ag⟩ := x
        generalize hn : Cd.num ⟨bl, va, pa, ag⟩ = nn at *
        generalize hd : Cd.den ⟨bl, va, pa, ag⟩ = dd at *
        have HND : Hid (Cd.num ⟨bl, va, pa, ag⟩ = nn ∧ Cd.den ⟨bl, va, pa, ag⟩ = dd) := ⟨hn, hd⟩
        simp only [Cd.v] at *
        clear hn hd
        go_upto_region 7 with (go_at_call 25; rw [← HW2.out]; (with_reducible refine (HV.out _).mono ?_); rintro e w3 ⟨rfl, hg3⟩; have HG3 := Lib.hid hg3; clear hg3)
        have hr3 := (HR.out.below HB2.out HR.out.lt).below HG3.out.below (by have := HR.out.lt; have := HB2.out.size; omega)
        have HR3 := Lib.hid hr3
        have hb3 := HBX.out.gr HG3.out
        have hne := gw_ne w3
        have d0 := fun r : Gw w3 => (hb3.gr r.h).c0
        have d1 := fun r : Gw w3 => (hb3.gr r.h).c1
        have d2 := fun r : Gw w3 => (hb3.gr r.h).c2
        have d3 := fun r : Gw w3 => (hb3.gr r.h).c3
        clear hr3 hb3 c0 c1 c2 c3
        refine wp_region_gw_tail 7 (by kernel_rfl) (by kernel_rfl) ?_
        simp only [List.take_succ_cons, List.take_zero, List.drop_succ_cons, List.drop_zero]
        repeat (go_big_quiet_step ((go_at_call 26; exact gw_of _ (HSC.out _))))
        refine wpQuiet_nil ?_
        rintro w4 ⟨⟨_, hg4⟩, rfl⟩
        have hr4 := HR3.out.below hg4.below (by have := HR3.out.lt; omega)
        obtain ⟨⟨u0, s0⟩, z0⟩ := hr4.slot (j := 0) hlt (by omega)
        obtain ⟨⟨u1, s1⟩, z1⟩ := hr4.slot (j := 1) hlt (by omega)
        obtain ⟨⟨u2, s2⟩, z2⟩ := hr4.slot (j := 2) hlt (by omega)
        obtain ⟨⟨u3, s3⟩, z3⟩ := hr4.slot (j := 3) hlt (by omega)
        obtain ⟨⟨u4, s4⟩, z4⟩ := hr4.slot (j := 4) hlt (by omega)
        obtain ⟨⟨u5, s5⟩, z5⟩ := hr4.slot (j := 5) hlt (by omega)
        obtain ⟨⟨u6, s6⟩, z6⟩ := hr4.slot (j := 6) hlt (by omega)
        simp only [Nat.add_zero] at s0 z0
        have HR4 := Lib.hid hr4
        have HG4 := Lib.hid hg4
        clear hr4 hg4 d0 d1 d2 d3 hne
        have hgB : w.heap.size ≤ g := by rw [HG.out]; exact Nat.le_refl _
        have hk4 : k < (rkL l).length := by rw [rkL_length]; exact hlt
        have hcells : (rkL l)[k].cells = [.int .i64 bl, .int .i64 va, .int .i64 pa, .int .i64 ag, .int .i64 (k : Int), .int .i64 nn, .int .i64 dd] := by
          rw [rkL_at l k hlt, ← HX.out, HX0.out]
          unfold Rk.cells
          rw [← HND.out.1, ← HND.out.2]
        have hput := HR4.out.put hk4 (by rw [rkL_length]; exact Nat.le_refl _)
        have hbel := (HB.out.trans ((HB2.out.trans ((HG3.out.below.trans (HG4.out.below.mono HG3.out.below.size)).mono HB2.out.size)).mono HB.out.size))
        have hput2 := setCells_below hgB (rkL l)[k].cells (k * 7) w _ hbel
        have hsz : (w4.setCells g (k * 7) (rkL l)[k].cells).heap.size = w4.heap.size := setCells_size _ _ _
        have hsz2 : w1.heap.size ≤ w4.heap.size := by have := HS.out; have := HB2.out.size; have := HG3.out.below.size; have := HG4.out.below.size; omega
        rw [hcells] at hput hput2 hsz
        have HPUT := Lib.hid hput
        have HPUT2 := Lib.hid hput2
        have HSZ : Hid (w1.heap.size ≤ (w4.setCells g (k * 7) [.int .i64 bl, .int .i64 va, .int .i64 pa, .int .i64 ag, .int .i64 (k : Int), .int .i64 nn, .int .i64 dd]).heap.size) := by show _ ≤ _; rw [hsz]; exact hsz2
        clear hput hput2 hsz hsz2 hcells hbel hk4 hgB
        go_wp2
        go_roundw
        case rel =>
          refine ⟨k + 1, by omega, by go_num, HPUT.out, HPUT2.out, HSZ.out, fun i h h2 => ?_⟩
          by_cases hik : i < k
          · exact HOK.out i h hik
          · obtain rfl : i = k := by omega
            rw [← HX.out]; exact HOK2.out
        case measure => simp [RowKit.intOf]; omega
      · rw [decide_eq_false hok] at HV
        have hall : ¬ ∀ c ∈ l, c.ok := fun h => hok (by rw [HX.out]; exact h _ (List.getElem_mem hlt))
        have he : errL l = 2 := if_neg hall
        have hr : rankR l = [] := if_neg hall
        have HE := Lib.hid he
        have HRR := Lib.hid hr
        clear hok hall he hr
        obtain ⟨bl, va, pa, ag⟩ := x
        simp only [Cd.v] at *
        go_wp2_with (go_at_call 25; rw [← HW2.out]; (with_reducible refine (HV.out _).mono ?_); rintro e w3 ⟨rfl, hg3⟩; have HG3 := Lib.hid hg3; clear hg3)
        go_ret2
        refine ⟨HB.out.trans ((HB2.out.trans (HG3.out.below.mono HB2.out.size)).mono HB.out.size), .slice none 0 0, by rw [HE.out]; rfl, ?_⟩
        rw [HRR.out]
        exact World.ownsRow_nil _ _ _ _
    · have hkl : k = l.length := by omega
      subst hkl
      have hall : ∀ c ∈ l, c.ok := fun c hc => by
        obtain ⟨i, hi, rfl⟩ := List.getElem_of_mem hc
        exact HOK.out i hi hi
      have hrr : rankR l = usL l := if_pos hall
      have hee : errL l = if usL l = [] then 9 else 0 := if_pos hall
      have hAL : AllAt wr g l.length (rkL l).length (rkL l) := by rw [rkL_length]; exact HR.out
      have hcall := those_any wr g l.length (rkL l) hAL (rkL_length l).symm (by omega)
      have HC := Lib.hid hcall
      have HRR := Lib.hid hrr
      have HEE := Lib.hid hee
      have hul : (usL l).length ≤ l.length := by
        have := useK_le (rkL l) (rkL l).length
        rw [rkL_length] at this
        unfold usL
        rw [rkL_length]
        exact this
      clear hall hrr hee hAL hcall
      go_upto_region 10 with (go_at_call 27; (with_reducible refine HC.out.mono ?_); rintro e w5 ⟨v5, rfl, ho5, hb5⟩; have HO5 := Lib.hid ho5; have HB5 := Lib.hid hb5; clear ho5 hb5)
      by_cases hu : usL l = []
      · have he : errL l = 9 := by rw [HEE.out, if_pos hu]
        have hr : rankR l = [] := by rw [HRR.out, hu]
        rcases HO5.out with ⟨h1, a, rfl⟩ | ⟨h1, h2⟩
        · have HE := Lib.hid he
          have HR2 := Lib.hid hr
          clear he hr h1 hu
          go_wp2
          go_ret2
          refine ⟨HB.out.trans (HB5.out.mono HB.out.size), .slice none 0 0, by rw [HE.out]; rfl, ?_⟩
          rw [HR2.out]
          exact World.ownsRow_nil _ _ _ _
        · exact absurd hu h1
      · have he : errL l = 0 := by rw [HEE.out, if_neg hu]
        rcases HO5.out with ⟨h1, a, rfl⟩ | ⟨h1, h2⟩
        · exact absurd h1 hu
        · have hpos : 0 < (usL l).length := List.length_pos_iff.2 hu
          obtain ⟨g5, cap5, hv5⟩ : ∃ g5 cap5, v5 = .slice (some ⟨g5, 0, none⟩) (usL l).length cap5 := by
            rcases h2.2 with ⟨_, h3⟩ | ⟨g5, cap5, cur, h3, _⟩
            · exact absurd h3 (by unfold usL at hpos; omega)
            · exact ⟨g5, cap5, h3⟩
          have HE := Lib.hid he
          have HH2 := Lib.hid h2
          have hul2 : ((usL l).length : Int) < 4000 := by omega
          have hpz : (0 : Int) < ((usL l).length : Int) := by omega
          obtain ⟨m, hm⟩ : ∃ m, m = (usL l).length := ⟨_, rfl⟩
          rw [← hm] at hv5 hpos hul2 hpz
          have HM := Lib.hid hm
          subst hv5
          clear he h1 h2 hu hm HO5 hul
          go_wp2
          go_ret2
          refine ⟨HB.out.trans (HB5.out.mono HB.out.size), _, by rw [HE.out]; rfl, ?_⟩
          rw [HRR.out]
          have h5 := HH2.out
          rcases h5.2 with ⟨h6, _⟩ | ⟨g6, cap6, cur6, h6, h7, h8⟩
          · cases h6
          · exact ⟨h5.1, .inr ⟨g6, cap6, cur6, h6, Nat.le_trans HB.out.size h7, h8⟩⟩
end Go.Proofs.Ytfcddkehodceaaa
