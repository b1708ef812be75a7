/- The contract of Record. Conditions stand in each theorem. -/
import Derived.Test.YtajlddgemkkcdaaR
import Derived.Deep.MidRow
namespace Go.Proofs.Ytajlddgemkkcdaa
open Go.RowKit
set_option linter.unusedVariables false
set_option maxHeartbeats 4000000
set_option maxRecDepth 100000
theorem Ent.keepB {w w' : World} {v : Value} {l : List (Int × Int)} (h : Ent w v l) (hs : w.heap.size ≤ w'.heap.size) (hk : ∀ b, v.ownBlock = some b → ∀ j, w'.cell? ⟨b, j, none⟩ = w.cell? ⟨b, j, none⟩) : Ent w' v l := by
  obtain ⟨A, c, rfl, hc, hr⟩ := h
  refine ⟨A, c, rfl, hc, fun h0 => ?_⟩
  obtain ⟨g, o, rfl, hg, hcell⟩ := hr h0
  refine ⟨g, o, rfl, by omega, fun j hj => ?_⟩
  obtain ⟨a1, a2⟩ := hcell j hj
  exact ⟨(hk g rfl _).trans a1, (hk g rfl _).trans a2⟩
theorem belowCells {B : Nat} {a : World} (G : Nat) (hG : B ≤ G) : ∀ (vs : List Value) (o : Nat) (w : World), Below B a w → Below B a (w.setCells G o vs)
  | [], _, _, h => h
  | v :: r, o, w, h => by
    rw [World.setCells]
    exact belowCells G hG r (o + 1) _ (h.setCell hG v)
/-- Pages of a record in memory. -/
def RecR (W : World) (v : Value) (L : List Pg) (Q : List (Spr × List (Int × Int))) : Prop := Pgs W v L ∧ L.map (fun x => (x.s, x.es)) = Q ∧ ∀ x ∈ L, Ent W x.ev x.es
/-- What Record leaves. -/
def RcPost (w : World) (b : Bool) (Q : List (Spr × List (Int × Int))) (e : Ending) (w' : World) : Prop :=
  (if b = true then ∃ v L, e = .returned (.tuple #[v, .int .i64 0]) ∧ RecR w' v L Q ∧ FrB w.heap.size v ∧ ∀ x ∈ L, FrB w.heap.size x.ev else e = .returned (.tuple #[.slice none 0 0, .int .i64 2])) ∧ Below w.heap.size w w'
/-- The pages that have been stored. -/
structure RcS (wr : World) (G N : Nat) (L : List Pg) (Q : List (Spr × List (Int × Int))) : Prop where
  map : L.map (fun x => (x.s, x.es)) = Q
  at_ : ∀ j (h : j < L.length), PgAt wr G (j * 7) L[j]
  ent : ∀ x ∈ L, Ent wr x.ev x.es ∧ FrB (G + 1) x.ev
  room : wr.there G 0 (N * 7)
  lt : G < wr.heap.size
theorem RcS.below {wr w1 : World} {G N : Nat} {L : List Pg} {Q : List (Spr × List (Int × Int))} (h : RcS wr G N L Q) (hb : Below wr.heap.size wr w1) : RcS w1 G N L Q :=
  ⟨h.map, fun j hj => (h.at_ j hj).keep fun i => hb.cell (p := ⟨G, i, none⟩) h.lt, fun x hx => ⟨(h.ent x hx).1.below hb, (h.ent x hx).2⟩,
    fun j hj => ⟨by rw [hb.cell (p := ⟨G, 0 + j, none⟩) h.lt]; exact (h.room j hj).1, by rw [hb.frozen (p := ⟨G, 0 + j, none⟩) h.lt]; exact (h.room j hj).2⟩, Nat.lt_of_lt_of_le h.lt hb.size⟩
theorem RcS.at' {wr : World} {G N : Nat} {L : List Pg} {Q : List (Spr × List (Int × Int))} (h : RcS wr G N L Q) {k : Nat} (hk : k < N) : wr.there G (k * 7) 7 := fun j hj => by
  have := h.room (k * 7 + j) (by omega)
  rwa [Nat.zero_add] at this
theorem RcS.store {wr : World} {G N : Nat} {L : List Pg} {Q : List (Spr × List (Int × Int))} (h : RcS wr G N L Q) (x : Pg) (hx : Ent wr x.ev x.es) (hf : FrB (G + 1) x.ev) (hk : L.length < N) :
    RcS (wr.setCells G (L.length * 7) x.row.toList) G N (L ++ [x]) (Q ++ [(x.s, x.es)]) := by
  have hb := belowCells (a := wr) G (Nat.le_refl G) x.row.toList (L.length * 7) wr (Below.refl _ _)
  have hth := h.at' hk
  have hin := fun j hj => World.cell?_setCells_in G x.row.toList (L.length * 7) wr (fun i hi => (hth i (by simpa using hi)).1) j hj
  refine ⟨by rw [List.map_append, h.map]; rfl, fun j hj => ?_, fun y hy => ?_, World.there_setCells h.room _ _ _, Nat.lt_of_lt_of_le h.lt hb.size⟩
  · by_cases hjl : j < L.length
    · rw [List.getElem_append_left hjl]
      have ho : ∀ i, i < L.length * 7 → (wr.setCells G (L.length * 7) x.row.toList).cell? ⟨G, i, none⟩ = wr.cell? ⟨G, i, none⟩ := fun i hi => World.cell?_setCells_out G _ _ _ _ (fun _ _ => .inl hi)
      have a := h.at_ j hjl
      exact ⟨(ho _ (by omega)).trans a.c0, (ho _ (by omega)).trans a.c1, (ho _ (by omega)).trans a.c2, (ho _ (by omega)).trans a.c3, (ho _ (by omega)).trans a.c4, (ho _ (by omega)).trans a.c5, (ho _ (by omega)).trans a.c6⟩
    · obtain rfl : j = L.length := by simp at hj; omega
      rw [List.getElem_append_right (Nat.le_refl _)]
      simp only [Nat.sub_self, List.getElem_cons_zero]
      exact ⟨hin 0 (by simp), hin 1 (by simp), hin 2 (by simp), hin 3 (by simp), hin 4 (by simp), hin 5 (by simp), hin 6 (by simp)⟩
  · have hsz := hb.size
    have ho : ∀ b, G + 1 ≤ b → ∀ j, (wr.setCells G (L.length * 7) x.row.toList).cell? ⟨b, j, none⟩ = wr.cell? ⟨b, j, none⟩ := fun b hb2 j => World.cell?_setCells_out G _ _ _ _ (fun e _ => by simp at e; omega)
    rcases List.mem_append.1 hy with hy | hy
    · exact ⟨(h.ent y hy).1.keepB hsz (fun b hb2 j => ho b ((h.ent y hy).2 b hb2) j), (h.ent y hy).2⟩
    · obtain rfl := List.mem_singleton.1 hy
      exact ⟨hx.keepB hsz (fun b hb2 j => ho b (hf b hb2) j), hf⟩
theorem info46 : (Try.prog.info? 46).map (fun i => (i.zero, i.size, i.bytes)) = some (some (.agg #[.int .u8 0, .int .i64 0, .int .u64 0, .int .u64 0, .int .i64 0, .int .i64 0, .slice none 0 0]), 7, 72) := by kernel_rfl
theorem size46 : (Try.prog.info? 46).map (·.size) = some 7 := by kernel_rfl
theorem make_pages (n : Nat) (hn : n ≤ 100000) : ∃ C : Array Value, C.size = n * 7 ∧ ∀ W : World, (Instr.makeSlice 35 (.int .i64 (n : Int)) (.int .i64 (n : Int))).run Try.prog W = .ok (.slice (some ⟨W.heap.size, 0, none⟩) n n) (W.alloc (.cells C 46)) := by
  obtain ⟨i0, hi0, hz0, hz1, hz2⟩ := info_parts8 info46
  refine ⟨madeCells (Value.agg #[.int .u8 0, .int .i64 0, .int .u64 0, .int .u64 0, .int .i64 0, .int .i64 0, .slice none 0 0]).cells (n * 7), size_madeCells _ _, fun W => ?_⟩
  · have hr := run_makeSlice (P := Try.prog) W 35 46 i0 _ Try.underlying35 hi0 hz0 .i64 .i64 n n (by omega) (Int.le_refl _) (by rw [hz1]; omega) (by rw [hz2]; omega) (by omega)
    simp only [Int.toNat_natCast, hz1] at hr
    exact hr
theorem RcS.new (W : World) (C : Array Value) (n : Nat) (hC : C.size = n * 7) : RcS (W.alloc (.cells C 46)) W.heap.size n [] [] := by
  refine ⟨rfl, fun j hj => absurd hj (by simp), fun x hx => absurd hx (by simp), fun j hj => ?_, by simp⟩
  have h := heap_alloc_new W (.cells C 46)
  rw [cell_of_row _ _ _ _ _ _ h]
  refine ⟨?_, by unfold World.frozen?; simp only [h]; simp⟩
  rw [Nat.zero_add, Array.getElem?_eq_getElem (by omega)]
  rfl
theorem chnk_len (c : Nat) (l : List (Int × Int)) (i : Nat) : (chnk c l i).length = min (l.length - c * i) c := by
  unfold chnk
  rw [List.length_take, List.length_drop]
  omega
theorem chnk_take (c : Nat) (l : List (Int × Int)) (i m : Nat) (h : m = min (l.length - c * i) c) : (l.drop (c * i)).take m = chnk c l i := by
  unfold chnk
  subst h
  by_cases h1 : l.length - c * i ≤ c
  · rw [Nat.min_eq_left h1, List.take_of_length_le (by simp), List.take_of_length_le (by simpa using h1)]
  · rw [Nat.min_eq_right (by omega)]
theorem chnk_drop (c : Nat) (l : List (Int × Int)) (i m : Nat) (h : m = min (l.length - c * i) c) : (l.drop (c * i)).drop m = l.drop (c * (i + 1)) := by
  rw [List.drop_drop, Nat.mul_succ]
  subst h
  by_cases h1 : l.length - c * i ≤ c
  · rw [Nat.min_eq_left h1, List.drop_of_length_le (by omega), List.drop_of_length_le (by omega)]
  · rw [Nat.min_eq_right (by omega)]
theorem recQ_length (k first prev : Int) (c n : Nat) (l : List (Int × Int)) (j : Nat) : (recQ k first prev c n l j).length = j := by simp [recQ]
/-- The number of pages of a record. -/
def recN (size : Int) (l : List (Int × Int)) : Nat := (pgsF size (l.length : Int)).toNat
theorem recN_facts (size : Int) (l : List (Int × Int)) (h : capF size ≠ 0) (hl : l.length ≤ 1000) : ∃ c : Nat, capF size = (c : Int) ∧ 1 ≤ c ∧ c ≤ 1023 ∧ pgsF size (l.length : Int) = (recN size l : Int) ∧ recN size l ≤ 1001 ∧ ∀ i, i < recN size l → c * i ≤ l.length := by
  obtain ⟨h0, h1⟩ := capF_rng size
  obtain ⟨c, hc⟩ : ∃ c : Nat, capF size = (c : Int) := ⟨(capF size).toNat, by omega⟩
  have hp : pgsF size (l.length : Int) = if (l.length : Int) = 0 then 1 else ((l.length : Int) - 1) / (c : Int) + 1 := by
    unfold pgsF
    rw [if_neg (by omega), hc]
  have hc0 : (0 : Int) < (c : Int) := by omega
  refine ⟨c, hc, by omega, by omega, ?_⟩
  unfold recN
  rw [hp]
  by_cases e : (l.length : Int) = 0
  · rw [if_pos e]
    refine ⟨rfl, by decide, fun i hi => ?_⟩
    have : i = 0 := by simpa using hi
    subst this
    simp
  · rw [if_neg e]
    have hd0 : 0 ≤ ((l.length : Int) - 1) / (c : Int) := Int.ediv_nonneg (by omega) (by omega)
    have hd1 : ((l.length : Int) - 1) / (c : Int) ≤ (l.length : Int) - 1 := Int.ediv_le_self _ (by omega)
    refine ⟨by omega, by omega, fun i hi => ?_⟩
    have hi' : (i : Int) ≤ ((l.length : Int) - 1) / (c : Int) := by omega
    have := (Int.le_ediv_iff_mul_le hc0).1 hi'
    have e2 : ((c * i : Nat) : Int) = (i : Int) * (c : Int) := by rw [Int.natCast_mul, Int.mul_comm]
    omega
theorem record_any (k size first prev : Int) (A : Option Addr) (c0 : Nat) (l : List (Int × Int)) (w : World) (h : Ent w (.slice A l.length c0) l) (hl : l.length ≤ 1000) (hf : 0 ≤ first) (hp : 0 ≤ prev) :
    Calls Try.prog 15 #[.int .u8 k, .int .i64 size, .int .u64 first, .int .u64 prev, .slice A l.length c0] w (RcPost w (recB k size first prev l) (recQ k first prev (capF size).toNat (recN size l) l (recN size l))) := by
  have HL := Lib.hid h
  have HK := Lib.hid (fun W => isKind_any k W)
  have HC := Lib.hid (fun W => cap_any size W)
  have HV := Lib.hid (fun (W : World) (hW : Below w.heap.size w W) => areValid_any _ l W (h.below hW) (by omega))
  have HP := Lib.hid (fun W => pages_any size (l.length : Int) (by unfold I64; omega) W)
  have hli : (l.length : Int) ≤ 1000 := by omega
  by_cases h1 : kdB k = true
  case neg =>
    have h1f : kdB k = false := by cases e : kdB k <;> simp_all
    rw [h1f] at HK
    have hno : recB k size first prev l = false := by unfold recB; exact decide_eq_false (fun h => h1 h.1.1.1.1.1)
    rw [hno]
    clear HL h
    go_enter Try.func15, Try.ntmps15
    go_wp2_with (first
      | ((go_at_call 29; with_reducible refine (HK.out _).mono ?_); rintro e w1 ⟨rfl, hg⟩; have HB1 := Lib.hid hg.below; clear hg)
      | ((go_at_call 11; with_reducible refine (HC.out _).mono ?_); rintro e w2 ⟨rfl, hg⟩; have HB2 := Lib.hid (HB1.out.trans (hg.below.mono HB1.out.size)); clear hg)
      | ((go_at_call 23; with_reducible refine (HV.out _ HB2.out).mono ?_); rintro e w3 ⟨rfl, hg⟩; have HB3 := Lib.hid (HB2.out.trans (hg.below.mono HB2.out.size)); clear hg)
      | ((go_at_call 13; with_reducible refine (HP.out _).mono ?_); rintro e w4 ⟨rfl, hg⟩; have HB4 := Lib.hid (HB3.out.trans (hg.below.mono HB3.out.size)); clear hg))
    go_ret2
    exact ⟨by rw [if_neg (by decide)]; rfl, HB1.out⟩
  rw [h1] at HK
  by_cases h2 : first = 0
  · subst h2
    have hno : recB k size 0 prev l = false := by unfold recB; exact decide_eq_false (fun h => h.1.1.1.1.2 rfl)
    rw [hno]
    clear HL h
    go_enter Try.func15, Try.ntmps15
    go_wp2_with (first
      | ((go_at_call 29; with_reducible refine (HK.out _).mono ?_); rintro e w1 ⟨rfl, hg⟩; have HB1 := Lib.hid hg.below; clear hg)
      | ((go_at_call 11; with_reducible refine (HC.out _).mono ?_); rintro e w2 ⟨rfl, hg⟩; have HB2 := Lib.hid (HB1.out.trans (hg.below.mono HB1.out.size)); clear hg)
      | ((go_at_call 23; with_reducible refine (HV.out _ HB2.out).mono ?_); rintro e w3 ⟨rfl, hg⟩; have HB3 := Lib.hid (HB2.out.trans (hg.below.mono HB2.out.size)); clear hg)
      | ((go_at_call 13; with_reducible refine (HP.out _).mono ?_); rintro e w4 ⟨rfl, hg⟩; have HB4 := Lib.hid (HB3.out.trans (hg.below.mono HB3.out.size)); clear hg))
    go_ret2
    exact ⟨by rw [if_neg (by decide)]; rfl, HB1.out⟩
  have h2b : (first == 0) = false := by simpa using h2
  by_cases h3 : first ≤ 9223372036854775808
  case neg =>
    have h3z : decide ((9223372036854775808 : Int) < first) = true := by simp; omega
    have hno : recB k size first prev l = false := by unfold recB; exact decide_eq_false (fun h => h3 h.1.1.1.2)
    rw [hno]
    clear HL h
    go_enter Try.func15, Try.ntmps15
    go_wp2_with (first
      | ((go_at_call 29; with_reducible refine (HK.out _).mono ?_); rintro e w1 ⟨rfl, hg⟩; have HB1 := Lib.hid hg.below; clear hg)
      | ((go_at_call 11; with_reducible refine (HC.out _).mono ?_); rintro e w2 ⟨rfl, hg⟩; have HB2 := Lib.hid (HB1.out.trans (hg.below.mono HB1.out.size)); clear hg)
      | ((go_at_call 23; with_reducible refine (HV.out _ HB2.out).mono ?_); rintro e w3 ⟨rfl, hg⟩; have HB3 := Lib.hid (HB2.out.trans (hg.below.mono HB2.out.size)); clear hg)
      | ((go_at_call 13; with_reducible refine (HP.out _).mono ?_); rintro e w4 ⟨rfl, hg⟩; have HB4 := Lib.hid (HB3.out.trans (hg.below.mono HB3.out.size)); clear hg))
    go_ret2
    exact ⟨by rw [if_neg (by decide)]; rfl, HB1.out⟩
  have h3b : decide ((9223372036854775808 : Int) < first) = false := by simp; omega
  by_cases h4 : prev < first
  case neg =>
    have h4z : decide (first ≤ prev) = true := by simp; omega
    have hno : recB k size first prev l = false := by unfold recB; exact decide_eq_false (fun h => h4 h.1.1.2)
    rw [hno]
    clear HL h
    go_enter Try.func15, Try.ntmps15
    go_wp2_with (first
      | ((go_at_call 29; with_reducible refine (HK.out _).mono ?_); rintro e w1 ⟨rfl, hg⟩; have HB1 := Lib.hid hg.below; clear hg)
      | ((go_at_call 11; with_reducible refine (HC.out _).mono ?_); rintro e w2 ⟨rfl, hg⟩; have HB2 := Lib.hid (HB1.out.trans (hg.below.mono HB1.out.size)); clear hg)
      | ((go_at_call 23; with_reducible refine (HV.out _ HB2.out).mono ?_); rintro e w3 ⟨rfl, hg⟩; have HB3 := Lib.hid (HB2.out.trans (hg.below.mono HB2.out.size)); clear hg)
      | ((go_at_call 13; with_reducible refine (HP.out _).mono ?_); rintro e w4 ⟨rfl, hg⟩; have HB4 := Lib.hid (HB3.out.trans (hg.below.mono HB3.out.size)); clear hg))
    go_ret2
    exact ⟨by rw [if_neg (by decide)]; rfl, HB1.out⟩
  have h4b : decide (first ≤ prev) = false := by simp; omega
  by_cases h5 : capF size = 0
  · rw [h5] at HC
    have hno : recB k size first prev l = false := by unfold recB; exact decide_eq_false (fun h => h.1.2 h5)
    rw [hno]
    clear HL h
    go_enter Try.func15, Try.ntmps15
    go_wp2_with (first
      | ((go_at_call 29; with_reducible refine (HK.out _).mono ?_); rintro e w1 ⟨rfl, hg⟩; have HB1 := Lib.hid hg.below; clear hg)
      | ((go_at_call 11; with_reducible refine (HC.out _).mono ?_); rintro e w2 ⟨rfl, hg⟩; have HB2 := Lib.hid (HB1.out.trans (hg.below.mono HB1.out.size)); clear hg)
      | ((go_at_call 23; with_reducible refine (HV.out _ HB2.out).mono ?_); rintro e w3 ⟨rfl, hg⟩; have HB3 := Lib.hid (HB2.out.trans (hg.below.mono HB2.out.size)); clear hg)
      | ((go_at_call 13; with_reducible refine (HP.out _).mono ?_); rintro e w4 ⟨rfl, hg⟩; have HB4 := Lib.hid (HB3.out.trans (hg.below.mono HB3.out.size)); clear hg))
    go_ret2
    exact ⟨by rw [if_neg (by decide)]; rfl, HB2.out⟩
  by_cases h6 : allB l = true
  case neg =>
    have h6f : allB l = false := by cases e : allB l <;> simp_all
    rw [h6f] at HV
    have h5' : (capF size == 0) = false := by simpa using h5
    have h5'' := capF_rng size
    generalize hcf : capF size = cf at HC h5'
    have hno : recB k size first prev l = false := by unfold recB; exact decide_eq_false (fun h => h6 h.2)
    rw [hno]
    clear HL h
    go_enter Try.func15, Try.ntmps15
    go_wp2_with (first
      | ((go_at_call 29; with_reducible refine (HK.out _).mono ?_); rintro e w1 ⟨rfl, hg⟩; have HB1 := Lib.hid hg.below; clear hg)
      | ((go_at_call 11; with_reducible refine (HC.out _).mono ?_); rintro e w2 ⟨rfl, hg⟩; have HB2 := Lib.hid (HB1.out.trans (hg.below.mono HB1.out.size)); clear hg)
      | ((go_at_call 23; with_reducible refine (HV.out _ HB2.out).mono ?_); rintro e w3 ⟨rfl, hg⟩; have HB3 := Lib.hid (HB2.out.trans (hg.below.mono HB2.out.size)); clear hg)
      | ((go_at_call 13; with_reducible refine (HP.out _).mono ?_); rintro e w4 ⟨rfl, hg⟩; have HB4 := Lib.hid (HB3.out.trans (hg.below.mono HB3.out.size)); clear hg))
    go_ret2
    exact ⟨by rw [if_neg (by decide)]; rfl, HB3.out⟩
  have hyes : recB k size first prev l = true := by unfold recB; exact decide_eq_true ⟨⟨⟨⟨⟨h1, h2⟩, h3⟩, h4⟩, h5⟩, h6⟩
  rw [hyes]
  rw [h6] at HV
  obtain ⟨c, hc, hc1, hc2, hN, hN1, hNi⟩ := recN_facts size l h5 hl
  rw [hc] at HC ⊢
  rw [hN] at HP
  rw [Int.toNat_natCast]
  have h5' : ((c : Int) == 0) = false := by simp; omega
  generalize recN size l = N at *
  have hNz : decide ((65535 : Int) < (N : Int)) = false := by simp; omega
  have hfi : first ≤ 9223372036854775808 := h3
  obtain ⟨C, hC, hmk⟩ := make_pages N (by omega)
  have HNI := Lib.hid hNi
  have HC0 := Lib.hid hC
  clear hyes hc hN hNi h1 h2 h3 h4 h5 h6 hC h
  go_enter Try.func15, Try.ntmps15
  go_upto_region 6 with (first
      | ((go_at_call 29; with_reducible refine (HK.out _).mono ?_); rintro e w1 ⟨rfl, hg⟩; have HB1 := Lib.hid hg.below; clear hg)
      | ((go_at_call 11; with_reducible refine (HC.out _).mono ?_); rintro e w2 ⟨rfl, hg⟩; have HB2 := Lib.hid (HB1.out.trans (hg.below.mono HB1.out.size)); clear hg)
      | ((go_at_call 23; with_reducible refine (HV.out _ HB2.out).mono ?_); rintro e w3 ⟨rfl, hg⟩; have HB3 := Lib.hid (HB2.out.trans (hg.below.mono HB2.out.size)); clear hg)
      | ((go_at_call 13; with_reducible refine (HP.out _).mono ?_); rintro e w4 ⟨rfl, hg⟩; have HB4 := Lib.hid (HB3.out.trans (hg.below.mono HB3.out.size)); clear hg))
  have hs0 := RcS.new w4 C N HC0.out
  have hb0 : Below w.heap.size w (w4.alloc (.cells C 46)) := HB4.out.alloc HB4.out.size _
  have HG0 : Hid (w.heap.size ≤ w4.heap.size) := Lib.hid HB4.out.size
  go_upto_region 8 with fail
  obtain ⟨G, hG⟩ : ∃ G, G = w4.heap.size := ⟨_, rfl⟩
  rw [← hG] at hs0 HG0 ⊢
  obtain ⟨W0, hW0⟩ : ∃ W0, W0 = w4.alloc (.cells C 46) := ⟨_, rfl⟩
  rw [← hW0] at hs0 hb0 ⊢
  clear hW0 hmk hG
  have HS0 := Lib.hid hs0
  have HB0 := Lib.hid hb0
  clear hs0 hb0 HB1 HB2 HB3 HB4 HK HV HP HC0
  have hN0 : (N : Int) ≤ 1001 := by omega
  go_loopw [4, 52] (fun v i wr => ∃ (j : Nat) (A1 : Option Addr) (c1 : Nat) (L : List Pg), j ≤ N ∧ i = .int .i64 j ∧ v = .slice A1 (l.drop (c * j)).length c1 ∧ Hid (Ent w (.slice A1 (l.drop (c * j)).length c1) (l.drop (c * j))) ∧ Hid (RcS wr G N L (recQ k first prev c N l j)) ∧ Hid (Below w.heap.size w wr)) (fun _ i _ => N - (RowKit.intOf i).toNat)
  case atStart => exact ⟨0, A, c0, [], Nat.zero_le _, rfl, by simp, Lib.hid (by simpa using HL.out), HS0, HB0⟩
  case round =>
    obtain ⟨j, A1, c1, L, hj, rfl, rfl, HE, HS, HB⟩ := hrel
    clear HS0 HB0
    by_cases hlt : j < N
    · have hci := HNI.out j hlt
      have hcap : (l.drop (c * j)).length ≤ c1 := by
        obtain ⟨A', c', e, h2, _⟩ := HE.out
        injection e with _ _ e3
        rw [e3]
        exact h2
      have hq := recQ_succ k first prev c N l j
      have HQ := Lib.hid hq
      obtain ⟨m, hm⟩ : ∃ m, m = min (l.length - c * j) c := ⟨_, rfl⟩
      have hdl : (l.drop (c * j)).length = l.length - c * j := by simp
      obtain ⟨A2, c2, hrun1, he1⟩ := ent_hm (m := m) HE.out (by omega) hcap
      obtain ⟨A3, c3, hrun2, he2⟩ := ent_l (lo := m) HE.out (by omega) hcap
      rw [chnk_take c l j m hm] at he1
      rw [chnk_drop c l j m hm] at hrun2 he2
      have hcl := chnk_len c l j
      rw [← hm] at hcl
      have hmin : min ((l.drop (c * j)).length : Int) (c : Int) = (m : Int) := by omega
      have HCL : Hid (∀ W, Below w.heap.size w W → Calls Try.prog 30 #[.slice A2 m c2] W (CePost W (chnk c l j))) := Lib.hid (fun W hW => by
        have := eclone_any W (chnk c l j) A2 c2 (by rw [hcl]; exact he1.below hW) (by omega)
        rwa [hcl] at this)
      have HE2 := Lib.hid he2
      have hLj : L.length = j := by
        have h1 := congrArg List.length HS.out.map
        rw [List.length_map, recQ_length] at h1
        exact h1
      have HLJ := Lib.hid hLj
      have HNX : Hid ((l.drop (c * j)).drop m = l.drop (c * (j + 1))) := Lib.hid (chnk_drop c l j m hm)
      have HSP : Hid (sprF k first prev (N : Int) (j : Int) = ⟨k, 0, first + (j : Int), prev, (j : Int), (N : Int)⟩) := Lib.hid rfl
      have hj0 : (0 : Int) ≤ (j : Int) := by omega
      have hj1 : (j : Int) < (N : Int) := by omega
      obtain ⟨ld, hld⟩ : ∃ ld : Nat, ld = (l.drop (c * j)).length := ⟨_, rfl⟩
      obtain ⟨ln, hln⟩ : ∃ ln : Nat, ln = (l.drop (c * (j + 1))).length := ⟨_, rfl⟩
      rw [← hld] at hmin hrun1 hrun2 ⊢
      rw [← hln] at hrun2
      have HLN := Lib.hid hln
      clear he1 he2 hcl hq hdl hci hcap hLj hm hld hln HNI
      go_upto_region 11 with ((go_at_call 11; with_reducible refine (HC.out _).mono ?_); rintro e w5 ⟨rfl, hg⟩; have HB5 := Lib.hid hg.below; clear hg)
      have hbw : Below w.heap.size w w5 := HB.out.trans (HB5.out.mono HB.out.size)
      have hs5 := HS.out.below HB5.out
      have HBW := Lib.hid hbw
      have HS5 := Lib.hid hs5
      have HG5 := Lib.hid hs5.lt
      clear hbw hs5 HS HB HB5
      go_upto_region 12 with (first
        | ((go_at_call 30; with_reducible refine (HCL.out _ HBW.out).mono ?_); rintro e w6 ⟨⟨A4, c4, rfl, hce, hcf⟩, hb6⟩; have HB6 := Lib.hid (HBW.out.trans (hb6.mono HBW.out.size)); have HCE := Lib.hid hce; have HCF : Hid (FrB (G + 1) (.slice A4 (chnk c l j).length c4)) := Lib.hid (fun b hb => Nat.le_trans HG5.out (hcf b hb)); have HS6 := Lib.hid (HS5.out.below hb6); have HTH := Lib.hid (HS6.out.at' hlt); clear hce hcf hb6)
        | (refine wpList_store_mid rfl 46 _ _ rfl G (j * 7) #[.int .u8 k, .int .i64 0, .int .u64 (first + (j : Int)), .int .u64 prev, .int .i64 (j : Int), .int .i64 (N : Int), .slice A4 (chnk c l j).length c4] rfl rfl HTH.out size46 (by simp [Value.oneCell']) ?_))
      have hst := HS6.out.store ⟨⟨k, 0, first + (j : Int), prev, (j : Int), (N : Int)⟩, A4, c4, chnk c l j⟩ HCE.out HCF.out (by rw [HLJ.out]; exact hlt)
      rw [HLJ.out] at hst
      have HST := Lib.hid hst
      have HBS : Hid (Below w.heap.size w (w6.setCells G (j * 7) [.int .u8 k, .int .i64 0, .int .u64 (first + (j : Int)), .int .u64 prev, .int .i64 (j : Int), .int .i64 (N : Int), .slice A4 (chnk c l j).length c4])) := Lib.hid (belowCells G HG0.out _ _ _ HB6.out)
      clear hst HS6 HTH HCE HCF HB6 HS5 HBW HCL
      go_wp2
      go_roundw
      case rel =>
        have hn := HLN.out
        have he := HE2.out
        rw [hn]
        exact ⟨j + 1, A3, c3, L ++ [⟨⟨k, 0, first + (j : Int), prev, (j : Int), (N : Int)⟩, A4, c4, chnk c l j⟩], by omega, by go_num, rfl, Lib.hid he, Lib.hid (by rw [HQ.out]; exact HST.out), HBS⟩
      case measure => simp [RowKit.intOf]; omega
    · obtain rfl : j = N := by omega
      have hpg : RecR wr (.slice (some ⟨G, 0, none⟩) j j) L (recQ k first prev c j l j) := by
        have hs := HS.out
        have hLj : L.length = j := by
          have h1 := congrArg List.length hs.map
          rw [List.length_map, recQ_length] at h1
          exact h1
        refine ⟨⟨_, _, by rw [hLj], by rw [hLj]; exact Nat.le_refl _, fun _ => ⟨G, 0, rfl, hs.lt, fun i hi => by rw [Nat.zero_add]; exact hs.at_ i hi⟩⟩, hs.map, fun x hx => (hs.ent x hx).1⟩
      have HPG := Lib.hid hpg
      have HFR : Hid (∀ x ∈ L, FrB w.heap.size x.ev) := Lib.hid (fun x hx b hb => Nat.le_trans HG0.out (Nat.le_of_succ_le ((HS.out.ent x hx).2 b hb)))
      have HFV : Hid (FrB w.heap.size (.slice (some ⟨G, 0, none⟩) j j)) := Lib.hid (fun b hb => by
        have e : G = b := by simpa [Value.ownBlock] using hb
        rw [← e]
        exact HG0.out)
      clear hpg HS
      go_wp2
      go_ret2
      exact ⟨by rw [if_pos rfl]; exact ⟨_, L, rfl, HPG.out, HFV.out, HFR.out⟩, HB.out⟩
end Go.Proofs.Ytajlddgemkkcdaa
