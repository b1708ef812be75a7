/- Follow. Conditions stand in each theorem. -/
import Derived.Test.YtajlddgemkkcdaaX
namespace Go.Proofs.Ytajlddgemkkcdaa
open Go.RowKit
set_option linter.unusedVariables false
set_option maxHeartbeats 4000000
set_option maxRecDepth 100000
/-- A chain: entries, last number, places. -/
structure Chn where
  en : List (Int × Int)
  la : Int
  us : List Nat
def stepC (l : List Pg) (c : Chn) (x : Cr) : Chn := ⟨c.en ++ entF l x.ps, x.r.f + (x.r.n - 1), c.us ++ x.ps⟩
def foldD (l : List Pg) (c : Chn) : List Cr → Chn
  | [] => c
  | x :: t => if c.la < x.r.p then c else if x.r.p = c.la then foldD l (stepC l c x) t else foldD l c t
def startC (l : List Pg) (m : Option Cr) : Chn := match m with | some x => stepC l ⟨[], 0, []⟩ x | none => ⟨[], 0, []⟩
def NewC (a b : Cr) : Prop := b.r.f < a.r.f ∨ b.r.f = a.r.f ∧ a.e < b.e
def TurnC (a b : Cr) : Prop := a.r.p < b.r.p ∨ a.r.p = b.r.p ∧ NewC a b
/-- The newest checkpoint, if there is one. -/
def MaxC (C : List Cr) (m : Option Cr) : Prop := match m with
  | none => ∀ x ∈ C, x.r.k ≠ 3
  | some x => x ∈ C ∧ x.r.k = 3 ∧ ∀ y ∈ C, y.r.k = 3 → ¬ NewC y x
/-- What Follow leaves. -/
def FoPost (w : World) (l : List Pg) (e : Ending) (w' : World) : Prop :=
  ∃ (C : List Cr) (m : Option Cr) (D : List Cr) (us : List Nat) (ve vu : Value), (C.Perm (recsOf l (keysF l) (List.range (keysF l).length)) ∧ MaxC C m ∧ D.Perm (C.filter fun x => decide (x.r.k = 2)) ∧ D.Pairwise (fun a b => ¬ TurnC b a) ∧ us.Perm (foldD l (startC l m) D).us ∧ us.Pairwise (· ≤ ·)) ∧
    e = .returned (.agg #[ve, .int .u64 (foldD l (startC l m) D).la, vu]) ∧ Ent w' ve (foldD l (startC l m) D).en ∧ Pls w' vu us ∧ Below w.heap.size w w'
theorem crF_facts {l : List Pg} (hl : Okl l) {r : Rec} (hr : r ∈ keysF l) {c : Cr} (h : crF l r = some c) : c.r = r ∧ (∀ p ∈ c.ps, p < l.length) ∧ 0 ≤ r.f ∧ 1 ≤ r.n ∧ r.n ≤ 65535 ∧ r.f + (r.n - 1) ≤ 18446744073709551615 ∧ c.ps.length ≤ 65535 := by
  unfold crF at h
  split at h
  · rename_i hlen
    have hok := keysF_ok hl l.length (Nat.le_refl _) r (by rw [List.take_length]; exact hr)
    obtain ⟨i, hi, hip⟩ := (mem_keysF l r l.length (Nat.le_refl _)).1 (by rw [List.take_length]; exact hr)
    rw [isP_at hi] at hip
    simp only [Bool.and_eq_true, decide_eq_true_eq] at hip
    obtain ⟨hj, hk⟩ := hip
    obtain ⟨_, _, n1, n2, _⟩ := jn_facts hj
    have hn : r.n = l[i].s.n := by rw [← hk]; rfl
    have hmem : ∀ p ∈ ordF l r.n.toNat (plK l l.length r), p ∈ plK l l.length r := by
      intro p hp
      unfold ordF at hp
      obtain ⟨j, _, hf⟩ := List.mem_filterMap.1 hp
      exact List.mem_of_find?_eq_some hf
    have hall : ∀ j, j < r.n.toNat → ∃ p, p ∈ plK l l.length r ∧ ixF l p = (j : Int) := by
      intro j hj'
      have h1 : ∀ x ∈ List.range r.n.toNat, ((plK l l.length r).find? fun p => decide (ixF l p = (x : Int))).isSome = true := by
        unfold ordF at hlen
        have h2 : (List.filterMap (fun (j : Nat) => (plK l l.length r).find? fun p => decide (ixF l p = (j : Int))) (List.range r.n.toNat)).length = (List.range r.n.toNat).length := by rw [hlen]; simp
        intro x hx
        rw [List.length_filterMap_eq_countP] at h2
        have h3 := (List.countP_eq_length.1 h2) x hx
        simpa using h3
      obtain ⟨p, hp⟩ := Option.isSome_iff_exists.1 (h1 j (List.mem_range.2 hj'))
      exact ⟨p, List.mem_of_find?_eq_some hp, by simpa using List.find?_some hp⟩
    have hpl : ∀ p ∈ plK l l.length r, p < l.length ∧ isP l r p = true := fun p hp => by
      unfold plK at hp
      have := List.mem_filter.1 hp
      exact ⟨List.mem_range.1 this.1, this.2⟩
    cases h
    refine ⟨rfl, fun p hp => (hpl p (hmem p hp)).1, hok.f0, by omega, by omega, ?_, ?_⟩
    · obtain ⟨p, hp, hix⟩ := hall (r.n.toNat - 1) (by omega)
      obtain ⟨hp1, hp2⟩ := hpl p hp
      rw [isP_at hp1] at hp2
      simp only [Bool.and_eq_true, decide_eq_true_eq] at hp2
      have hf : r.f = l[p].s.q - l[p].s.i := by rw [← hp2.2]; rfl
      have hi2 : ixF l p = l[p].s.i := by unfold ixF; rw [List.getElem?_eq_getElem hp1]
      have := (hl _ (List.getElem_mem hp1)).q1
      omega
    · show (ordF l r.n.toNat (plK l l.length r)).length ≤ 65535
      rw [hlen]
      omega
  · cases h
theorem rw78_other {W W' : World} {row : Option Nat} (hr : Rw78 W row) (hg : W.grownBy W' row) {g : Nat} {cs : Array Value} {ty : TypeId} {fr : Nat × Nat} (hh : W.heap[g]? = some (.cells cs ty fr)) (hne : ty ≠ 78) : W'.heap[g]? = some (.cells cs ty fr) :=
  (hg.block g (Array.getElem?_eq_some_iff.1 hh).1 (fun e => by
    obtain ⟨c2, h2⟩ := hr g e.symm
    rw [hh] at h2
    injection h2 with h2
    injection h2 with _ h2 _
    exact hne h2)).trans hh
theorem Own6.k78 {W W' : World} (k : K78 W W') {base : Nat} {v : Value} {L : List Loc} (ho : Own6 W base v L) : Own6 W' base v L :=
  ho.imp id fun ⟨h1, h2⟩ => ⟨h1, h2.1, h2.2.imp id fun ⟨g, cap, cur, e1, e2, e3, r⟩ => ⟨g, cap, cur, e1, e2, k g cur e3, r⟩⟩
theorem grown_setRow (W : World) (g : Nat) (cs : Array Value) : W.grownBy (W.setRow g cs) (some g) :=
  ⟨rfl, rfl, rfl, by rw [size_setRow]; exact Nat.le_refl _, fun k _ hn => setRow_other W g k cs (fun e => hn (by rw [e]))⟩
theorem own_row {W : World} {b s n g : Nat} {e ty : TypeId} {v : Value} {xs : List Value} {cs ds : Array Value} {fr : Nat × Nat} (h : W.ownsRow b e s v n xs) (hh : W.heap[g]? = some (.cells cs ty fr)) (hne : ty ≠ e) : (W.setRow g ds).ownsRow b e s v n xs := by
  refine h.kept (grown_setRow W g ds) ?_
  rcases h.2 with ⟨rfl, _⟩ | ⟨g', cap', cur', rfl, _, hh', _⟩
  · exact .inl rfl
  · refine .inr (fun e' => ?_)
    cases e'
    rw [hh] at hh'
    injection hh' with hh'
    injection hh' with _ hh' _
    exact hne hh'
theorem Ent.of_own {W : World} {base : Nat} {A : Option Addr} {n c : Nat} {l : List (Int × Int)} (h : W.ownsRow base 40 2 (.slice A n c) l.length (en2 l)) : Ent W (.slice A n c) l := by
  rcases h.2 with ⟨e, h0⟩ | ⟨g, cap, cur, e, hb, hg, h1, h2, h3, h4⟩
  · injection e with e1 e2 e3
    subst e2 e3
    exact ⟨A, 0, by rw [h0], by omega, fun hn => absurd h0 (by omega)⟩
  · injection e with e1 e2 e3
    subst e2 e3
    refine ⟨A, c, rfl, h1, fun hn => ⟨g, 0, e1, (Array.getElem?_eq_some_iff.1 hg).1, fun j hj => ?_⟩⟩
    have h5 := en2_at l j hj
    rw [← h4, List.getElem?_take, if_pos (by omega), List.getElem?_take, if_pos (by omega)] at h5
    rw [Nat.zero_add, cell_of_row _ _ _ _ _ (0, 0) hg, cell_of_row _ _ _ _ _ (0, 0) hg]
    simpa using h5
theorem size52 : (Try.prog.info? 52).map (·.size) = some 3 := by kernel_rfl
theorem own6_kb {w0 wb W : World} {lb cb c : Nat} {A : Option Addr} {l : List Pg} (h : Bk w0 wb lb cb A c l) (k : Kb wb W cb wb.heap.size) {base : Nat} {v : Value} {L : List Loc} (ho : Own6 wb base v L) : Own6 W base v L := by
  rcases ho with ho | ⟨h1, h2⟩
  · exact .inl ho
  · refine .inr ⟨h1, h2.1, h2.2.imp id fun ⟨g, cap, cur, e1, e2, e3, r⟩ => ⟨g, cap, cur, e1, e2, (k.block g (Array.getElem?_eq_some_iff.1 e3).1 (fun e => ?_)).trans e3, r⟩⟩
    obtain ⟨cs, h4⟩ := h.cbx
    rw [e, h4] at e3
    injection e3 with e3
    injection e3 with _ e3 _
    exact absurd e3 (by decide)
theorem entF_le {l : List Pg} {E : Nat} (h : ∀ x ∈ l, x.es.length ≤ E) : ∀ ps : List Nat, (entF l ps).length ≤ ps.length * E
  | [] => by simp [entF]
  | p :: t => by
    have ih := entF_le h t
    have e : entF l (p :: t) = (match l[p]? with | some x => x.es | none => []) ++ entF l t := rfl
    rw [e, List.length_append, List.length_cons, Nat.succ_mul]
    have : (match l[p]? with | some x => x.es | none => []).length ≤ E := by
      cases hp : l[p]? with
      | none => simp
      | some x => exact h x (List.mem_of_getElem? hp)
    omega
theorem follow_any (v : Value) (l : List Pg) (w : World) (E : Nat) (A : Option Addr) (c : Nat) (hv : v = .slice A l.length c) (h : Pgs w v l) (hent : ∀ x ∈ l, Ent w x.ev x.es) (hl : Okl l) (hm : l.length ≤ 10000) (hE : ∀ x ∈ l, x.es.length ≤ E) (hbd : (l.length + 1) * 65535 * (E + 1) ≤ 40000000)
    (hbi : ∀ r ∈ keysF l, ∀ (W : World) (base : Nat) (u : Value), Below w.heap.size w W → W.ownsRow base 3 1 u (plK l l.length r).length (iv (plK l l.length r)) → Calls Try.prog 52 #[u, v] W (BiPost W (ordF l r.n.toNat (plK l l.length r)))) :
    Calls Try.prog 19 #[v] w (FoPost w l) := by
  subst hv
  have HENT := Lib.hid hent
  have HOK := Lib.hid hl
  have HEE := Lib.hid hE
  have HBD := Lib.hid hbd
  have HBN : Hid (∀ k, k ≤ l.length + 1 → k * 65535 ≤ 40000000 ∧ k * (65535 * E) ≤ 40000000) := Lib.hid (fun k hk => by
    have h1 : k * 65535 * (E + 1) ≤ (l.length + 1) * 65535 * (E + 1) := Nat.mul_le_mul_right _ (Nat.mul_le_mul_right _ hk)
    have h2 : k * 65535 * (E + 1) = k * (65535 * E) + k * 65535 := by rw [Nat.mul_add, Nat.mul_one, Nat.mul_assoc]
    omega)
  -- the world in which the boxes lie
  obtain ⟨W0, hW0⟩ : ∃ W0, W0 = ((w.alloc (.cells #[.slice A l.length c] 35)).alloc (.cells #[.slice none 0 0, .int .u64 0, .slice none 0 0] 52)).alloc (.cells #[.slice none 0 0, .int .u64 0, .slice none 0 0] 52) := ⟨_, rfl⟩
  have hb0 : Below w.heap.size w W0 := by rw [hW0]; exact (((Below.refl _ _).alloc (Nat.le_refl _) _).alloc (by simp) _).alloc (by simp; omega) _
  have hsz0 : W0.heap.size = w.heap.size + 3 := by rw [hW0]; simp
  have hlb0 : W0.cell? ⟨w.heap.size, 0, none⟩ = some (.slice A l.length c) := by
    rw [hW0]
    have h1 := ((Below.refl _ (w.alloc (.cells #[.slice A l.length c] 35))).alloc (Nat.le_refl _) (.cells #[.slice none 0 0, .int .u64 0, .slice none 0 0] 52)).alloc (by simp) (.cells #[.slice none 0 0, .int .u64 0, .slice none 0 0] 52)
    exact (h1.cell (p := ⟨w.heap.size, 0, none⟩) (by simp)).trans ((cell_of_row _ _ 0 _ 35 (0, 0) (heap_alloc_new w _)).trans rfl)
  have hrb0 : W0.heap[w.heap.size + 1]? = some (.cells #[.slice none 0 0, .int .u64 0, .slice none 0 0] 52 (0, 0)) := by
    rw [hW0]
    have h1 := heap_alloc2_new w (.cells #[.slice A l.length c] 35) (.cells #[.slice none 0 0, .int .u64 0, .slice none 0 0] 52)
    exact (heap_alloc_old _ _ (by simp)).trans h1
  have hcb0 : W0.heap[w.heap.size + 2]? = some (.cells #[.slice none 0 0, .int .u64 0, .slice none 0 0] 52 (0, 0)) := by
    rw [hW0]
    have h1 := heap_alloc_new ((w.alloc (.cells #[.slice A l.length c] 35)).alloc (.cells #[.slice none 0 0, .int .u64 0, .slice none 0 0] 52)) (.cells #[.slice none 0 0, .int .u64 0, .slice none 0 0] 52)
    simpa using h1
  have HLC := Lib.hid (locate_any (.slice A l.length c) l W0 (h.below hb0) hl hm (fun r hr W base u hW ho => hbi r hr W base u (hb0.trans (hW.mono hb0.size)) ho))
  have HPG := Lib.hid h
  have HB0 := Lib.hid hb0
  have HS0 := Lib.hid hsz0
  have HRB0 := Lib.hid hrb0
  have HCB0 := Lib.hid hcb0
  have HLB0 := Lib.hid hlb0
  have HW0 := Lib.hid hW0
  clear hent hl hE hbd hb0 hsz0 hrb0 hcb0 h hbi hW0
  go_enter Try.func19, Try.ntmps19
  go_wp2
  go_step3
  go_upto_region 2 with fail
  rw [← HW0.out]
  obtain ⟨lb, hlb⟩ : ∃ lb, lb = w.heap.size := ⟨_, rfl⟩
  obtain ⟨rb, hrb⟩ : ∃ rb, rb = lb + 1 := ⟨_, rfl⟩
  obtain ⟨cb, hcb⟩ : ∃ cb, cb = rb + 1 := ⟨_, rfl⟩
  rw [← hlb, ← hrb, ← hcb]
  rw [← hlb, ← hrb] at HRB0
  rw [← hlb, show lb + 2 = cb by omega] at HCB0
  rw [← hlb] at HLB0 hlb0
  have HLB := Lib.hid hlb
  have HRBE := Lib.hid hrb
  have HCBE := Lib.hid hcb
  clear hlb hrb hcb
  go_upto_region 4 with ((go_at_call 31; with_reducible refine HLC.out.mono ?_); rintro e w1 ⟨⟨D0, L, A1, c1, rfl, hD0, ho1, hl1⟩, hb1⟩; have HD0 := Lib.hid hD0; have HO1 := Lib.hid ho1; have HL1 := Lib.hid hl1; have HB1 := Lib.hid hb1; clear hD0 ho1 hl1 hb1)
  clear hlb0 HLC
  -- what lies behind the chain
  have hlb := HLB.out
  have hrb := HRBE.out
  have hcb := HCBE.out
  have hbk : Bk w w1 lb cb A c l := by
    refine ⟨HB0.out.trans (HB1.out.mono HB0.out.size), by omega, ⟨_, (HB1.out.block _ (by have := HS0.out; omega)).trans HCB0.out⟩, (HB1.out.cell (p := ⟨lb, 0, none⟩) (by have := HS0.out; simp; omega)).trans HLB0.out, by omega, HPG.out, HENT.out⟩
  have hcs0 : ChS w1 cb w1.heap.size [] 0 [] (.slice none 0 0) (.slice none 0 0) :=
    ⟨(HB1.out.block _ (by have := HS0.out; omega)).trans HCB0.out, World.ownsRow_nil _ _ _ _, World.ownsRow_nil _ _ _ _⟩
  have hrb1 : w1.heap[rb]? = some (.cells #[.slice none 0 0, .int .u64 0, .slice none 0 0] 52 (0, 0)) := (HB1.out.block _ (by have := HS0.out; omega)).trans HRB0.out
  clear hlb hrb hcb
  have HBK := Lib.hid hbk
  have HRB := Lib.hid hrb1
  have HCS := Lib.hid hcs0
  -- the records, read out of memory
  have HLO := Lib.hid HL1.out.of
  have HC : Hid ((L.map (crOf w1)).Perm (recsOf l (keysF l) (List.range (keysF l).length))) := Lib.hid (by
    rw [← HL1.out.eq]
    unfold recsOf
    exact HD0.out.filterMap _)
  have HFC : Hid (∀ x ∈ L, (∀ p ∈ (crOf w1 x).ps, p < l.length) ∧ 0 ≤ (crOf w1 x).r.f ∧ 1 ≤ (crOf w1 x).r.n ∧ (crOf w1 x).r.n ≤ 65535 ∧ (crOf w1 x).r.f + ((crOf w1 x).r.n - 1) ≤ 18446744073709551615 ∧ (crOf w1 x).ps.length ≤ 65535) := Lib.hid (fun x hx => by
    have h1 : crOf w1 x ∈ recsOf l (keysF l) (List.range (keysF l).length) := HC.out.mem_iff.1 (List.mem_map_of_mem hx)
    unfold recsOf at h1
    obtain ⟨d, hd, h2⟩ := List.mem_filterMap.1 h1
    have hd2 := List.mem_range.1 hd
    rw [List.getElem?_eq_getElem hd2] at h2
    simp only [Option.bind_some] at h2
    obtain ⟨a1, a2, a3, a4, a5, a6, a7⟩ := crF_facts HOK.out (List.getElem_mem hd2) h2
    rw [← a1] at a3 a4 a5 a6
    exact ⟨a2, a3, a4, a5, a6, a7⟩)
  have HLN : Hid (L.length ≤ l.length) := Lib.hid (by
    have h1 := HC.out.length_eq
    rw [List.length_map] at h1
    have h2 : (recsOf l (keysF l) (List.range (keysF l).length)).length ≤ (List.range (keysF l).length).length := List.length_filterMap_le _ _
    have h3 := keysF_len l l.length (Nat.le_refl _)
    rw [List.take_length] at h3
    simp at h2
    omega)
  have HTK : Hid (∀ (W : World) (en : List (Int × Int)) (la : Int) (us : List Nat) (Ae : Option Addr) (ce : Nat) (Au : Option Addr) (cu : Nat) (x : Loc), Kb w1 W cb w1.heap.size → ChS W cb w1.heap.size en la us (.slice Ae en.length ce) (.slice Au us.length cu) → x ∈ L → us.length ≤ 40000000 → en.length ≤ 40000000 →
      Calls Try.prog 32 #[x.v, .pointer (some ⟨cb, 0, none⟩), .pointer (some ⟨lb, 0, none⟩)] W (TkPost w1 W cb (stepC l ⟨en, la, us⟩ (crOf w1 x)).en (stepC l ⟨en, la, us⟩ (crOf w1 x)).la (stepC l ⟨en, la, us⟩ (crOf w1 x)).us)) := Lib.hid (fun W en la us Ae ce Au cu x hk hc hx hu he => by
    obtain ⟨f1, f2, f3, f4, f5, f6⟩ := HFC.out x hx
    refine take_any w w1 W lb cb c A l HBK.out hk en la us Ae ce Au cu hc x (crOf w1 x) (HLO.out x hx) f1 f2 f3 f4 f5 hm ?_ f6 (by omega) (by omega) ?_
    · intro y hy
      have h1 := HEE.out y hy
      have h2 := (HBN.out 1 (by omega)).2
      omega
    · have h1 := entF_le HEE.out (crOf w1 x).ps
      have h2 := (HBN.out 1 (by omega)).2
      have h3 : (crOf w1 x).ps.length * E ≤ 65535 * E := Nat.mul_le_mul_right _ f6
      omega)
  clear hbk hcs0 hrb1
  have HO1L := Lib.hid (fun (W : World) (hk : Kb w1 W cb w1.heap.size) => own6_kb HBK.out hk HO1.out)
  go_upto_region 5 with ((go_at_call 34; with_reducible refine (thoseC_any _ _ _ _ _ HO1.out (by have := HLN.out; omega)).mono ?_); rintro e w2 ⟨⟨A2, c2, rfl, ho2⟩, hb2⟩; have HO2 := Lib.hid ho2; have HB2 := Lib.hid hb2; clear ho2 hb2)
  have HCL : Hid (∀ x, x ∈ kdL 3 L L.length ↔ x ∈ L ∧ x.r.k = 3) := Lib.hid (fun x => by unfold kdL; rw [List.take_length]; simp)
  have HCLN : Hid ((kdL 3 L L.length).length ≤ L.length) := Lib.hid (kdL_le 3 L L.length)
  obtain ⟨CL, hCL⟩ : ∃ CL, CL = kdL 3 L L.length := ⟨_, rfl⟩
  rw [← hCL] at HO2 HCL HCLN ⊢
  clear hCL
  by_cases hck : CL.length = 0
  · have hnil := List.eq_nil_of_length_eq_zero hck
    subst hnil
    have HM : Hid (MaxC (L.map (crOf w1)) none) := Lib.hid (fun y hy => by
      obtain ⟨x, hx, rfl⟩ := List.mem_map.1 hy
      intro hk3
      have := (HCL.out x).2 ⟨hx, hk3⟩
      cases this)
    have HCH : Hid (ChS w2 cb w1.heap.size (startC l none).en (startC l none).la (startC l none).us (.slice none (startC l none).en.length 0) (.slice none (startC l none).us.length 0)) := Lib.hid
      ⟨(HB2.out.block _ HBK.out.cb_lt).trans HCS.out.blk, World.ownsRow_nil _ _ _ _, World.ownsRow_nil _ _ _ _⟩
    have HK7 := Lib.hid (Kb.of_below (cb := cb) HB2.out (Nat.le_refl _))
    have HO7 := Lib.hid (HO1L.out _ HK7.out)
    have HSL : Hid ((startC l none).us.length ≤ 65535 ∧ (startC l none).en.length ≤ 65535 * E) := Lib.hid ⟨Nat.zero_le _, Nat.zero_le _⟩
    clear HCS HO1L HCL HCLN hck HO2
    generalize hst : startC l none = c0 at *
    obtain ⟨en, la, us⟩ := c0
    simp only at *
    have HST := Lib.hid hst
    clear hst
    go_upto_region 8 with ((go_at_call 34; with_reducible refine (thoseD_any _ _ _ _ _ HO7.out (by have := HLN.out; omega)).mono ?_); rintro e w8 ⟨⟨A8, c8, rfl, ho8⟩, hb8⟩; have HO8 := Lib.hid ho8; have HB8 := Lib.hid hb8; clear ho8 hb8)
    have HN8 : Hid ((kdL 2 L L.length).length ≤ L.length) := Lib.hid (kdL_le 2 L L.length)
    go_wp2_with ((go_at_call 39; with_reducible refine (sortLoc_any HO8.out (by have := HLN.out; have := HN8.out; omega)).mono ?_); rintro e w9 ⟨rfl, DL, hp9, hs9, ho9, hg9⟩; have HP9 := Lib.hid hp9; have HS9 := Lib.hid hs9; have HO9 := Lib.hid ho9; have HG9 := Lib.hid hg9; clear hp9 hs9 ho9 hg9)
    have hdn : (kdL 2 L L.length).length = DL.length := HP9.out.length_eq.symm
    have hk9 : Kb w1 w9 cb w1.heap.size := (HK7.out.trans (Kb.of_below HB8.out HK7.out.size)).trans (Kb.of_grown HG9.out (Nat.le_trans HK7.out.size HB8.out.size) (fun j hj => by
      rcases HO8.out with ⟨_, h2⟩ | ⟨_, h2⟩
      · rw [h2] at hj; cases hj
      · exact .inl (Nat.le_trans HK7.out.size (h2.lt j hj).1)))
    have hc9 : ChS w9 cb w1.heap.size en la us (.slice none en.length 0) (.slice none us.length 0) :=
      ⟨rw78_other HO8.out.rw78 HG9.out ((HB8.out.block _ (Array.getElem?_eq_some_iff.1 HCH.out.blk).1).trans HCH.out.blk) (by decide), own_78 HO8.out.rw78 HG9.out (by decide) (own_below8 HCH.out.ve HB8.out), own_78 HO8.out.rw78 HG9.out (by decide) (own_below8 HCH.out.vu HB8.out)⟩
    have HDM : Hid (∀ x ∈ DL, x ∈ L) := Lib.hid (fun x hx => by
      have h1 := HP9.out.mem_iff.1 hx
      unfold kdL at h1
      rw [List.take_length] at h1
      exact (List.mem_filter.1 h1).1)
    have HDL : Hid (DL.length ≤ l.length) := Lib.hid (by have := HN8.out; have := HLN.out; omega)
    have HDP : Hid ((DL.map (crOf w1)).Perm ((L.map (crOf w1)).filter fun x => decide (x.r.k = 2))) := Lib.hid (by
      have h1 := HP9.out.map (crOf w1)
      unfold kdL at h1
      rw [List.take_length] at h1
      rw [List.filter_map]
      exact h1)
    have HDS : Hid ((DL.map (crOf w1)).Pairwise (fun a b => ¬ TurnC b a)) := Lib.hid (by
      rw [List.pairwise_map]
      refine List.Pairwise.imp_of_mem (fun {a b} ha hb h hn => h ?_) HS9.out
      have e1 := (HLO.out _ (HDM.out a ha)).e
      have e2 := (HLO.out _ (HDM.out b hb)).e
      have e3 : (crOf w1 a).r = a.r := rfl
      have e4 : (crOf w1 b).r = b.r := rfl
      unfold TurnC NewC at hn
      unfold TurnLt NewLt
      rw [e3, e4] at hn
      omega)
    have HFO : Hid (foldD l ⟨en, la, us⟩ (DL.map (crOf w1)) = foldD l ⟨en, la, us⟩ ((DL.map (crOf w1)).drop 0)) := Lib.hid (by rw [List.drop_zero])
    have HK9 := Lib.hid hk9
    have HC9 := Lib.hid hc9
    rw [hdn] at HO9 ⊢
    have hdlz : (DL.length : Int) ≤ 10000 := by have := HDL.out; omega
    clear hdn hk9 hc9 HG9 HP9 HS9 HO8 HB8 HN8 HCH HK7 HO7
    go_step3
    go_upto_region 10 with fail
    go_loopw [28] (fun i wr => ∃ (k : Nat) (ch : Chn) (Ae2 : Option Addr) (ce2 : Nat) (Au2 : Option Addr) (cu2 : Nat), k ≤ DL.length ∧ i = .int .i64 k ∧ Hid (foldD l ⟨en, la, us⟩ (DL.map (crOf w1)) = foldD l ch ((DL.map (crOf w1)).drop k)) ∧ Hid (ChS wr cb w1.heap.size ch.en ch.la ch.us (.slice Ae2 ch.en.length ce2) (.slice Au2 ch.us.length cu2)) ∧ Hid (Kb w1 wr cb w1.heap.size) ∧ Hid (K78 w9 wr) ∧ Hid (ch.us.length ≤ (k + 1) * 65535 ∧ ch.en.length ≤ (k + 1) * (65535 * E))) (fun i _ => DL.length - (RowKit.intOf i).toNat)
    case atStart => exact ⟨0, ⟨en, la, us⟩, none, 0, none, 0, Nat.zero_le _, rfl, HFO, HC9, HK9, K78.refl _, Lib.hid (by have := HSL.out; simpa using this)⟩
    case round =>
      obtain ⟨k, ch, Ae2, ce2, Au2, cu2, hk, rfl, HF, HCK, HKK, HEK, HSK⟩ := hrel
      clear HFO HC9 HK9
      by_cases hlt : k < DL.length
      · have hltz : (k : Int) < (DL.length : Int) := by omega
        have hk0 : (0 : Int) ≤ (k : Int) := by omega
        obtain ⟨g8, c8', he8, _, hg8, hr8⟩ := (HO9.out.k78 HEK.out).at_ hlt
        injection he8 with e81 _ e82
        subst e81 e82
        have hdr : (DL.map (crOf w1)).drop k = crOf w1 DL[k] :: (DL.map (crOf w1)).drop (k + 1) := by
          rw [List.drop_eq_getElem_cons (by simpa using hlt), List.getElem_map]
        have hxL := HDM.out _ (List.getElem_mem hlt)
        have HTX := Lib.hid (fun W en la us Ae ce Au cu hk hc hu he => HTK.out W en la us Ae ce Au cu DL[k] hk hc hxL hu he)
        have hps := (HFC.out _ hxL).2.2.2.2.2
        have hel := entF_le HEE.out (crOf w1 DL[k]).ps
        have hfd : foldD l ch (crOf w1 DL[k] :: (DL.map (crOf w1)).drop (k + 1)) = if ch.la < DL[k].r.p then ch else if DL[k].r.p = ch.la then foldD l (stepC l ch (crOf w1 DL[k])) ((DL.map (crOf w1)).drop (k + 1)) else foldD l ch ((DL.map (crOf w1)).drop (k + 1)) := rfl
        rw [hdr, hfd] at HF
        clear hdr hfd
        obtain ⟨x, hx⟩ : ∃ x, x = DL[k] := ⟨_, rfl⟩
        simp only [← hx] at HF hr8 HTX hps hel
        clear hx hxL
        obtain ⟨y, hy⟩ : ∃ y, y = crOf w1 x := ⟨_, rfl⟩
        simp only [← hy] at HF HTX hps hel
        clear hy
        have d0 := hr8.c0
        have d1 := hr8.c1
        have d2 := hr8.c2
        have d3 := hr8.c3
        have d4 := hr8.c4
        have d5 := hr8.c5
        have q1 : wr.cell? ⟨cb, 1, none⟩ = some (.int .u64 ch.la) := (cell_of_row _ _ 1 _ 52 (0, 0) HCK.out.blk).trans rfl
        have hcbl : cb < wr.heap.size := (Array.getElem?_eq_some_iff.1 HCK.out.blk).1
        have hbw : Below wr.heap.size wr (wr.alloc (.cells x.row 78)) := (Below.refl _ _).alloc (Nat.le_refl _) _
        have hcs1 : ChS (wr.alloc (.cells x.row 78)) cb w1.heap.size ch.en ch.la ch.us (.slice Ae2 ch.en.length ce2) (.slice Au2 ch.us.length cu2) := ⟨(hbw.block _ (Array.getElem?_eq_some_iff.1 HCK.out.blk).1).trans HCK.out.blk, own_below8 HCK.out.ve hbw, own_below8 HCK.out.vu hbw⟩
        have hk1 : Kb w1 (wr.alloc (.cells x.row 78)) cb w1.heap.size := HKK.out.trans (Kb.of_below hbw HKK.out.size)
        have he1 : K78 w9 (wr.alloc (.cells x.row 78)) := HEK.out.trans (K78.below hbw)
        have HPS := Lib.hid hps
        have HEL := Lib.hid hel
        have HCK1 := Lib.hid hcs1
        have HKK1 := Lib.hid hk1
        have HEK1 := Lib.hid he1
        clear hr8 hbw hcs1 hk1 he1 hps hel
        by_cases hbr : ch.la < x.r.p
        · have HFE : Hid (foldD l ⟨en, la, us⟩ (DL.map (crOf w1)) = ch) := Lib.hid (by rw [HF.out, if_pos hbr])
          clear HF HCK HKK HEK
          obtain ⟨⟨xk, xf, xp, xn⟩, xe, xa, xl, xc⟩ := x
          simp only [Loc.v, Loc.row, Loc.pl] at *
          go_upto_region 16 with fail
          obtain ⟨wz, hwz⟩ : ∃ wz, wz = wr.alloc (.cells #[.int .u8 xk, .int .u64 xf, .int .u64 xp, .int .i64 xn, .int .i64 xe, .slice xa xl xc] 78) := ⟨_, rfl⟩
          rw [← hwz] at HCK1 HKK1 HEK1 ⊢
          clear hwz d0 d1 d2 d3 d4 d5 q1
          have hcs := HCK1.out
          have hu40 : ch.us.length ≤ 100000000 := by
            have h1 := (HBN.out (k + 1) (by have := HDL.out; omega)).1
            have h2 := HSK.out.1
            omega
          have HSRT := Lib.hid (sortI_any hcs.vu hu40)
          have r2 : wz.cell? ⟨cb, 2, none⟩ = some (.slice Au2 ch.us.length cu2) := (cell_of_row _ _ 2 _ 52 (0, 0) hcs.blk).trans rfl
          have hrbr : wz.heap[rb]? = some (.cells #[.slice none 0 0, .int .u64 0, .slice none 0 0] 52 (0, 0)) := (HKK1.out.block rb (Array.getElem?_eq_some_iff.1 HRB.out).1 (by have := HCBE.out; omega)).trans HRB.out
          have HRBR := Lib.hid hrbr
          clear hcs hu40 hrbr
          go_upto_region 17 with ((go_at_call 41; with_reducible refine HSRT.out.mono ?_); rintro e w11 ⟨rfl, Dn, hpn, hsn, hon, hgn⟩; have HPN := Lib.hid hpn; have HSN := Lib.hid hsn; have HON := Lib.hid hon; have HGN := Lib.hid hgn; clear hpn hsn hon hgn)
          have hcb11 := row_apart HCK1.out.vu HGN.out HCK1.out.blk (by decide)
          have hrb11 := row_apart HCK1.out.vu HGN.out HRBR.out (by decide)
          have r0 : w11.cell? ⟨cb, 0, none⟩ = some (.slice Ae2 ch.en.length ce2) := (cell_of_row _ _ 0 _ 52 (0, 0) hcb11).trans rfl
          have r1 : w11.cell? ⟨cb, 1, none⟩ = some (.int .u64 ch.la) := (cell_of_row _ _ 1 _ 52 (0, 0) hcb11).trans rfl
          have r3 : w11.cell? ⟨cb, 2, none⟩ = some (.slice Au2 ch.us.length cu2) := (cell_of_row _ _ 2 _ 52 (0, 0) hcb11).trans rfl
          have HRB11 := Lib.hid hrb11
          have hap : (Value.slice Ae2 ch.en.length ce2).ownBlock = none ∨ (Value.slice Ae2 ch.en.length ce2).ownBlock ≠ (Value.slice Au2 ch.us.length cu2).ownBlock := own_apart HCK1.out.ve HCK1.out.vu (by decide)
          have hve := own_row (ds := #[.slice Ae2 ch.en.length ce2, .int .u64 ch.la, .slice Au2 ch.us.length cu2]) (HCK1.out.ve.kept HGN.out hap) hrb11 (by decide)
          have hvu := own_row (ds := #[.slice Ae2 ch.en.length ce2, .int .u64 ch.la, .slice Au2 ch.us.length cu2]) HON.out hrb11 (by decide)
          have hk11 : Kb w1 w11 cb w1.heap.size := HKK1.out.trans (Kb.of_grown HGN.out HKK1.out.size (fun j hj => .inl (HCK1.out.vu.lt j hj).1))
          have HFIN : Hid (FoPost w l (.returned (.agg #[.slice Ae2 ch.en.length ce2, .int .u64 ch.la, .slice Au2 ch.us.length cu2])) (w11.setRow rb #[.slice Ae2 ch.en.length ce2, .int .u64 ch.la, .slice Au2 ch.us.length cu2])) := Lib.hid (by
            have hfe : foldD l (startC l none) (DL.map (crOf w1)) = ch := by rw [HST.out]; exact HFE.out
            refine ⟨L.map (crOf w1), none, DL.map (crOf w1), Dn, _, _, ⟨HC.out, HM.out, HDP.out, HDS.out, by rw [hfe]; exact HPN.out, HSN.out⟩, by rw [hfe], by rw [hfe]; exact Ent.of_own hve, ?_, ?_⟩
            · have h1 := hvu
              rw [← HPN.out.length_eq] at h1 ⊢
              exact Pls.of_own h1
            · exact setRow_below (hk11.bel HBK.out) (by have := HRBE.out; have := HLB.out; omega))
          clear hcb11 hrb11 hap hve hvu hk11 r2
          go_wp2_with (refine wpList_store_row rfl 52 _ _ rfl rb #[.slice Ae2 ch.en.length ce2, .int .u64 ch.la, .slice Au2 ch.us.length cu2] rfl rfl 52 _ HRB11.out size52 rfl (by simp [Value.oneCell']) ?_)
          refine bodyPost_ret (results_cell_row rfl _ _ rb 52 #[.slice Ae2 ch.en.length ce2, .int .u64 ch.la, .slice Au2 ch.us.length cu2] (0, 0) _ rfl (setRow_at HRB11.out) Try.underlying52 rfl (by kernel_rfl)) rfl HFIN.out
        · by_cases hq : x.r.p = ch.la
          · have HF2 : Hid (foldD l ⟨en, la, us⟩ (DL.map (crOf w1)) = foldD l (stepC l ch y) ((DL.map (crOf w1)).drop (k + 1))) := Lib.hid (by rw [HF.out, if_neg hbr, if_pos hq])
            have hb1 : ch.us.length ≤ 40000000 := by
              have h1 := (HBN.out (k + 1) (by have := HDL.out; omega)).1
              have h2 := HSK.out.1
              omega
            have hb2 : ch.en.length ≤ 40000000 := by
              have h1 := (HBN.out (k + 1) (by have := HDL.out; omega)).2
              have h2 := HSK.out.2
              omega
            have HSK2 : Hid ((stepC l ch y).us.length ≤ (k + 1 + 1) * 65535 ∧ (stepC l ch y).en.length ≤ (k + 1 + 1) * (65535 * E)) := Lib.hid (by
              unfold stepC
              simp only [List.length_append]
              have h1 := HSK.out
              have h2 := HPS.out
              have h3 := HEL.out
              have h4 : y.ps.length * E ≤ 65535 * E := Nat.mul_le_mul_right _ h2
              rw [Nat.succ_mul (k + 1), Nat.succ_mul (k + 1)]
              omega)
            have HT2 := Lib.hid (HTX.out _ _ _ _ _ _ _ _ HKK1.out HCK1.out hb1 hb2)
            clear HF HCK HKK HEK hb1 hb2 HTX
            obtain ⟨chen, chla, chus⟩ := ch
            obtain ⟨⟨xk, xf, xp, xn⟩, xe, xa, xl, xc⟩ := x
            simp only [Loc.v, Loc.row, Loc.pl] at *
            subst hq
            go_wp2_with ((go_at_call 32; with_reducible refine HT2.out.mono ?_); rintro e w12 ⟨rfl, ⟨Ae3, ce3, Au3, cu3, hc4⟩, hk4, he4⟩; have HC4 := Lib.hid hc4; have HK4 := Lib.hid hk4; have HE4 := Lib.hid (HEK1.out.trans he4); clear hc4 hk4 he4)
            go_roundw
            case rel => exact ⟨k + 1, stepC l ⟨chen, xp, chus⟩ y, Ae3, ce3, Au3, cu3, by omega, by go_num, HF2, HC4, HK4, HE4, HSK2⟩
            case measure => simp [RowKit.intOf]; omega
          · have HF2 : Hid (foldD l ⟨en, la, us⟩ (DL.map (crOf w1)) = foldD l ch ((DL.map (crOf w1)).drop (k + 1))) := Lib.hid (by rw [HF.out, if_neg hbr, if_neg hq])
            have hqb : (x.r.p == ch.la) = false := by simpa using hq
            have HSK2 : Hid (ch.us.length ≤ (k + 1 + 1) * 65535 ∧ ch.en.length ≤ (k + 1 + 1) * (65535 * E)) := Lib.hid ⟨Nat.le_trans HSK.out.1 (Nat.mul_le_mul_right _ (Nat.le_succ _)), Nat.le_trans HSK.out.2 (Nat.mul_le_mul_right _ (Nat.le_succ _))⟩
            clear HF HCK HKK HEK HTX
            obtain ⟨⟨xk, xf, xp, xn⟩, xe, xa, xl, xc⟩ := x
            simp only [Loc.v, Loc.row, Loc.pl] at *
            go_wp2
            go_roundw
            case rel => exact ⟨k + 1, ch, Ae2, ce2, Au2, cu2, by omega, by go_num, HF2, HCK1, HKK1, HEK1, HSK2⟩
            case measure => simp [RowKit.intOf]; omega
      · obtain rfl : k = DL.length := by omega
        have HFE : Hid (foldD l ⟨en, la, us⟩ (DL.map (crOf w1)) = ch) := Lib.hid (by
          rw [HF.out, List.drop_eq_nil_of_le (by simp)]
          rfl)
        clear HF
        go_upto_region 16 with fail
        have hcs := HCK.out
        have hu40 : ch.us.length ≤ 100000000 := by
          have h1 := (HBN.out (DL.length + 1) (by have := HDL.out; omega)).1
          have h2 := HSK.out.1
          omega
        have HSRT := Lib.hid (sortI_any hcs.vu hu40)
        have r2 : wr.cell? ⟨cb, 2, none⟩ = some (.slice Au2 ch.us.length cu2) := (cell_of_row _ _ 2 _ 52 (0, 0) hcs.blk).trans rfl
        have hrbr : wr.heap[rb]? = some (.cells #[.slice none 0 0, .int .u64 0, .slice none 0 0] 52 (0, 0)) := (HKK.out.block rb (Array.getElem?_eq_some_iff.1 HRB.out).1 (by have := HCBE.out; omega)).trans HRB.out
        have HRBR := Lib.hid hrbr
        clear hcs hu40 hrbr
        go_upto_region 17 with ((go_at_call 41; with_reducible refine HSRT.out.mono ?_); rintro e w11 ⟨rfl, Dn, hpn, hsn, hon, hgn⟩; have HPN := Lib.hid hpn; have HSN := Lib.hid hsn; have HON := Lib.hid hon; have HGN := Lib.hid hgn; clear hpn hsn hon hgn)
        have hcb11 := row_apart HCK.out.vu HGN.out HCK.out.blk (by decide)
        have hrb11 := row_apart HCK.out.vu HGN.out HRBR.out (by decide)
        have r0 : w11.cell? ⟨cb, 0, none⟩ = some (.slice Ae2 ch.en.length ce2) := (cell_of_row _ _ 0 _ 52 (0, 0) hcb11).trans rfl
        have r1 : w11.cell? ⟨cb, 1, none⟩ = some (.int .u64 ch.la) := (cell_of_row _ _ 1 _ 52 (0, 0) hcb11).trans rfl
        have r3 : w11.cell? ⟨cb, 2, none⟩ = some (.slice Au2 ch.us.length cu2) := (cell_of_row _ _ 2 _ 52 (0, 0) hcb11).trans rfl
        have HRB11 := Lib.hid hrb11
        have hap : (Value.slice Ae2 ch.en.length ce2).ownBlock = none ∨ (Value.slice Ae2 ch.en.length ce2).ownBlock ≠ (Value.slice Au2 ch.us.length cu2).ownBlock := own_apart HCK.out.ve HCK.out.vu (by decide)
        have hve := own_row (ds := #[.slice Ae2 ch.en.length ce2, .int .u64 ch.la, .slice Au2 ch.us.length cu2]) (HCK.out.ve.kept HGN.out hap) hrb11 (by decide)
        have hvu := own_row (ds := #[.slice Ae2 ch.en.length ce2, .int .u64 ch.la, .slice Au2 ch.us.length cu2]) HON.out hrb11 (by decide)
        have hk11 : Kb w1 w11 cb w1.heap.size := HKK.out.trans (Kb.of_grown HGN.out HKK.out.size (fun j hj => .inl (HCK.out.vu.lt j hj).1))
        have HFIN : Hid (FoPost w l (.returned (.agg #[.slice Ae2 ch.en.length ce2, .int .u64 ch.la, .slice Au2 ch.us.length cu2])) (w11.setRow rb #[.slice Ae2 ch.en.length ce2, .int .u64 ch.la, .slice Au2 ch.us.length cu2])) := Lib.hid (by
          have hfe : foldD l (startC l none) (DL.map (crOf w1)) = ch := by rw [HST.out]; exact HFE.out
          refine ⟨L.map (crOf w1), none, DL.map (crOf w1), Dn, _, _, ⟨HC.out, HM.out, HDP.out, HDS.out, by rw [hfe]; exact HPN.out, HSN.out⟩, by rw [hfe], by rw [hfe]; exact Ent.of_own hve, ?_, ?_⟩
          · have h1 := hvu
            rw [← HPN.out.length_eq] at h1 ⊢
            exact Pls.of_own h1
          · exact setRow_below (hk11.bel HBK.out) (by have := HRBE.out; have := HLB.out; omega))
        clear hcb11 hrb11 hap hve hvu hk11 r2
        go_wp2_with (refine wpList_store_row rfl 52 _ _ rfl rb #[.slice Ae2 ch.en.length ce2, .int .u64 ch.la, .slice Au2 ch.us.length cu2] rfl rfl 52 _ HRB11.out size52 rfl (by simp [Value.oneCell']) ?_)
        refine bodyPost_ret (results_cell_row rfl _ _ rb 52 #[.slice Ae2 ch.en.length ce2, .int .u64 ch.la, .slice Au2 ch.us.length cu2] (0, 0) _ rfl (setRow_at HRB11.out) Try.underlying52 rfl (by kernel_rfl)) rfl HFIN.out
  · have hpos : 0 < CL.length := by omega
    have hposz : (0 : Int) < (CL.length : Int) := by omega
    go_upto_region 7 with (first
      | ((go_at_call 36; with_reducible refine (min_any _ _ _ _ _ HO2.out (by have := HLN.out; have := HCLN.out; omega) hpos).mono ?_); rintro e w3 ⟨⟨x, hx, rfl, hmin⟩, hb3⟩; have HX := Lib.hid hx; have HMIN := Lib.hid hmin; have hk3 := Kb.of_below (cb := cb) (HB2.out.trans (hb3.mono HB2.out.size)) (Nat.le_refl _); have hc3 : ChS w3 cb w1.heap.size [] 0 [] (.slice none ([] : List (Int × Int)).length 0) (.slice none ([] : List Nat).length 0) := ⟨((HB2.out.trans (hb3.mono HB2.out.size)).block _ HBK.out.cb_lt).trans HCS.out.blk, World.ownsRow_nil _ _ _ _, World.ownsRow_nil _ _ _ _⟩; have HK3 := Lib.hid hk3; have HC3 := Lib.hid hc3; clear hx hmin hb3 hk3 hc3)
      | ((go_at_call 32; with_reducible refine (HTK.out _ [] 0 [] none 0 none 0 _ HK3.out HC3.out ((HCL.out _).1 HX.out).1 (by simp) (by simp)).mono ?_); rintro e w4 ⟨rfl, ⟨Ae, ce, Au, cu, hc4⟩, hk4, _⟩; have HCH := Lib.hid hc4; have HK7 := Lib.hid hk4; clear hc4 hk4))
    have HM : Hid (MaxC (L.map (crOf w1)) (some (crOf w1 x))) := Lib.hid (by
      have h1 := (HCL.out _).1 HX.out
      refine ⟨List.mem_map_of_mem h1.1, h1.2, fun y hy hk3 hn => ?_⟩
      obtain ⟨y', hy', rfl⟩ := List.mem_map.1 hy
      refine HMIN.out y' ((HCL.out _).2 ⟨hy', hk3⟩) ?_
      have e1 := (HLO.out _ h1.1).e
      have e2 := (HLO.out _ hy').e
      unfold NewC at hn
      unfold NewLt
      have e3 : (crOf w1 x).r = x.r := rfl
      have e4 : (crOf w1 y').r = y'.r := rfl
      rw [e3, e4] at hn
      omega)
    have HSL : Hid ((startC l (some (crOf w1 x))).us.length ≤ 65535 ∧ (startC l (some (crOf w1 x))).en.length ≤ 65535 * E) := Lib.hid (by
      have h1 := HFC.out x ((HCL.out _).1 HX.out).1
      have h2 := entF_le HEE.out (crOf w1 x).ps
      have h3 : (crOf w1 x).ps.length * E ≤ 65535 * E := Nat.mul_le_mul_right _ h1.2.2.2.2.2
      unfold startC stepC
      simp only [List.nil_append]
      exact ⟨h1.2.2.2.2.2, by omega⟩)
    have HO7 := Lib.hid (HO1L.out _ HK7.out)
    have hst : stepC l ⟨[], 0, []⟩ (crOf w1 x) = startC l (some (crOf w1 x)) := rfl
    rw [hst] at HCH
    clear HCS HO1L HCLN HO2 hst hck HK3 HC3 hpos hposz
    generalize hst : startC l (some (crOf w1 x)) = c0 at *
    obtain ⟨en, la, us⟩ := c0
    simp only at *
    have HST := Lib.hid hst
    clear hst
    go_upto_region 8 with ((go_at_call 34; with_reducible refine (thoseD_any _ _ _ _ _ HO7.out (by have := HLN.out; omega)).mono ?_); rintro e w8 ⟨⟨A8, c8, rfl, ho8⟩, hb8⟩; have HO8 := Lib.hid ho8; have HB8 := Lib.hid hb8; clear ho8 hb8)
    have HN8 : Hid ((kdL 2 L L.length).length ≤ L.length) := Lib.hid (kdL_le 2 L L.length)
    go_wp2_with ((go_at_call 39; with_reducible refine (sortLoc_any HO8.out (by have := HLN.out; have := HN8.out; omega)).mono ?_); rintro e w9 ⟨rfl, DL, hp9, hs9, ho9, hg9⟩; have HP9 := Lib.hid hp9; have HS9 := Lib.hid hs9; have HO9 := Lib.hid ho9; have HG9 := Lib.hid hg9; clear hp9 hs9 ho9 hg9)
    have hdn : (kdL 2 L L.length).length = DL.length := HP9.out.length_eq.symm
    have hk9 : Kb w1 w9 cb w1.heap.size := (HK7.out.trans (Kb.of_below HB8.out HK7.out.size)).trans (Kb.of_grown HG9.out (Nat.le_trans HK7.out.size HB8.out.size) (fun j hj => by
      rcases HO8.out with ⟨_, h2⟩ | ⟨_, h2⟩
      · rw [h2] at hj; cases hj
      · exact .inl (Nat.le_trans HK7.out.size (h2.lt j hj).1)))
    have hc9 : ChS w9 cb w1.heap.size en la us (.slice Ae en.length ce) (.slice Au us.length cu) :=
      ⟨rw78_other HO8.out.rw78 HG9.out ((HB8.out.block _ (Array.getElem?_eq_some_iff.1 HCH.out.blk).1).trans HCH.out.blk) (by decide), own_78 HO8.out.rw78 HG9.out (by decide) (own_below8 HCH.out.ve HB8.out), own_78 HO8.out.rw78 HG9.out (by decide) (own_below8 HCH.out.vu HB8.out)⟩
    have HDM : Hid (∀ x ∈ DL, x ∈ L) := Lib.hid (fun x hx => by
      have h1 := HP9.out.mem_iff.1 hx
      unfold kdL at h1
      rw [List.take_length] at h1
      exact (List.mem_filter.1 h1).1)
    have HDL : Hid (DL.length ≤ l.length) := Lib.hid (by have := HN8.out; have := HLN.out; omega)
    have HDP : Hid ((DL.map (crOf w1)).Perm ((L.map (crOf w1)).filter fun x => decide (x.r.k = 2))) := Lib.hid (by
      have h1 := HP9.out.map (crOf w1)
      unfold kdL at h1
      rw [List.take_length] at h1
      rw [List.filter_map]
      exact h1)
    have HDS : Hid ((DL.map (crOf w1)).Pairwise (fun a b => ¬ TurnC b a)) := Lib.hid (by
      rw [List.pairwise_map]
      refine List.Pairwise.imp_of_mem (fun {a b} ha hb h hn => h ?_) HS9.out
      have e1 := (HLO.out _ (HDM.out a ha)).e
      have e2 := (HLO.out _ (HDM.out b hb)).e
      have e3 : (crOf w1 a).r = a.r := rfl
      have e4 : (crOf w1 b).r = b.r := rfl
      unfold TurnC NewC at hn
      unfold TurnLt NewLt
      rw [e3, e4] at hn
      omega)
    have HFO : Hid (foldD l ⟨en, la, us⟩ (DL.map (crOf w1)) = foldD l ⟨en, la, us⟩ ((DL.map (crOf w1)).drop 0)) := Lib.hid (by rw [List.drop_zero])
    have HK9 := Lib.hid hk9
    have HC9 := Lib.hid hc9
    rw [hdn] at HO9 ⊢
    have hdlz : (DL.length : Int) ≤ 10000 := by have := HDL.out; omega
    clear hdn hk9 hc9 HG9 HP9 HS9 HO8 HB8 HN8 HCH HK7 HO7
    go_step3
    go_upto_region 10 with fail
    go_loopw [28] (fun i wr => ∃ (k : Nat) (ch : Chn) (Ae2 : Option Addr) (ce2 : Nat) (Au2 : Option Addr) (cu2 : Nat), k ≤ DL.length ∧ i = .int .i64 k ∧ Hid (foldD l ⟨en, la, us⟩ (DL.map (crOf w1)) = foldD l ch ((DL.map (crOf w1)).drop k)) ∧ Hid (ChS wr cb w1.heap.size ch.en ch.la ch.us (.slice Ae2 ch.en.length ce2) (.slice Au2 ch.us.length cu2)) ∧ Hid (Kb w1 wr cb w1.heap.size) ∧ Hid (K78 w9 wr) ∧ Hid (ch.us.length ≤ (k + 1) * 65535 ∧ ch.en.length ≤ (k + 1) * (65535 * E))) (fun i _ => DL.length - (RowKit.intOf i).toNat)
    case atStart => exact ⟨0, ⟨en, la, us⟩, Ae, ce, Au, cu, Nat.zero_le _, rfl, HFO, HC9, HK9, K78.refl _, Lib.hid (by have := HSL.out; simpa using this)⟩
    case round =>
      obtain ⟨k, ch, Ae2, ce2, Au2, cu2, hk, rfl, HF, HCK, HKK, HEK, HSK⟩ := hrel
      clear HFO HC9 HK9
      by_cases hlt : k < DL.length
      · have hltz : (k : Int) < (DL.length : Int) := by omega
        have hk0 : (0 : Int) ≤ (k : Int) := by omega
        obtain ⟨g8, c8', he8, _, hg8, hr8⟩ := (HO9.out.k78 HEK.out).at_ hlt
        injection he8 with e81 _ e82
        subst e81 e82
        have hdr : (DL.map (crOf w1)).drop k = crOf w1 DL[k] :: (DL.map (crOf w1)).drop (k + 1) := by
          rw [List.drop_eq_getElem_cons (by simpa using hlt), List.getElem_map]
        have hxL := HDM.out _ (List.getElem_mem hlt)
        have HTX := Lib.hid (fun W en la us Ae ce Au cu hk hc hu he => HTK.out W en la us Ae ce Au cu DL[k] hk hc hxL hu he)
        have hps := (HFC.out _ hxL).2.2.2.2.2
        have hel := entF_le HEE.out (crOf w1 DL[k]).ps
        have hfd : foldD l ch (crOf w1 DL[k] :: (DL.map (crOf w1)).drop (k + 1)) = if ch.la < DL[k].r.p then ch else if DL[k].r.p = ch.la then foldD l (stepC l ch (crOf w1 DL[k])) ((DL.map (crOf w1)).drop (k + 1)) else foldD l ch ((DL.map (crOf w1)).drop (k + 1)) := rfl
        rw [hdr, hfd] at HF
        clear hdr hfd
        obtain ⟨x, hx⟩ : ∃ x, x = DL[k] := ⟨_, rfl⟩
        simp only [← hx] at HF hr8 HTX hps hel
        clear hx hxL
        obtain ⟨y, hy⟩ : ∃ y, y = crOf w1 x := ⟨_, rfl⟩
        simp only [← hy] at HF HTX hps hel
        clear hy
        have d0 := hr8.c0
        have d1 := hr8.c1
        have d2 := hr8.c2
        have d3 := hr8.c3
        have d4 := hr8.c4
        have d5 := hr8.c5
        have q1 : wr.cell? ⟨cb, 1, none⟩ = some (.int .u64 ch.la) := (cell_of_row _ _ 1 _ 52 (0, 0) HCK.out.blk).trans rfl
        have hcbl : cb < wr.heap.size := (Array.getElem?_eq_some_iff.1 HCK.out.blk).1
        have hbw : Below wr.heap.size wr (wr.alloc (.cells x.row 78)) := (Below.refl _ _).alloc (Nat.le_refl _) _
        have hcs1 : ChS (wr.alloc (.cells x.row 78)) cb w1.heap.size ch.en ch.la ch.us (.slice Ae2 ch.en.length ce2) (.slice Au2 ch.us.length cu2) := ⟨(hbw.block _ (Array.getElem?_eq_some_iff.1 HCK.out.blk).1).trans HCK.out.blk, own_below8 HCK.out.ve hbw, own_below8 HCK.out.vu hbw⟩
        have hk1 : Kb w1 (wr.alloc (.cells x.row 78)) cb w1.heap.size := HKK.out.trans (Kb.of_below hbw HKK.out.size)
        have he1 : K78 w9 (wr.alloc (.cells x.row 78)) := HEK.out.trans (K78.below hbw)
        have HPS := Lib.hid hps
        have HEL := Lib.hid hel
        have HCK1 := Lib.hid hcs1
        have HKK1 := Lib.hid hk1
        have HEK1 := Lib.hid he1
        clear hr8 hbw hcs1 hk1 he1 hps hel
        by_cases hbr : ch.la < x.r.p
        · have HFE : Hid (foldD l ⟨en, la, us⟩ (DL.map (crOf w1)) = ch) := Lib.hid (by rw [HF.out, if_pos hbr])
          clear HF HCK HKK HEK
          obtain ⟨⟨xk, xf, xp, xn⟩, xe, xa, xl, xc⟩ := x
          simp only [Loc.v, Loc.row, Loc.pl] at *
          go_upto_region 16 with fail
          obtain ⟨wz, hwz⟩ : ∃ wz, wz = wr.alloc (.cells #[.int .u8 xk, .int .u64 xf, .int .u64 xp, .int .i64 xn, .int .i64 xe, .slice xa xl xc] 78) := ⟨_, rfl⟩
          rw [← hwz] at HCK1 HKK1 HEK1 ⊢
          clear hwz d0 d1 d2 d3 d4 d5 q1
          have hcs := HCK1.out
          have hu40 : ch.us.length ≤ 100000000 := by
            have h1 := (HBN.out (k + 1) (by have := HDL.out; omega)).1
            have h2 := HSK.out.1
            omega
          have HSRT := Lib.hid (sortI_any hcs.vu hu40)
          have r2 : wz.cell? ⟨cb, 2, none⟩ = some (.slice Au2 ch.us.length cu2) := (cell_of_row _ _ 2 _ 52 (0, 0) hcs.blk).trans rfl
          have hrbr : wz.heap[rb]? = some (.cells #[.slice none 0 0, .int .u64 0, .slice none 0 0] 52 (0, 0)) := (HKK1.out.block rb (Array.getElem?_eq_some_iff.1 HRB.out).1 (by have := HCBE.out; omega)).trans HRB.out
          have HRBR := Lib.hid hrbr
          clear hcs hu40 hrbr
          go_upto_region 17 with ((go_at_call 41; with_reducible refine HSRT.out.mono ?_); rintro e w11 ⟨rfl, Dn, hpn, hsn, hon, hgn⟩; have HPN := Lib.hid hpn; have HSN := Lib.hid hsn; have HON := Lib.hid hon; have HGN := Lib.hid hgn; clear hpn hsn hon hgn)
          have hcb11 := row_apart HCK1.out.vu HGN.out HCK1.out.blk (by decide)
          have hrb11 := row_apart HCK1.out.vu HGN.out HRBR.out (by decide)
          have r0 : w11.cell? ⟨cb, 0, none⟩ = some (.slice Ae2 ch.en.length ce2) := (cell_of_row _ _ 0 _ 52 (0, 0) hcb11).trans rfl
          have r1 : w11.cell? ⟨cb, 1, none⟩ = some (.int .u64 ch.la) := (cell_of_row _ _ 1 _ 52 (0, 0) hcb11).trans rfl
          have r3 : w11.cell? ⟨cb, 2, none⟩ = some (.slice Au2 ch.us.length cu2) := (cell_of_row _ _ 2 _ 52 (0, 0) hcb11).trans rfl
          have HRB11 := Lib.hid hrb11
          have hap : (Value.slice Ae2 ch.en.length ce2).ownBlock = none ∨ (Value.slice Ae2 ch.en.length ce2).ownBlock ≠ (Value.slice Au2 ch.us.length cu2).ownBlock := own_apart HCK1.out.ve HCK1.out.vu (by decide)
          have hve := own_row (ds := #[.slice Ae2 ch.en.length ce2, .int .u64 ch.la, .slice Au2 ch.us.length cu2]) (HCK1.out.ve.kept HGN.out hap) hrb11 (by decide)
          have hvu := own_row (ds := #[.slice Ae2 ch.en.length ce2, .int .u64 ch.la, .slice Au2 ch.us.length cu2]) HON.out hrb11 (by decide)
          have hk11 : Kb w1 w11 cb w1.heap.size := HKK1.out.trans (Kb.of_grown HGN.out HKK1.out.size (fun j hj => .inl (HCK1.out.vu.lt j hj).1))
          have HFIN : Hid (FoPost w l (.returned (.agg #[.slice Ae2 ch.en.length ce2, .int .u64 ch.la, .slice Au2 ch.us.length cu2])) (w11.setRow rb #[.slice Ae2 ch.en.length ce2, .int .u64 ch.la, .slice Au2 ch.us.length cu2])) := Lib.hid (by
            have hfe : foldD l (startC l (some (crOf w1 x))) (DL.map (crOf w1)) = ch := by rw [HST.out]; exact HFE.out
            refine ⟨L.map (crOf w1), (some (crOf w1 x)), DL.map (crOf w1), Dn, _, _, ⟨HC.out, HM.out, HDP.out, HDS.out, by rw [hfe]; exact HPN.out, HSN.out⟩, by rw [hfe], by rw [hfe]; exact Ent.of_own hve, ?_, ?_⟩
            · have h1 := hvu
              rw [← HPN.out.length_eq] at h1 ⊢
              exact Pls.of_own h1
            · exact setRow_below (hk11.bel HBK.out) (by have := HRBE.out; have := HLB.out; omega))
          clear hcb11 hrb11 hap hve hvu hk11 r2
          go_wp2_with (refine wpList_store_row rfl 52 _ _ rfl rb #[.slice Ae2 ch.en.length ce2, .int .u64 ch.la, .slice Au2 ch.us.length cu2] rfl rfl 52 _ HRB11.out size52 rfl (by simp [Value.oneCell']) ?_)
          refine bodyPost_ret (results_cell_row rfl _ _ rb 52 #[.slice Ae2 ch.en.length ce2, .int .u64 ch.la, .slice Au2 ch.us.length cu2] (0, 0) _ rfl (setRow_at HRB11.out) Try.underlying52 rfl (by kernel_rfl)) rfl HFIN.out
        · by_cases hq : x.r.p = ch.la
          · have HF2 : Hid (foldD l ⟨en, la, us⟩ (DL.map (crOf w1)) = foldD l (stepC l ch y) ((DL.map (crOf w1)).drop (k + 1))) := Lib.hid (by rw [HF.out, if_neg hbr, if_pos hq])
            have hb1 : ch.us.length ≤ 40000000 := by
              have h1 := (HBN.out (k + 1) (by have := HDL.out; omega)).1
              have h2 := HSK.out.1
              omega
            have hb2 : ch.en.length ≤ 40000000 := by
              have h1 := (HBN.out (k + 1) (by have := HDL.out; omega)).2
              have h2 := HSK.out.2
              omega
            have HSK2 : Hid ((stepC l ch y).us.length ≤ (k + 1 + 1) * 65535 ∧ (stepC l ch y).en.length ≤ (k + 1 + 1) * (65535 * E)) := Lib.hid (by
              unfold stepC
              simp only [List.length_append]
              have h1 := HSK.out
              have h2 := HPS.out
              have h3 := HEL.out
              have h4 : y.ps.length * E ≤ 65535 * E := Nat.mul_le_mul_right _ h2
              rw [Nat.succ_mul (k + 1), Nat.succ_mul (k + 1)]
              omega)
            have HT2 := Lib.hid (HTX.out _ _ _ _ _ _ _ _ HKK1.out HCK1.out hb1 hb2)
            clear HF HCK HKK HEK hb1 hb2 HTX
            obtain ⟨chen, chla, chus⟩ := ch
            obtain ⟨⟨xk, xf, xp, xn⟩, xe, xa, xl, xc⟩ := x
            simp only [Loc.v, Loc.row, Loc.pl] at *
            subst hq
            go_wp2_with ((go_at_call 32; with_reducible refine HT2.out.mono ?_); rintro e w12 ⟨rfl, ⟨Ae3, ce3, Au3, cu3, hc4⟩, hk4, he4⟩; have HC4 := Lib.hid hc4; have HK4 := Lib.hid hk4; have HE4 := Lib.hid (HEK1.out.trans he4); clear hc4 hk4 he4)
            go_roundw
            case rel => exact ⟨k + 1, stepC l ⟨chen, xp, chus⟩ y, Ae3, ce3, Au3, cu3, by omega, by go_num, HF2, HC4, HK4, HE4, HSK2⟩
            case measure => simp [RowKit.intOf]; omega
          · have HF2 : Hid (foldD l ⟨en, la, us⟩ (DL.map (crOf w1)) = foldD l ch ((DL.map (crOf w1)).drop (k + 1))) := Lib.hid (by rw [HF.out, if_neg hbr, if_neg hq])
            have hqb : (x.r.p == ch.la) = false := by simpa using hq
            have HSK2 : Hid (ch.us.length ≤ (k + 1 + 1) * 65535 ∧ ch.en.length ≤ (k + 1 + 1) * (65535 * E)) := Lib.hid ⟨Nat.le_trans HSK.out.1 (Nat.mul_le_mul_right _ (Nat.le_succ _)), Nat.le_trans HSK.out.2 (Nat.mul_le_mul_right _ (Nat.le_succ _))⟩
            clear HF HCK HKK HEK HTX
            obtain ⟨⟨xk, xf, xp, xn⟩, xe, xa, xl, xc⟩ := x
            simp only [Loc.v, Loc.row, Loc.pl] at *
            go_wp2
            go_roundw
            case rel => exact ⟨k + 1, ch, Ae2, ce2, Au2, cu2, by omega, by go_num, HF2, HCK1, HKK1, HEK1, HSK2⟩
            case measure => simp [RowKit.intOf]; omega
      · obtain rfl : k = DL.length := by omega
        have HFE : Hid (foldD l ⟨en, la, us⟩ (DL.map (crOf w1)) = ch) := Lib.hid (by
          rw [HF.out, List.drop_eq_nil_of_le (by simp)]
          rfl)
        clear HF
        go_upto_region 16 with fail
        have hcs := HCK.out
        have hu40 : ch.us.length ≤ 100000000 := by
          have h1 := (HBN.out (DL.length + 1) (by have := HDL.out; omega)).1
          have h2 := HSK.out.1
          omega
        have HSRT := Lib.hid (sortI_any hcs.vu hu40)
        have r2 : wr.cell? ⟨cb, 2, none⟩ = some (.slice Au2 ch.us.length cu2) := (cell_of_row _ _ 2 _ 52 (0, 0) hcs.blk).trans rfl
        have hrbr : wr.heap[rb]? = some (.cells #[.slice none 0 0, .int .u64 0, .slice none 0 0] 52 (0, 0)) := (HKK.out.block rb (Array.getElem?_eq_some_iff.1 HRB.out).1 (by have := HCBE.out; omega)).trans HRB.out
        have HRBR := Lib.hid hrbr
        clear hcs hu40 hrbr
        go_upto_region 17 with ((go_at_call 41; with_reducible refine HSRT.out.mono ?_); rintro e w11 ⟨rfl, Dn, hpn, hsn, hon, hgn⟩; have HPN := Lib.hid hpn; have HSN := Lib.hid hsn; have HON := Lib.hid hon; have HGN := Lib.hid hgn; clear hpn hsn hon hgn)
        have hcb11 := row_apart HCK.out.vu HGN.out HCK.out.blk (by decide)
        have hrb11 := row_apart HCK.out.vu HGN.out HRBR.out (by decide)
        have r0 : w11.cell? ⟨cb, 0, none⟩ = some (.slice Ae2 ch.en.length ce2) := (cell_of_row _ _ 0 _ 52 (0, 0) hcb11).trans rfl
        have r1 : w11.cell? ⟨cb, 1, none⟩ = some (.int .u64 ch.la) := (cell_of_row _ _ 1 _ 52 (0, 0) hcb11).trans rfl
        have r3 : w11.cell? ⟨cb, 2, none⟩ = some (.slice Au2 ch.us.length cu2) := (cell_of_row _ _ 2 _ 52 (0, 0) hcb11).trans rfl
        have HRB11 := Lib.hid hrb11
        have hap : (Value.slice Ae2 ch.en.length ce2).ownBlock = none ∨ (Value.slice Ae2 ch.en.length ce2).ownBlock ≠ (Value.slice Au2 ch.us.length cu2).ownBlock := own_apart HCK.out.ve HCK.out.vu (by decide)
        have hve := own_row (ds := #[.slice Ae2 ch.en.length ce2, .int .u64 ch.la, .slice Au2 ch.us.length cu2]) (HCK.out.ve.kept HGN.out hap) hrb11 (by decide)
        have hvu := own_row (ds := #[.slice Ae2 ch.en.length ce2, .int .u64 ch.la, .slice Au2 ch.us.length cu2]) HON.out hrb11 (by decide)
        have hk11 : Kb w1 w11 cb w1.heap.size := HKK.out.trans (Kb.of_grown HGN.out HKK.out.size (fun j hj => .inl (HCK.out.vu.lt j hj).1))
        have HFIN : Hid (FoPost w l (.returned (.agg #[.slice Ae2 ch.en.length ce2, .int .u64 ch.la, .slice Au2 ch.us.length cu2])) (w11.setRow rb #[.slice Ae2 ch.en.length ce2, .int .u64 ch.la, .slice Au2 ch.us.length cu2])) := Lib.hid (by
          have hfe : foldD l (startC l (some (crOf w1 x))) (DL.map (crOf w1)) = ch := by rw [HST.out]; exact HFE.out
          refine ⟨L.map (crOf w1), (some (crOf w1 x)), DL.map (crOf w1), Dn, _, _, ⟨HC.out, HM.out, HDP.out, HDS.out, by rw [hfe]; exact HPN.out, HSN.out⟩, by rw [hfe], by rw [hfe]; exact Ent.of_own hve, ?_, ?_⟩
          · have h1 := hvu
            rw [← HPN.out.length_eq] at h1 ⊢
            exact Pls.of_own h1
          · exact setRow_below (hk11.bel HBK.out) (by have := HRBE.out; have := HLB.out; omega))
        clear hcb11 hrb11 hap hve hvu hk11 r2
        go_wp2_with (refine wpList_store_row rfl 52 _ _ rfl rb #[.slice Ae2 ch.en.length ce2, .int .u64 ch.la, .slice Au2 ch.us.length cu2] rfl rfl 52 _ HRB11.out size52 rfl (by simp [Value.oneCell']) ?_)
        refine bodyPost_ret (results_cell_row rfl _ _ rb 52 #[.slice Ae2 ch.en.length ce2, .int .u64 ch.la, .slice Au2 ch.us.length cu2] (0, 0) _ rfl (setRow_at HRB11.out) Try.underlying52 rfl (by kernel_rfl)) rfl HFIN.out
end Go.Proofs.Ytajlddgemkkcdaa
