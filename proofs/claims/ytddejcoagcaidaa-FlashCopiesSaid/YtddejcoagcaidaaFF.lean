/- The walk of FlashCopies. Conditions stand in each theorem. -/
import Derived.Test.YtddejcoagcaidaaFG
namespace Go.Proofs.Ytddejcoagcaidaa
open Go.RowKit
set_option linter.unusedVariables false
set_option maxHeartbeats 16000000
set_option maxRecDepth 100000
attribute [local go_sem ↓ 100000] loadX_eq storeX_eq
theorem two_acts {W : World} {B : Nat} {X0 X1 : KA} (h : W.heap[B]? = some (.cells (X0.enc ++ X1.enc).toArray 46 (0, 0))) : Acts W (.slice (some ⟨B, 0, none⟩) 2 2) [X0, X1] := by
  have hc := fun k => cell_of_row W B k _ 46 (0, 0) h
  refine ⟨_, 2, rfl, fun _ => ⟨B, 0, rfl, (Array.getElem?_eq_some_iff.1 h).1, fun j hj => ?_⟩⟩
  have hj2 : j = 0 ∨ j = 1 := by simp at hj; omega
  rcases hj2 with rfl | rfl
  · exact ⟨hc 0, hc 1, hc 2, hc 3, hc 4⟩
  · exact ⟨hc 5, hc 6, hc 7, hc 8, hc 9⟩
/-- The law's own calls. -/
structure OwK (w W : World) (vo : Value) (k : Nat) (L : List KA) : Prop where
  own : W.ownsRow w.heap.size 43 5 vo k (encs L)
  len : L.length = k
  byt : ∀ e ∈ L, e.x.length ≤ 100 ∧ e.y.length ≤ 100 ∧ W.ownsRow w.heap.size 5 1 e.vd e.x.length (bv e.x) ∧ W.ownsRow w.heap.size 5 1 e.vs e.y.length (bv e.y)
theorem OwK.below {w W W' : World} {vo : Value} {k : Nat} {L : List KA} (h : OwK w W vo k L) (hb : Below W.heap.size W W') : OwK w W' vo k L :=
  ⟨own_below h.own hb, h.len, fun e he => ⟨(h.byt e he).1, (h.byt e he).2.1, own_below (h.byt e he).2.2.1 hb, own_below (h.byt e he).2.2.2 hb⟩⟩
theorem row5 {w : World} {b : Nat} {v0 v1 v2 v3 v4 : Value} {t : TypeId} (h : w.heap[b]? = some (.cells #[v0, v1, v2, v3, v4] t (0, 0))) :
    w.cell? ⟨b, 0, none⟩ = some v0 ∧ w.cell? ⟨b, 1, none⟩ = some v1 ∧ w.cell? ⟨b, 2, none⟩ = some v2 ∧ w.cell? ⟨b, 3, none⟩ = some v3 ∧ w.cell? ⟨b, 4, none⟩ = some v4 := by
  have e := fun k => cell_of_row w b k _ t (0, 0) h
  exact ⟨e 0, e 1, e 2, e 3, e 4⟩
theorem sc_chg (W : World) (T : Nat) {j : Nat} (u : Value) : Chg (· = T) W (W.setCell ⟨T, j, none⟩ u) := (Chg.refl (· = T) W).setCell rfl _
theorem own_ne43 {W : World} {base n T : Nat} {v : Value} {xs : List Value} {cs : Array Value} (h : W.ownsRow base 5 1 v n xs) (hT : W.heap[T]? = some (.cells cs 43 (0, 0))) : ∀ p, v.ownBlock = some p → ¬ p = T := fun p hp e => by
  subst e
  rcases h.2 with ⟨e0, _⟩ | ⟨p', cap, cur, e0, _, hp', _⟩
  · rw [e0] at hp; cases hp
  · rw [e0] at hp
    simp only [Value.ownBlock, Option.some.injEq] at hp
    subst hp
    exact absurd (ty_ne hp' hT) (by decide)
theorem fin13b {W7 wr : World} {T nx ny B : Nat} {wh bl pg : Int} {A5 A7 : Option Addr} {c5 c7 : Nat} {x y : List UInt8} {u : Value} (hx : W7.heap[T]? = some (.cells #[.int .i64 wh, .int .i64 bl, .int .i64 pg, .slice A5 nx c5, u] 43 (0, 0))) (h1 : W7.ownsRow wr.heap.size 5 1 (.slice A5 nx c5) nx (bv x)) (h2 : W7.ownsRow wr.heap.size 5 1 (.slice A7 ny c7) ny (bv y)) (hb : Below wr.heap.size wr W7) (hT : wr.heap.size ≤ T) (hB : B ≤ wr.heap.size) :
    Hid ((W7.setCell ⟨T, 4, none⟩ (.slice A7 ny c7)).heap[T]? = some (.cells #[.int .i64 wh, .int .i64 bl, .int .i64 pg, .slice A5 nx c5, .slice A7 ny c7] 43 (0, 0))) ∧ Hid ((W7.setCell ⟨T, 4, none⟩ (.slice A7 ny c7)).ownsRow B 5 1 (.slice A5 nx c5) nx (bv x)) ∧ Hid ((W7.setCell ⟨T, 4, none⟩ (.slice A7 ny c7)).ownsRow B 5 1 (.slice A7 ny c7) ny (bv y)) ∧ Hid (Below wr.heap.size wr (W7.setCell ⟨T, 4, none⟩ (.slice A7 ny c7))) :=
  ⟨Lib.hid (heap_setCell_same W7 T 4 _ 43 _ hx), Lib.hid (own_base (own_chg h1 (sc_chg W7 T _) (own_ne43 h1 hx)) hB), Lib.hid (own_base (own_chg h2 (sc_chg W7 T _) (own_ne43 h2 hx)) hB), Lib.hid (hb.setCell (p := ⟨T, 4, none⟩) hT _)⟩
theorem fin13a {W7 wr : World} {T nx ny B : Nat} {wh bl pg : Int} {A5 A7 : Option Addr} {c5 c7 : Nat} {x y : List UInt8} {u0 u : Value} (hx : W7.heap[T]? = some (.cells #[.int .i64 wh, .int .i64 bl, .int .i64 pg, u0, u] 43 (0, 0))) (h1 : W7.ownsRow wr.heap.size 5 1 (.slice A5 nx c5) nx (bv x)) (h2 : W7.ownsRow wr.heap.size 5 1 (.slice A7 ny c7) ny (bv y)) (hb : Below wr.heap.size wr W7) (hT : wr.heap.size ≤ T) (hB : B ≤ wr.heap.size) :
    Hid (((W7.setCell ⟨T, 3, none⟩ (.slice A5 nx c5)).setCell ⟨T, 4, none⟩ (.slice A7 ny c7)).heap[T]? = some (.cells #[.int .i64 wh, .int .i64 bl, .int .i64 pg, .slice A5 nx c5, .slice A7 ny c7] 43 (0, 0))) ∧ Hid (((W7.setCell ⟨T, 3, none⟩ (.slice A5 nx c5)).setCell ⟨T, 4, none⟩ (.slice A7 ny c7)).ownsRow B 5 1 (.slice A5 nx c5) nx (bv x)) ∧ Hid (((W7.setCell ⟨T, 3, none⟩ (.slice A5 nx c5)).setCell ⟨T, 4, none⟩ (.slice A7 ny c7)).ownsRow B 5 1 (.slice A7 ny c7) ny (bv y)) ∧ Hid (Below wr.heap.size wr ((W7.setCell ⟨T, 3, none⟩ (.slice A5 nx c5)).setCell ⟨T, 4, none⟩ (.slice A7 ny c7))) :=
  fin13b (heap_setCell_same W7 T 3 _ 43 (.slice A5 nx c5) hx) (own_chg h1 (sc_chg W7 T _) (own_ne43 h1 hx)) (own_chg h2 (sc_chg W7 T _) (own_ne43 h2 hx)) (hb.setCell (p := ⟨T, 3, none⟩) hT _) hT hB
/-- What a loop over what was read keeps. -/
structure Jr (wx W : World) (v1 v2 : Value) (n1 n2 : Nat) : Prop where
  low : Below wx.heap.size wx W
  r1 : ∃ l : List UInt8, W.ownsRow wx.heap.size 5 1 v1 n1 (bv l)
  r2 : ∃ l : List UInt8, W.ownsRow wx.heap.size 5 1 v2 n2 (bv l)
theorem jr_start {wx W : World} {A1 A2 : Option Addr} {n1 c1 n2 c2 : Nat} {x y : List UInt8} (h1 : Fresh2 wx W (.slice A1 n1 c1) x) (h2 : Fresh2 wx W (.slice A2 n2 c2) y) (hb : Below wx.heap.size wx W) : Jr wx W (.slice A1 n1 c1) (.slice A2 n2 c2) n1 n2 := by
  unfold Fresh2 at h1 h2
  obtain ⟨A, c, e⟩ := own_form h1
  obtain ⟨B, d, e'⟩ := own_form h2
  simp only [Value.slice.injEq] at e e'
  obtain ⟨rfl, rfl, rfl⟩ := e
  obtain ⟨rfl, rfl, rfl⟩ := e'
  exact ⟨hb, ⟨x, h1⟩, ⟨y, h2⟩⟩
theorem row_put {W : World} {B n p j : Nat} {v : Value} (u : UInt8) (h : ∃ l : List UInt8, W.ownsRow B 5 1 v n (bv l)) : ∃ l : List UInt8, (W.setCell ⟨p, j, none⟩ (.int .u8 (u.toNat : Int))).ownsRow B 5 1 v n (bv l) := by
  obtain ⟨l, h⟩ := h
  by_cases hs : v.ownBlock = some p
  · rcases h.2 with ⟨e0, _⟩ | ⟨p', cap, cur, e0, _, hp', _⟩
    · rw [e0] at hs; cases hs
    · rw [e0] at hs
      simp only [Value.ownBlock, Option.some.injEq] at hs
      subst hs
      refine ⟨l.set j u, ?_⟩
      rw [e0] at h ⊢
      rw [← bv_set]
      exact (h.stored j _).1
  · exact ⟨l, own_chg h ((Chg.refl (· = p) W).setCell rfl _) (fun q hq e2 => hs (by rw [hq, e2]))⟩
theorem row_byte {W : World} {B n c r : Nat} {A : Option Addr} (h : ∃ l : List UInt8, W.ownsRow B 5 1 (.slice A n c) n (bv l)) (hr : r < n) : ∃ (p : Nat) (a : UInt8), A = some ⟨p, 0, none⟩ ∧ B ≤ p ∧ W.cell? ⟨p, r, none⟩ = some (.int .u8 (a.toNat : Int)) ∧ W.frozen? ⟨p, r, none⟩ = false := by
  obtain ⟨l, h1⟩ := h
  have hl := h1.1
  rw [bv_length] at hl
  obtain ⟨p, c', e, _⟩ := h1.form (by omega)
  simp only [Value.slice.injEq] at e
  obtain ⟨rfl, _, rfl⟩ := e
  refine ⟨p, l[r]'(by omega), rfl, (h1.lt p rfl).1, ?_, h1.frozenAt r⟩
  rw [h1.cellAt r (by omega)]
  unfold bv
  rw [List.getElem?_map, List.getElem?_eq_getElem (by omega)]
  rfl
theorem Jr.put {wx W : World} {v1 v2 : Value} {n1 n2 p : Nat} (h : Jr wx W v1 v2 n1 n2) (hp : wx.heap.size ≤ p) (j : Nat) (u : UInt8) : Jr wx (W.setCell ⟨p, j, none⟩ (.int .u8 (u.toNat : Int))) v1 v2 n1 n2 :=
  ⟨h.low.setCell (p := ⟨p, j, none⟩) hp _, row_put u h.r1, row_put u h.r2⟩
theorem Jr.max {wx W : World} {v1 v2 : Value} {n1 n2 : Nat} (h : Jr wx W v1 v2 n1 n2) : (n1 : Int) ≤ 9223372036854775807 ∧ (n2 : Int) ≤ 9223372036854775807 := by
  have key : ∀ {v : Value} {n : Nat}, (∃ l : List UInt8, W.ownsRow wx.heap.size 5 1 v n (bv l)) → (n : Int) ≤ 9223372036854775807 := fun ⟨l, h1⟩ => by
    rcases h1.2 with ⟨_, e⟩ | ⟨p', cap, cur, e0, _, hp', h3, h4, _⟩
    · omega
    · unfold maxLen at h4
      omega
  exact ⟨key h.r1, key h.r2⟩
theorem Md.addr {w wx : World} {Ao : Option Addr} {co : Nat} {k : Nat} {M : List KA} {G0 G1 : Obj} {b g m D : Nat} {V : Nat → Value} {s : Dev} {xs : List Int} {vf vp ve : Value} {pb : Int} (h : Md w wx (.slice Ao k co) k M G0 G1 b g m D V s xs vf vp ve pb) (hk : 0 < k) : ∃ q, Ao = some ⟨q, 0, none⟩ := by
  obtain ⟨q, c', e, _⟩ := h.own.form hk
  simp only [Value.slice.injEq] at e
  exact ⟨q, e.1⟩
theorem Md.form {w wx : World} {vo : Value} {k : Nat} {M : List KA} {G0 G1 : Obj} {b g m D : Nat} {V : Nat → Value} {s : Dev} {xs : List Int} {vf vp ve : Value} {pb : Int} (h : Md w wx vo k M G0 G1 b g m D V s xs vf vp ve pb) {e : KA} (he : e ∈ M) : ∃ A c, e.vd = .slice A e.x.length c := by
  obtain ⟨l, h1, _⟩ := h.byt e he
  exact own_form h1
theorem Md.vcell {w wx : World} {q co : Nat} {k : Nat} {M : List KA} {G0 G1 : Obj} {b g m D : Nat} {V : Nat → Value} {s : Dev} {xs : List Int} {vf vp ve : Value} {pb : Int} (h : Md w wx (.slice (some ⟨q, 0, none⟩) k co) k M G0 G1 b g m D V s xs vf vp ve pb) {t : Nat} (ht : t < M.length) : wx.cell? ⟨q, t * 5 + 3, none⟩ = some (M[t]'ht).vd := by
  have e := (encs_at M t ht).2.2.2.1
  have := h.own.cells (g := q) rfl _ _ e
  rwa [add_plain, Nat.zero_add] at this
theorem Md.byte {w wx : World} {vo : Value} {k : Nat} {M : List KA} {G0 G1 : Obj} {b g m D : Nat} {V : Nat → Value} {s : Dev} {xs : List Int} {vf vp ve : Value} {pb : Int} (h : Md w wx vo k M G0 G1 b g m D V s xs vf vp ve pb) {t : Nat} (ht : t < M.length) {A : Option Addr} {nx c : Nat} (hv : (M[t]'ht).vd = .slice A nx c) (hn : nx = (M[t]'ht).x.length) {r : Nat} (hr : r < nx) :
    ∃ (p : Nat) (a : UInt8), A = some ⟨p, 0, none⟩ ∧ wx.cell? ⟨p, r, none⟩ = some (.int .u8 (a.toNat : Int)) ∧ wx.frozen? ⟨p, r, none⟩ = false ∧ Md w (wx.setCell ⟨p, r, none⟩ (.int .u8 ((a + 1).toNat : Int))) vo k M G0 G1 b g m D V s xs vf vp ve pb := by
  obtain ⟨l, h1, h2⟩ := h.byt _ (List.getElem_mem ht)
  have hl := h1.1
  rw [bv_length] at hl
  have hv2 := hv
  obtain ⟨p, c', e, _⟩ := h1.form (by omega)
  rw [hv] at e
  simp only [Value.slice.injEq] at e
  obtain ⟨rfl, _, rfl⟩ := e
  rw [hv, ← hn] at h1
  refine ⟨p, l[r]'(by omega), rfl, ?_, h1.frozenAt r, h.put (List.getElem_mem ht) (by rw [hv]; rfl) r _⟩
  rw [h1.cellAt r (by omega)]
  unfold bv
  rw [List.getElem?_map, List.getElem?_eq_getElem (by omega)]
  rfl
theorem md_start {w wr w2 : World} {vo : Value} {k : Nat} {M : List KA} {G0 G1 : Obj} {b g m : Nat} {V : Nat → Value} {s : Dev} {xs : List Int} {vf vp ve : Value} {pb : Int} {R Z : Array Value} (h : OwK w wr vo k M) (g0 : wr.heap[w.heap.size]? = some G0) (g1 : wr.heap[w.heap.size + 1]? = some G1) (hb : Below w.heap.size w wr) (n0 : ∀ cs fr, G0 ≠ .cells cs 5 fr) (n1 : ∀ cs fr, G1 ≠ .cells cs 5 fr) (hb2 : Below wr.heap.size wr w2) (hd : Dv w2 wr.heap.size b g m V s) (hr : Rd w2 xs s vf vp ve pb) (hlo : s.lo = wr.heap.size) (hR : R = rdv s vf vp ve pb) :
    Md w ((w2.alloc (.cells Z 35)).setRow w2.heap.size R) vo k M G0 G1 b g m w2.heap.size V s xs vf vp ve pb := by
  have hb3 : Below w2.heap.size w2 ((w2.alloc (.cells Z 35)).setRow w2.heap.size R) := setRow_below (balloc w2 _) (Nat.le_refl _)
  have hb4 : Below wr.heap.size wr ((w2.alloc (.cells Z 35)).setRow w2.heap.size R) := hb2.trans (hb3.mono hb2.size)
  refine ⟨own_below h.own hb4, fun e he => ⟨e.x, own_below (h.byt e he).2.2.1 hb4, fun p hp => by rw [hlo]; exact ((h.byt e he).2.2.1.lt p hp).2⟩, by rw [hlo]; exact hd.below hb3, hr.below hb3, by rw [← hR]; exact setRow_at (heap_alloc_new w2 _), (hb4.block _ (Array.getElem?_eq_some_iff.1 g0).1).trans g0, (hb4.block _ (Array.getElem?_eq_some_iff.1 g1).1).trans g1, n0, n1, hb.trans (hb4.mono hb.size)⟩
def KA.objc (e : KA) : Obj := .cells #[.int .i64 e.wh, .int .i64 e.bl, .int .i64 e.pg, e.vd, e.vs] 43
theorem own_next {w wr W8 W9 : World} {Av A A1 A2 : Option Addr} {k cv c nx ny e1 e2 : Nat} {wh bl pg : Int} {x y : List UInt8} {M : List KA} {G0 G1 : Obj} (Bw : World) (h : OwK w W8 (.slice Av k cv) k M) (h1 : W8.ownsRow w.heap.size 5 1 (.slice A1 nx e1) nx (bv x)) (h2 : W8.ownsRow w.heap.size 5 1 (.slice A2 ny e2) ny (bv y)) (hx : nx = x.length) (hy : ny = y.length) (hl : x.length ≤ 100 ∧ y.length ≤ 100)
    (hown : W9.ownsRow w.heap.size 43 5 (.slice A (k + 1) c) (k + 1) (encs M ++ KA.enc ⟨wh, bl, pg, .slice A1 nx e1, .slice A2 ny e2, x, y⟩)) (hg : (W8.alloc (KA.objc ⟨wh, bl, pg, .slice A1 nx e1, .slice A2 ny e2, x, y⟩)).grownBy W9 (Value.slice Av k cv).ownBlock) (hb : Below w.heap.size w W8) (g0 : wr.heap[w.heap.size]? = some G0) (g1 : wr.heap[w.heap.size + 1]? = some G1) (hb2 : Below wr.heap.size wr W8)
    (hn0 : ∀ cs fr, G0 ≠ .cells cs 43 fr) (hn1 : ∀ cs fr, G1 ≠ .cells cs 43 fr) :
    Hid (OwK w W9 (.slice A (k + 1) c) (k + 1) (M ++ [⟨wh, bl, pg, .slice A1 nx e1, .slice A2 ny e2, x, y⟩])) ∧ Hid (Below w.heap.size w W9) ∧ Hid (W9.heap[w.heap.size]? = some G0 ∧ W9.heap[w.heap.size + 1]? = some G1) := by
  have hc := Chg.of_grown hg
  have bal := balloc W8 (KA.objc ⟨wh, bl, pg, .slice A1 nx e1, .slice A2 ny e2, x, y⟩)
  have ha : ∀ p, (Value.slice Av k cv).ownBlock = some p → w.heap.size ≤ p ∧ ∃ cs, (W8.alloc (KA.objc ⟨wh, bl, pg, .slice A1 nx e1, .slice A2 ny e2, x, y⟩)).heap[p]? = some (.cells cs 43 (0, 0)) := fun p hp => by
    have h9 := own_below h.own bal
    refine ⟨(h9.lt p hp).1, ?_⟩
    rcases h9.2 with ⟨e0, _⟩ | ⟨p', cap, cur, e0, _, hp', _⟩
    · rw [e0] at hp; cases hp
    · rw [e0] at hp
      simp only [Value.ownBlock, Option.some.injEq] at hp
      subst hp
      exact ⟨cur, hp'⟩
  have keep : ∀ {n : Nat} {v : Value} {xs : List Value}, W8.ownsRow w.heap.size 5 1 v n xs → W9.ownsRow w.heap.size 5 1 v n xs := fun ho => by
    have h9 := own_below ho bal
    refine own_chg h9 hc (fun p hp hs => ?_)
    obtain ⟨_, cs, e⟩ := ha p hs
    exact own_ne43 h9 e p hp rfl
  have kg : ∀ {q : Nat} {G : Obj}, wr.heap[q]? = some G → (∀ cs fr, G ≠ .cells cs 43 fr) → W9.heap[q]? = some G := fun {q G} hq hn => by
    have h8 := (bal.block q (by have := (Array.getElem?_eq_some_iff.1 hq).1; have := hb2.size; omega)).trans ((hb2.block q (Array.getElem?_eq_some_iff.1 hq).1).trans hq)
    refine (hc.block q (Array.getElem?_eq_some_iff.1 h8).1 (fun hs => ?_)).trans h8
    obtain ⟨_, cs, e⟩ := ha q hs
    rw [h8] at e
    injection e with e
    exact hn _ _ e
  refine ⟨Lib.hid ⟨by rw [encs_append]; simpa [encs] using hown, by rw [List.length_append, h.len]; rfl, fun e he => ?_⟩, Lib.hid ((hb.trans (bal.mono hb.size)).trans (hc.below (Nat.le_trans hb.size bal.size) (fun i hi => (ha i hi).1))), Lib.hid ⟨kg g0 hn0, kg g1 hn1⟩⟩
  rcases List.mem_append.1 he with he | he
  · obtain ⟨a1, a2, a3, a4⟩ := h.byt e he
    exact ⟨a1, a2, keep a3, keep a4⟩
  · rw [List.mem_singleton.1 he]
    refine ⟨hl.1, hl.2, ?_, ?_⟩
    · show W9.ownsRow w.heap.size 5 1 (.slice A1 nx e1) x.length (bv x)
      rw [← hx]; exact keep h1
    · show W9.ownsRow w.heap.size 5 1 (.slice A2 ny e2) y.length (bv y)
      rw [← hy]; exact keep h2
theorem step_appB {ops : Array Oper} {o : Oper} {a : Act} {W : World} {K : Act → World → Prop} {Q : Exit → Act → World → Prop} {E : Prop} (hgd : o.guard = none) (s x : Operand)
    (ho : o.op = .call { callee := .builtin .append, args := #[s, x], argTypes := #[41, 41] }) (q : Nat) (A : Option Addr) (n c : Nat) (l : List UInt8) (hs : a.eval s = .slice (some ⟨q, 0, none⟩) 0 0) (hx : a.eval x = .slice A n c) (hq : W.heap[q]? = some (.cells #[] 5 (0, 0)))
    (hB : Byt W (.slice A n c) l) (hn : n = l.length) (hl : l.length ≤ 100000) (Wb : World) (hWb : Below Wb.heap.size Wb W) (hqb : Wb.heap.size ≤ q)
    (h : ∀ B d W', W'.ownsRow Wb.heap.size 5 1 (.slice B n d) n (bv l) → Chg (· = q) W W' → Below Wb.heap.size Wb W' → (∀ p, (Value.slice B n d).ownBlock = some p → p = q ∨ W.heap.size ≤ p) → K (a.put o.dst (.slice B n d)) W') :
    if Region.wanted o (yielded ops a.tmps) = true then Oper.wp Try.prog o a W K Q else E := by
  have hw : Region.wanted o (yielded ops a.tmps) = true := by simp [Region.wanted, hgd]
  rw [if_pos hw]
  have hown : W.ownsRow Wb.heap.size 5 1 (.slice (some ⟨q, 0, none⟩) 0 0) 0 (bv []) := ⟨by simp [bv], .inr ⟨q, 0, #[], rfl, hqb, hq, Nat.le_refl _, Nat.zero_le _, by simp, by simp [bv]⟩⟩
  obtain ⟨v', W', hrun, ho', hgr, hbk⟩ := run_append_own_src W Wb.heap.size 0 _ (.slice A n c) [] l o.type hown hB (by omega) hWb.size
  rw [Nat.zero_add, List.nil_append, ← hn] at ho'
  obtain ⟨B, d, rfl⟩ := own_form ho'
  have hc : Chg (· = q) W W' := (Chg.of_grown hgr).mono fun i hi => by simp only [Value.ownBlock, Option.some.injEq] at hi; exact hi.symm
  unfold Oper.wp execOp
  simp only [ho, resolve, invoke, builtin, Sem.run_bind, Sem.run_pure, Result.andThen_ok, List.map_toArray, List.map_cons, List.map_nil, hs, hx, hrun, Oper.upon]
  refine h B d W' ho' hc (hWb.trans (hc.below hWb.size (fun i hi => by omega))) (fun p hp => ?_)
  rcases hbk with hbk | hbk
  · rw [hbk] at hp
    simp only [Value.ownBlock, Option.some.injEq] at hp
    exact .inl hp.symm
  · rw [hbk] at hp
    simp only [Option.some.injEq] at hp
    exact .inr (by omega)
theorem copies_main (nb np sz : Nat) (en : Int) (vf vl : Value) (xs : List Int) (L : List KA) (X0 X1 : KA) (w : World) (hx : Ints w vf xs) (hR : ∀ x ∈ xs, I64 x) (hL : Acts w vl L) (hok : ∀ e ∈ L, KA.ok w e) (hX0 : X0.ok w) (hX1 : X1.ok w)
    (hs : smB nb np sz en = true) (hl : xs.length ≤ 20) (hf : fewB L 25 = true) (hf2 : fewB [X0, X1] 2 = true) (hv : valB nb np sz en = true) : Calls Try.prog 4 #[.agg #[.int .i64 (nb : Int), .int .i64 (np : Int), .int .i64 (sz : Int), .int .i64 en], vf, vl, .agg (X0.enc ++ X1.enc).toArray] w (LwP w) := by
  have hfew : L.length ≤ 25 ∧ ∀ e ∈ L, e.x.length ≤ 100 ∧ e.y.length ≤ 100 := by
    unfold fewB at hf
    rw [Bool.and_eq_true] at hf
    refine ⟨of_decide_eq_true hf.1, fun e he => ?_⟩
    have h2 := List.all_eq_true.1 hf.2 e he
    unfold fewE at h2
    rw [Bool.and_eq_true] at h2
    exact ⟨of_decide_eq_true h2.1, of_decide_eq_true h2.2⟩
  have HX01 : Hid (X0.x.length ≤ 100000 ∧ X0.y.length ≤ 100000 ∧ X1.x.length ≤ 100000 ∧ X1.y.length ≤ 100000) := Lib.hid (by
    unfold fewB at hf2
    rw [Bool.and_eq_true] at hf2
    have h0 := List.all_eq_true.1 hf2.2 X0 (by simp)
    have h1 := List.all_eq_true.1 hf2.2 X1 (by simp)
    unfold fewE at h0 h1
    rw [Bool.and_eq_true] at h0 h1
    have a0 := of_decide_eq_true h0.1
    have a1 := of_decide_eq_true h0.2
    have a2 := of_decide_eq_true h1.1
    have a3 := of_decide_eq_true h1.2
    omega)
  have HFW := Lib.hid hfew
  have HSM := Lib.hid (fun W => small_any (nb : Int) np sz en W)
  have HRT := Lib.hid (fun W => Right_any (nb : Int) np sz en W)
  have HF := Lib.hid (few_belowP 25 25 rfl (by omega) hL hok)
  have HWK := Lib.hid works_any
  have HSB := Lib.hid hs
  have HFB := Lib.hid hf
  have HFB2 := Lib.hid hf2
  have HVB := Lib.hid hv
  have HOK := Lib.hid hok
  have HOX := Lib.hid (And.intro hX0 hX1)
  have HL := Lib.hid hL
  have HX := Lib.hid hx
  have HR := Lib.hid hR
  obtain ⟨W1, hW1⟩ : ∃ W1 : World, W1 = (w.alloc (.cells #[.int .i64 (nb : Int), .int .i64 (np : Int), .int .i64 (sz : Int), .int .i64 en] 23)).alloc (.cells (X0.enc ++ X1.enc).toArray 46) := ⟨_, rfl⟩
  have hb1 : Below w.heap.size w W1 := by rw [hW1]; exact (balloc w _).alloc (by simp) _
  have hbx : W1.heap[w.heap.size]? = some (.cells #[.int .i64 (nb : Int), .int .i64 (np : Int), .int .i64 (sz : Int), .int .i64 en] 23 (0, 0)) := by rw [hW1]; exact heap_alloc2_old w _ _
  have htx : W1.heap[w.heap.size + 1]? = some (.cells (X0.enc ++ X1.enc).toArray 46 (0, 0)) := by rw [hW1]; exact heap_alloc2_new w _ _
  have HF2 := Lib.hid (few_belowP (w := W1) 2 2 rfl (by omega) (two_acts htx) (fun e he => by
    simp only [List.mem_cons, List.not_mem_nil, or_false] at he
    rcases he with rfl | rfl
    · exact ⟨hX0.1.below hb1, hX0.2.below hb1⟩
    · exact ⟨hX1.1.below hb1, hX1.2.below hb1⟩))
  have k0 := cell_of_row W1 w.heap.size 0 _ 23 (0, 0) hbx
  have k1 := cell_of_row W1 w.heap.size 1 _ 23 (0, 0) hbx
  have k2 := cell_of_row W1 w.heap.size 2 _ 23 (0, 0) hbx
  have k3 := cell_of_row W1 w.heap.size 3 _ 23 (0, 0) hbx
  simp only [List.getElem?_toArray, List.getElem?_cons_zero, List.getElem?_cons_succ] at k0 k1 k2 k3
  have HGX := Lib.hid hbx
  have HTX := Lib.hid htx
  have HB1 := Lib.hid hb1
  have HW1 := Lib.hid hW1
  obtain ⟨Af, cf, ef, _⟩ := hx
  obtain ⟨Al, cl, el, _⟩ := hL
  subst ef
  subst el
  have h20 : ¬ (20 : Int) < (xs.length : Int) := by omega
  have hx20 : (xs.length : Int) ≤ 20 := by omega
  have hll : (0 : Int) ≤ (L.length : Int) := by omega
  have hl40 : (L.length : Int) ≤ 25 := by have := HFW.out.1; omega
  have HX20 := Lib.hid hl
  clear hok hs hf hf2 hl hR hv hfew hX0 hX1 hbx htx hb1 hW1
  go_enter Try.func4, Try.ntmps4
  go_upto_region 1 with fail
  rw [← HW1.out]
  go_upto_region 3 with (first
    | ((go_at_call 8; with_reducible refine (HSM.out _).mono ?_); rintro e w2 ⟨he, hb⟩; rw [HSB.out] at he; subst he; have HB2 := Lib.hid hb; clear hb)
    | ((go_at_call 9; with_reducible refine (HF.out _ (HB1.out.trans (HB2.out.mono HB1.out.size))).mono ?_); rintro e w' ⟨he, hw⟩; rw [HFB.out] at he; subst he; subst hw)
    | ((go_at_call 9; with_reducible refine (HF2.out _ HB2.out).mono ?_); rintro e w' ⟨he, hw⟩; rw [HFB2.out] at he; subst he; subst hw; have j0 := (HB2.out.cell (p := ⟨w.heap.size, 0, none⟩) (Array.getElem?_eq_some_iff.1 HGX.out).1).trans k0; have j1 := (HB2.out.cell (p := ⟨w.heap.size, 1, none⟩) (Array.getElem?_eq_some_iff.1 HGX.out).1).trans k1; have j2 := (HB2.out.cell (p := ⟨w.heap.size, 2, none⟩) (Array.getElem?_eq_some_iff.1 HGX.out).1).trans k2; have j3 := (HB2.out.cell (p := ⟨w.heap.size, 3, none⟩) (Array.getElem?_eq_some_iff.1 HGX.out).1).trans k3)
    | ((go_at_call 16; with_reducible refine (HRT.out _).mono ?_); rintro e w3 ⟨he, hb⟩; rw [HVB.out] at he; subst he; have HB3 := Lib.hid (HB2.out.trans (hb.mono HB2.out.size)); clear hb j0 j1 j2 j3))
  have HB4 := Lib.hid (HB1.out.trans (HB3.out.mono HB1.out.size))
  clear h20 hx20
  have HX5 := Lib.hid (fun (h : 0 < xs.length) => HX20.out)
  go_wp2_with fail
  go_loopw [9] (fun v wr => ∃ k : Nat, k ≤ xs.length ∧ v = .int .i64 k ∧ wr = w3 ∧ Hid (∀ j (h : j < xs.length), j < k → 0 ≤ xs[j])) (fun v _ => xs.length - (RowKit.intOf v).toNat)
  case atStart => exact ⟨0, Nat.zero_le _, rfl, rfl, Lib.hid (fun j h hj => absurd hj (by omega))⟩
  case round =>
    obtain ⟨k, hk, rfl, rfl, HPk⟩ := hrel
    have kx : (xs.length : Int) ≤ 20 := by have := HX20.out; omega
    have k00 : (0 : Int) ≤ (k : Int) := by omega
    by_cases hlt : k < xs.length
    · have kk : (k : Int) < (xs.length : Int) := by omega
      obtain ⟨_, _, ee, hr⟩ := HX.out
      simp only [Value.slice.injEq] at ee
      obtain ⟨rfl, _, rfl⟩ := ee
      obtain ⟨ga, oa, rfl, hga, hcell⟩ := hr (by omega)
      have c0 := (HB4.out.cell (p := ⟨ga, oa + k, none⟩) hga).trans (hcell k hlt)
      obtain ⟨v, hv⟩ : ∃ v, v = xs[k] := ⟨_, rfl⟩
      rw [← hv] at c0
      clear hr hcell
      by_cases hneg : v < 0
      · clear hv
        go_wp2_with ((go_at_call 10; with_reducible refine (HWK.out _).mono ?_); rintro e w5 ⟨rfl, hb5⟩; have HB5 := Lib.hid hb5; clear hb5)
        (try simp only [Exit.inBlock, Exit.then])
        go_ret
        exact ⟨rfl, HB4.out.trans (HB5.out.mono HB4.out.size)⟩
      · have HV := Lib.hid hv
        clear hv
        go_wp2
        go_roundw
        case rel =>
          refine ⟨k + 1, by omega, by go_num, trivial, Lib.hid (fun j h hj => ?_)⟩
          by_cases e : j = k
          · subst e; have := HV.out; omega
          · exact HPk.out j h (by omega)
        case measure => simp [RowKit.intOf]; omega
    · have hkl : k = xs.length := by omega
      have HPOS : Hid (posB xs = true) := Lib.hid (posB_true (fun x hx => by
        obtain ⟨j, hj, rfl⟩ := List.mem_iff_getElem.1 hx
        exact HPk.out j hj (by omega)))
      clear HPk
      have kk : ¬ (k : Int) < (xs.length : Int) := by omega
      go_upto_region 8 with fail
      clear kk hlt hk k00 kx hkl
      go_wp2_with fail
      have HG4 := Lib.hid ((HB3.out.block _ (Array.getElem?_eq_some_iff.1 HGX.out).1).trans HGX.out)
      have HT4 := Lib.hid ((HB3.out.block _ (Array.getElem?_eq_some_iff.1 HTX.out).1).trans HTX.out)
      go_loopw [10, 11] (fun vo v wr => ∃ (k : Nat) (M : List KA), k ≤ L.length ∧ v = .int .i64 k ∧ Hid (OwK w wr vo k M) ∧ Hid (Below w.heap.size w wr) ∧ Hid (wr.heap[w.heap.size]? = some (.cells #[.int .i64 (nb : Int), .int .i64 (np : Int), .int .i64 (sz : Int), .int .i64 en] 23 (0, 0)) ∧ wr.heap[w.heap.size + 1]? = some (.cells (X0.enc ++ X1.enc).toArray 46 (0, 0)))) (fun _ v _ => L.length - (RowKit.intOf v).toNat)
      case atStart => exact ⟨0, [], Nat.zero_le _, rfl, Lib.hid ⟨World.ownsRow_nil _ _ _ _, rfl, fun e he => by cases he⟩, HB4, Lib.hid ⟨HG4.out, HT4.out⟩⟩
      case round =>
        obtain ⟨k, M, hk, rfl, HOW, HBk, HGT⟩ := hrel
        clear HB4 HG4 HT4 HB3 HB2
        have kx : (L.length : Int) ≤ 25 := by have := HFW.out.1; omega
        have k00 : (0 : Int) ≤ (k : Int) := by omega
        by_cases hlt : k < L.length
        · have kk : (k : Int) < (L.length : Int) := by omega
          obtain ⟨_, _, ee, hr⟩ := HL.out
          simp only [Value.slice.injEq] at ee
          obtain ⟨rfl, _, rfl⟩ := ee
          obtain ⟨ga, oa, rfl, hga, hcell⟩ := hr (by omega)
          obtain ⟨c0, c1, c2, c3, c4⟩ := hcell k hlt
          obtain ⟨Y, hY⟩ : ∃ Y, Y = L[k] := ⟨_, rfl⟩
          have hYk := HOK.out _ (List.getElem_mem hlt)
          have hY1 := HFW.out.2 _ (List.getElem_mem hlt)
          rw [← hY] at c0 c1 c2 c3 c4 hYk hY1
          obtain ⟨wh, bl, pg, vd, vs, x, y⟩ := Y
          obtain ⟨Ad, cd, hvd⟩ := byt_form hYk.1
          obtain ⟨As, cs, hvs⟩ := byt_form hYk.2
          simp only at hvd hvs c0 c1 c2 c3 c4 hY1
          subst hvd hvs
          obtain ⟨nx, hnx⟩ : ∃ nx, nx = x.length := ⟨_, rfl⟩
          obtain ⟨ny, hny⟩ : ∃ ny, ny = y.length := ⟨_, rfl⟩
          have HYK := Lib.hid (And.intro (hYk.1.below HBk.out) (hYk.2.below HBk.out))
          have HY1 := Lib.hid hY1
          simp only at HYK
          rw [← hnx, ← hny] at HYK
          rw [← hnx] at c3
          rw [← hny] at c4
          have HNX := Lib.hid (And.intro hnx hny)
          have d0 := (HBk.out.cell (p := ⟨ga, oa + k * 5, none⟩) hga).trans c0
          have d1 := (HBk.out.cell (p := ⟨ga, oa + k * 5 + 1, none⟩) hga).trans c1
          have d2 := (HBk.out.cell (p := ⟨ga, oa + k * 5 + 2, none⟩) hga).trans c2
          have d3 := (HBk.out.cell (p := ⟨ga, oa + k * 5 + 3, none⟩) hga).trans c3
          have d4 := (HBk.out.cell (p := ⟨ga, oa + k * 5 + 4, none⟩) hga).trans c4
          have z5 := cell_of_row _ wr.heap.size 0 _ 43 (0, 0) (heap_alloc_new wr (.cells #[.int .i64 0, .int .i64 0, .int .i64 0, .slice none 0 0, .slice none 0 0] 43))
          have z6 := cell_of_row _ wr.heap.size 1 _ 43 (0, 0) (heap_alloc_new wr (.cells #[.int .i64 0, .int .i64 0, .int .i64 0, .slice none 0 0, .slice none 0 0] 43))
          have z7 := cell_of_row _ wr.heap.size 2 _ 43 (0, 0) (heap_alloc_new wr (.cells #[.int .i64 0, .int .i64 0, .int .i64 0, .slice none 0 0, .slice none 0 0] 43))
          have z8 := cell_of_row _ wr.heap.size 3 _ 43 (0, 0) (heap_alloc_new wr (.cells #[.int .i64 0, .int .i64 0, .int .i64 0, .slice none 0 0, .slice none 0 0] 43))
          have z9 := cell_of_row _ wr.heap.size 4 _ 43 (0, 0) (heap_alloc_new wr (.cells #[.int .i64 0, .int .i64 0, .int .i64 0, .slice none 0 0, .slice none 0 0] 43))
          clear c0 c1 c2 c3 c4 hr hcell hY hYk hY1 hnx hny
          go_upto_region 13 with fail
          obtain ⟨B0, hB0⟩ : ∃ B0, B0 = wr.alloc (.cells #[.int .i64 wh, .int .i64 bl, .int .i64 pg, .slice Ad nx cd, .slice As ny cs] 43) := ⟨_, rfl⟩
          have hbx0 : B0.heap[wr.heap.size]? = some (.cells #[.int .i64 wh, .int .i64 bl, .int .i64 pg, .slice Ad nx cd, .slice As ny cs] 43 (0, 0)) := by rw [hB0]; exact heap_alloc_new wr _
          have hbw : Below wr.heap.size wr B0 := by rw [hB0]; exact balloc wr _
          rw [← hB0]
          obtain ⟨T, hT⟩ : ∃ T, T = wr.heap.size := ⟨_, rfl⟩
          rw [← hT] at hbx0 ⊢
          have HTW : Hid (wr.heap.size ≤ T) := Lib.hid (by omega)
          have HTL := Lib.hid (Array.getElem?_eq_some_iff.1 hbx0).1
          have HBX := Lib.hid hbx0
          have HBW := Lib.hid hbw
          clear hT hB0 hbw z5 z6 z7 z8 z9 d0 d1 d2 d3 d4
          obtain ⟨-, -, -, s3, s4⟩ := row5 hbx0
          have s3a := fun o => (row5 ((heap_alloc_old B0 o (Array.getElem?_eq_some_iff.1 hbx0).1).trans hbx0)).2.2.2.1
          have s4a := fun o => (row5 ((heap_alloc_old B0 o (Array.getElem?_eq_some_iff.1 hbx0).1).trans hbx0)).2.2.2.2
          have s3b := fun o o' => (row5 ((heap_alloc_old (B0.alloc o) o' (by have := (Array.getElem?_eq_some_iff.1 hbx0).1; simp; omega)).trans ((heap_alloc_old B0 o (Array.getElem?_eq_some_iff.1 hbx0).1).trans hbx0))).2.2.2.1
          have s4b := fun o o' => (row5 ((heap_alloc_old (B0.alloc o) o' (by have := (Array.getElem?_eq_some_iff.1 hbx0).1; simp; omega)).trans ((heap_alloc_old B0 o (Array.getElem?_eq_some_iff.1 hbx0).1).trans hbx0))).2.2.2.2
          clear hbx0
          go_cut [12] from 75 to 88 (fun p wx => ∃ (A1 : Option Addr) (c1 : Nat) (A2 : Option Addr) (c2 : Nat), p = .pointer (some ⟨T, 0, none⟩) ∧ Hid (wx.heap[T]? = some (.cells #[.int .i64 wh, .int .i64 bl, .int .i64 pg, .slice A1 nx c1, .slice A2 ny c2] 43 (0, 0))) ∧ Hid (wx.ownsRow w.heap.size 5 1 (.slice A1 nx c1) nx (bv x)) ∧ Hid (wx.ownsRow w.heap.size 5 1 (.slice A2 ny c2) ny (bv y)) ∧ Hid (Below wr.heap.size wr wx))
          case first =>
            go_region_law (first
            | (refine step_appB rfl (.tmp 75) (.tmp 77) rfl B0.heap.size Ad nx cd x rfl rfl (heap_alloc_new B0.drew _) (HYK.out.1.below (HBW.out.drew.alloc HBW.out.size _)) HNX.out.1 (by have := HY1.out.1; omega) wr (HBW.out.drew.alloc HBW.out.size _) (by have := HBW.out.size; omega) ?_; intro A5 c5 W5 ho5 hc5 hb5 hp5; have HO5 := Lib.hid ho5; have HB5 := Lib.hid hb5; have HP5 : Hid (∀ p, (Value.slice A5 nx c5).ownBlock = some p → p = B0.heap.size ∨ B0.heap.size + 1 ≤ p) := Lib.hid (fun p hp => (hp5 p hp).imp id (fun h => by simpa using h)); have hx5 : W5.heap[T]? = some (.cells #[.int .i64 wh, .int .i64 bl, .int .i64 pg, .slice Ad nx cd, .slice As ny cs] 43 (0, 0)) := (hc5.block T (by have := HTL.out; simp; omega) (by have := HTL.out; omega)).trans (by have := HTL.out; first | exact (heap_alloc_old _ _ (by simp; omega)).trans ((heap_alloc_old _ _ this).trans HBX.out) | exact (heap_alloc_old _ _ this).trans HBX.out); have HX5 := Lib.hid hx5; skip; obtain ⟨-, -, -, t3, t4⟩ := row5 hx5; have t4a := fun o => (row5 ((heap_alloc_old W5 o (Array.getElem?_eq_some_iff.1 hx5).1).trans hx5)).2.2.2.2; have t3a := fun o => (row5 ((heap_alloc_old W5 o (Array.getElem?_eq_some_iff.1 hx5).1).trans hx5)).2.2.2.1; have t4b := fun u o => (row5 ((heap_alloc_old (W5.setCell ⟨T, 3, none⟩ u) o (by rw [World.size_setCell]; exact (Array.getElem?_eq_some_iff.1 hx5).1)).trans (heap_setCell_same W5 T 3 _ 43 u hx5))).2.2.2.2; have r3 := frozen_of_row W5 T 3 _ 43 hx5; have r4 := frozen_of_row W5 T 4 _ 43 hx5; have r3a := fun o => frozen_of_row (W5.alloc o) T 3 _ 43 ((heap_alloc_old W5 o (Array.getElem?_eq_some_iff.1 hx5).1).trans hx5); have r4a := fun o => frozen_of_row (W5.alloc o) T 4 _ 43 ((heap_alloc_old W5 o (Array.getElem?_eq_some_iff.1 hx5).1).trans hx5); clear ho5 hc5 hb5 hp5 hx5) 
            | (refine step_appB rfl (.tmp 75) (.tmp 77) rfl B0.heap.size Ad nx cd x rfl rfl (heap_alloc2_old B0.drew _ _) (HYK.out.1.below ((HBW.out.drew.alloc HBW.out.size _).alloc (Nat.le_trans HBW.out.size (by simp)) _)) HNX.out.1 (by have := HY1.out.1; omega) wr ((HBW.out.drew.alloc HBW.out.size _).alloc (Nat.le_trans HBW.out.size (by simp)) _) (by have := HBW.out.size; omega) ?_; intro A5 c5 W5 ho5 hc5 hb5 hp5; have HO5 := Lib.hid ho5; have HB5 := Lib.hid hb5; have HP5 : Hid (∀ p, (Value.slice A5 nx c5).ownBlock = some p → p = B0.heap.size ∨ B0.heap.size + 1 + 1 ≤ p) := Lib.hid (fun p hp => (hp5 p hp).imp id (fun h => by simpa using h)); have hx5 : W5.heap[T]? = some (.cells #[.int .i64 wh, .int .i64 bl, .int .i64 pg, .slice Ad nx cd, .slice As ny cs] 43 (0, 0)) := (hc5.block T (by have := HTL.out; simp; omega) (by have := HTL.out; omega)).trans (by have := HTL.out; first | exact (heap_alloc_old _ _ (by simp; omega)).trans ((heap_alloc_old _ _ this).trans HBX.out) | exact (heap_alloc_old _ _ this).trans HBX.out); have HX5 := Lib.hid hx5; have HQ5 : Hid (W5.heap[B0.heap.size + 1]? = some (.cells #[] 5 (0, 0))) := Lib.hid ((hc5.block _ (by simp <;> omega) (by omega)).trans (heap_alloc2_new B0.drew _ _)); obtain ⟨-, -, -, t3, t4⟩ := row5 hx5; have t4a := fun o => (row5 ((heap_alloc_old W5 o (Array.getElem?_eq_some_iff.1 hx5).1).trans hx5)).2.2.2.2; have t3a := fun o => (row5 ((heap_alloc_old W5 o (Array.getElem?_eq_some_iff.1 hx5).1).trans hx5)).2.2.2.1; have t4b := fun u o => (row5 ((heap_alloc_old (W5.setCell ⟨T, 3, none⟩ u) o (by rw [World.size_setCell]; exact (Array.getElem?_eq_some_iff.1 hx5).1)).trans (heap_setCell_same W5 T 3 _ 43 u hx5))).2.2.2.2; have r3 := frozen_of_row W5 T 3 _ 43 hx5; have r4 := frozen_of_row W5 T 4 _ 43 hx5; have r3a := fun o => frozen_of_row (W5.alloc o) T 3 _ 43 ((heap_alloc_old W5 o (Array.getElem?_eq_some_iff.1 hx5).1).trans hx5); have r4a := fun o => frozen_of_row (W5.alloc o) T 4 _ 43 ((heap_alloc_old W5 o (Array.getElem?_eq_some_iff.1 hx5).1).trans hx5); clear ho5 hc5 hb5 hp5 hx5) 
            | (refine step_appB rfl (.tmp 75) (.tmp 77) rfl (B0.heap.size + 1) Ad nx cd x rfl rfl (heap_alloc2_new B0.drew _ _) (HYK.out.1.below ((HBW.out.drew.alloc HBW.out.size _).alloc (Nat.le_trans HBW.out.size (by simp)) _)) HNX.out.1 (by have := HY1.out.1; omega) wr ((HBW.out.drew.alloc HBW.out.size _).alloc (Nat.le_trans HBW.out.size (by simp)) _) (by have := HBW.out.size; omega) ?_; intro A5 c5 W5 ho5 hc5 hb5 hp5; have HO5 := Lib.hid ho5; have HB5 := Lib.hid hb5; have HP5 : Hid (∀ p, (Value.slice A5 nx c5).ownBlock = some p → p = (B0.heap.size + 1) ∨ B0.heap.size + 1 + 1 ≤ p) := Lib.hid (fun p hp => (hp5 p hp).imp id (fun h => by simpa using h)); have hx5 : W5.heap[T]? = some (.cells #[.int .i64 wh, .int .i64 bl, .int .i64 pg, .slice Ad nx cd, .slice As ny cs] 43 (0, 0)) := (hc5.block T (by have := HTL.out; simp; omega) (by have := HTL.out; omega)).trans (by have := HTL.out; first | exact (heap_alloc_old _ _ (by simp; omega)).trans ((heap_alloc_old _ _ this).trans HBX.out) | exact (heap_alloc_old _ _ this).trans HBX.out); have HX5 := Lib.hid hx5; have HQ5 : Hid (W5.heap[B0.heap.size]? = some (.cells #[] 5 (0, 0))) := Lib.hid ((hc5.block _ (by simp <;> omega) (by omega)).trans (heap_alloc2_old B0.drew _ _)); obtain ⟨-, -, -, t3, t4⟩ := row5 hx5; have t4a := fun o => (row5 ((heap_alloc_old W5 o (Array.getElem?_eq_some_iff.1 hx5).1).trans hx5)).2.2.2.2; have t3a := fun o => (row5 ((heap_alloc_old W5 o (Array.getElem?_eq_some_iff.1 hx5).1).trans hx5)).2.2.2.1; have t4b := fun u o => (row5 ((heap_alloc_old (W5.setCell ⟨T, 3, none⟩ u) o (by rw [World.size_setCell]; exact (Array.getElem?_eq_some_iff.1 hx5).1)).trans (heap_setCell_same W5 T 3 _ 43 u hx5))).2.2.2.2; have r3 := frozen_of_row W5 T 3 _ 43 hx5; have r4 := frozen_of_row W5 T 4 _ 43 hx5; have r3a := fun o => frozen_of_row (W5.alloc o) T 3 _ 43 ((heap_alloc_old W5 o (Array.getElem?_eq_some_iff.1 hx5).1).trans hx5); have r4a := fun o => frozen_of_row (W5.alloc o) T 4 _ 43 ((heap_alloc_old W5 o (Array.getElem?_eq_some_iff.1 hx5).1).trans hx5); clear ho5 hc5 hb5 hp5 hx5) 
            | (refine step_appB rfl (.tmp 79) (.tmp 81) rfl _ As ny cs y rfl rfl (HQ5.out) (HYK.out.2.below (HB5.out)) HNX.out.2 (by have := HY1.out.2; omega) wr (HB5.out) (by have := HBW.out.size; have := HB5.out.size; first | omega | (simp; omega)) ?_; intro A7 c7 W7 ho7 hc7 hb7 hp7; have HO7 := Lib.hid ho7; have HC7 := Lib.hid hc7; have HB7 := Lib.hid hb7; have hx7 : W7.heap[T]? = some (.cells #[.int .i64 wh, .int .i64 bl, .int .i64 pg, .slice Ad nx cd, .slice As ny cs] 43 (0, 0)) := (hc7.block T (by have := (Array.getElem?_eq_some_iff.1 HX5.out).1; first | omega | (simp; omega)) (by have := (Array.getElem?_eq_some_iff.1 HX5.out).1; have := HTL.out; first | omega | (simp; omega))).trans (HX5.out); have HX7 := Lib.hid hx7; have HO57 : Hid (W7.ownsRow wr.heap.size 5 1 (.slice A5 nx c5) nx (bv x)) := Lib.hid (own_chg (HO5.out) hc7 (fun p hp e => by have h1 := HP5.out p hp; have h2 := (HO5.out.lt p hp).2; have h3 := HTL.out; first | omega | (simp at e; omega))); obtain ⟨-, -, -, g3, g4⟩ := row5 hx7; have r73 := frozen_of_row W7 T 3 _ 43 hx7; have r74 := frozen_of_row W7 T 4 _ 43 hx7; clear ho7 hc7 hb7 hp7 hx7) 
            | (refine step_appB rfl (.tmp 79) (.tmp 81) rfl _ As ny cs y rfl rfl (heap_alloc_new W5 _) (HYK.out.2.below (HB5.out.alloc HB5.out.size _)) HNX.out.2 (by have := HY1.out.2; omega) wr (HB5.out.alloc HB5.out.size _) (by have := HBW.out.size; have := HB5.out.size; first | omega | (simp; omega)) ?_; intro A7 c7 W7 ho7 hc7 hb7 hp7; have HO7 := Lib.hid ho7; have HC7 := Lib.hid hc7; have HB7 := Lib.hid hb7; have hx7 : W7.heap[T]? = some (.cells #[.int .i64 wh, .int .i64 bl, .int .i64 pg, .slice Ad nx cd, .slice As ny cs] 43 (0, 0)) := (hc7.block T (by have := (Array.getElem?_eq_some_iff.1 HX5.out).1; first | omega | (simp; omega)) (by have := (Array.getElem?_eq_some_iff.1 HX5.out).1; have := HTL.out; first | omega | (simp; omega))).trans ((heap_alloc_old W5 _ (Array.getElem?_eq_some_iff.1 HX5.out).1).trans HX5.out); have HX7 := Lib.hid hx7; have HO57 : Hid (W7.ownsRow wr.heap.size 5 1 (.slice A5 nx c5) nx (bv x)) := Lib.hid (own_chg (own_below HO5.out (balloc W5 _)) hc7 (fun p hp e => by have h1 := HP5.out p hp; have h2 := (HO5.out.lt p hp).2; have h3 := HTL.out; first | omega | (simp at e; omega))); obtain ⟨-, -, -, g3, g4⟩ := row5 hx7; have r73 := frozen_of_row W7 T 3 _ 43 hx7; have r74 := frozen_of_row W7 T 4 _ 43 hx7; clear ho7 hc7 hb7 hp7 hx7) 
            | (refine step_appB rfl (.tmp 79) (.tmp 81) rfl _ As ny cs y rfl rfl ((heap_setCell_other W5 ⟨T, 3, none⟩ _ _ (by have := HTL.out; show _ ≠ T; omega)).trans HQ5.out) (HYK.out.2.below (HB5.out.setCell (p := ⟨T, 3, none⟩) HTW.out _)) HNX.out.2 (by have := HY1.out.2; omega) wr (HB5.out.setCell (p := ⟨T, 3, none⟩) HTW.out _) (by have := HBW.out.size; have := HB5.out.size; first | omega | (simp; omega)) ?_; intro A7 c7 W7 ho7 hc7 hb7 hp7; have HO7 := Lib.hid ho7; have HC7 := Lib.hid hc7; have HB7 := Lib.hid hb7; have hx7 : W7.heap[T]? = some (.cells #[.int .i64 wh, .int .i64 bl, .int .i64 pg, .slice A5 nx c5, .slice As ny cs] 43 (0, 0)) := (hc7.block T (by have := (Array.getElem?_eq_some_iff.1 HX5.out).1; first | omega | (simp; omega)) (by have := (Array.getElem?_eq_some_iff.1 HX5.out).1; have := HTL.out; first | omega | (simp; omega))).trans (heap_setCell_same W5 T 3 _ 43 (.slice A5 nx c5) HX5.out); have HX7 := Lib.hid hx7; have HO57 : Hid (W7.ownsRow wr.heap.size 5 1 (.slice A5 nx c5) nx (bv x)) := Lib.hid (own_chg (own_chg HO5.out (sc_chg W5 T _) (fun p hp e => by have h1 := HP5.out p hp; have h3 := HTL.out; omega)) hc7 (fun p hp e => by have h1 := HP5.out p hp; have h2 := (HO5.out.lt p hp).2; have h3 := HTL.out; first | omega | (simp at e; omega))); obtain ⟨-, -, -, g3, g4⟩ := row5 hx7; have r73 := frozen_of_row W7 T 3 _ 43 hx7; have r74 := frozen_of_row W7 T 4 _ 43 hx7; clear ho7 hc7 hb7 hp7 hx7) 
            | (refine step_appB rfl (.tmp 79) (.tmp 81) rfl _ As ny cs y rfl rfl (heap_alloc_new (W5.setCell ⟨T, 3, none⟩ (.slice A5 nx c5)) _) (HYK.out.2.below ((HB5.out.setCell (p := ⟨T, 3, none⟩) HTW.out _).alloc (by rw [World.size_setCell]; exact HB5.out.size) _)) HNX.out.2 (by have := HY1.out.2; omega) wr ((HB5.out.setCell (p := ⟨T, 3, none⟩) HTW.out _).alloc (by rw [World.size_setCell]; exact HB5.out.size) _) (by have := HBW.out.size; have := HB5.out.size; first | omega | (simp; omega)) ?_; intro A7 c7 W7 ho7 hc7 hb7 hp7; have HO7 := Lib.hid ho7; have HC7 := Lib.hid hc7; have HB7 := Lib.hid hb7; have hx7 : W7.heap[T]? = some (.cells #[.int .i64 wh, .int .i64 bl, .int .i64 pg, .slice A5 nx c5, .slice As ny cs] 43 (0, 0)) := (hc7.block T (by have := (Array.getElem?_eq_some_iff.1 HX5.out).1; first | omega | (simp; omega)) (by have := (Array.getElem?_eq_some_iff.1 HX5.out).1; have := HTL.out; first | omega | (simp; omega))).trans ((heap_alloc_old (W5.setCell ⟨T, 3, none⟩ (.slice A5 nx c5)) _ (by rw [World.size_setCell]; exact (Array.getElem?_eq_some_iff.1 HX5.out).1)).trans (heap_setCell_same W5 T 3 _ 43 (.slice A5 nx c5) HX5.out)); have HX7 := Lib.hid hx7; have HO57 : Hid (W7.ownsRow wr.heap.size 5 1 (.slice A5 nx c5) nx (bv x)) := Lib.hid (own_chg (own_below (own_chg HO5.out (sc_chg W5 T _) (fun p hp e => by have h1 := HP5.out p hp; have h3 := HTL.out; omega)) (balloc (W5.setCell ⟨T, 3, none⟩ (.slice A5 nx c5)) _)) hc7 (fun p hp e => by have h1 := HP5.out p hp; have h2 := (HO5.out.lt p hp).2; have h3 := HTL.out; first | omega | (simp at e; omega))); obtain ⟨-, -, -, g3, g4⟩ := row5 hx7; have r73 := frozen_of_row W7 T 3 _ 43 hx7; have r74 := frozen_of_row W7 T 4 _ 43 hx7; clear ho7 hc7 hb7 hp7 hx7) 
            | (refine step_appB rfl (.tmp 79) (.tmp 81) rfl _ As ny cs y rfl rfl ((heap_setCell_other (W5.alloc (.cells #[] 5)) ⟨T, 3, none⟩ _ _ (by have := (Array.getElem?_eq_some_iff.1 HX5.out).1; show _ ≠ T; omega)).trans (heap_alloc_new W5 _)) (HYK.out.2.below ((HB5.out.alloc HB5.out.size _).setCell (p := ⟨T, 3, none⟩) HTW.out _)) HNX.out.2 (by have := HY1.out.2; omega) wr ((HB5.out.alloc HB5.out.size _).setCell (p := ⟨T, 3, none⟩) HTW.out _) (by have := HBW.out.size; have := HB5.out.size; first | omega | (simp; omega)) ?_; intro A7 c7 W7 ho7 hc7 hb7 hp7; have HO7 := Lib.hid ho7; have HC7 := Lib.hid hc7; have HB7 := Lib.hid hb7; have hx7 : W7.heap[T]? = some (.cells #[.int .i64 wh, .int .i64 bl, .int .i64 pg, .slice A5 nx c5, .slice As ny cs] 43 (0, 0)) := (hc7.block T (by have := (Array.getElem?_eq_some_iff.1 HX5.out).1; first | omega | (simp; omega)) (by have := (Array.getElem?_eq_some_iff.1 HX5.out).1; have := HTL.out; first | omega | (simp; omega))).trans (heap_setCell_same (W5.alloc (.cells #[] 5)) T 3 _ 43 (.slice A5 nx c5) ((heap_alloc_old W5 _ (Array.getElem?_eq_some_iff.1 HX5.out).1).trans HX5.out)); have HX7 := Lib.hid hx7; have HO57 : Hid (W7.ownsRow wr.heap.size 5 1 (.slice A5 nx c5) nx (bv x)) := Lib.hid (own_chg (own_chg (own_below HO5.out (balloc W5 _)) (sc_chg (W5.alloc (.cells #[] 5)) T _) (fun p hp e => by have h1 := HP5.out p hp; have h3 := HTL.out; omega)) hc7 (fun p hp e => by have h1 := HP5.out p hp; have h2 := (HO5.out.lt p hp).2; have h3 := HTL.out; first | omega | (simp at e; omega))); obtain ⟨-, -, -, g3, g4⟩ := row5 hx7; have r73 := frozen_of_row W7 T 3 _ 43 hx7; have r74 := frozen_of_row W7 T 4 _ 43 hx7; clear ho7 hc7 hb7 hp7 hx7))
            all_goals
              go_wp2
              go_meet
              case rel => first
                | exact ⟨A5, c5, A7, c7, rfl, fin13a HX7.out HO57.out HO7.out HB7.out HTW.out (Nat.le_trans HBk.out.size (Nat.le_refl _))⟩
                | exact ⟨A5, c5, A7, c7, rfl, fin13b HX7.out HO57.out HO7.out HB7.out HTW.out (Nat.le_trans HBk.out.size (Nat.le_refl _))⟩
          case rest =>
            obtain ⟨A1, e1, A2, e2, rfl, HX14, HO1, HO2, HB14⟩ := hcut
            obtain ⟨W8, hW8⟩ : ∃ W8, W8 = wc := ⟨_, rfl⟩
            subst hW8
            clear HBX HBW HTL s3 s4 s3a s4a s3b s4b
            have ho8 := HOW.out.below HB14.out
            have hvo : ∃ A c, u10 = .slice A k c := own_form ho8.own
            obtain ⟨Av, cv, hvo⟩ := hvo
            subst hvo
            obtain ⟨A, c, W9, hrun, hown9, hgr9⟩ := app_one (W8.alloc (KA.objc ⟨wh, bl, pg, .slice A1 nx e1, .slice A2 ny e2, x, y⟩)) w.heap.size W8.heap.size k 25 (.slice Av k cv) (encs M) ⟨wh, bl, pg, .slice A1 nx e1, .slice A2 ny e2, x, y⟩ (own_below ho8.own (balloc W8 _)) (heap_alloc_new W8 _) ⟨⟨_, _, _, rfl⟩, ⟨_, _, _, rfl⟩⟩ (by have := HFW.out.1; omega) (by have := HBk.out.size; have := HB14.out.size; simp; omega)
            have HRN : Hid ((Builtin.append_ #[25, 25] 25 #[.slice Av k cv, .slice (some ⟨W8.heap.size, 0, none⟩) 1 1]).run Try.prog (W8.alloc (.cells #[.int .i64 wh, .int .i64 bl, .int .i64 pg, .slice A1 nx e1, .slice A2 ny e2] 43)) = .ok (.slice A (k + 1) c) W9) := Lib.hid hrun
            have HN9 := Lib.hid (own_next w ho8 HO1.out HO2.out HNX.out.1 HNX.out.2 HY1.out hown9 hgr9 (HBk.out.trans (HB14.out.mono HBk.out.size)) (HGT.out.1) (HGT.out.2) HB14.out (fun cs fr e => by injection e with _ e; exact absurd e (by decide)) (fun cs fr e => by injection e with _ e; exact absurd e (by decide)))
            obtain ⟨x0, x1, x2, x3, x4⟩ := row5 HX14.out
            clear ho8 hrun hown9 hgr9
            go_wp2_with (at_builtin; refine wpList_append_run rfl (.tmp 85) (.tmp 87) 25 25 rfl _ _ _ W9 rfl rfl HRN.out ?_)
            go_roundw
            case rel => exact ⟨k + 1, _, by omega, by go_num, HN9.out.1, HN9.out.2.1, HN9.out.2.2⟩
            case measure => simp [RowKit.intOf]; omega
        · have hkl : k = L.length := by omega
          have kk : ¬ (k : Int) < (L.length : Int) := by omega
          have hM := HOW.out.len
          obtain ⟨Ao, co, hvo⟩ := own_form HOW.out.own
          subst hvo
          have HST := Lib.hid (started_ok nb np sz en (.slice Af xs.length cf) (.slice Ao k co) xs M wr (HX.out.below' HBk.out) HR.out (Acts.of_own HOW.out.own) (fun e he => ⟨Byt.of_own (HOW.out.byt e he).2.2.1, Byt.of_own (HOW.out.byt e he).2.2.2⟩) HX20.out ⟨by have := HFW.out.1; omega, fun e he => ⟨(HOW.out.byt e he).1, (HOW.out.byt e he).2.1⟩⟩ HVB.out HPOS.out)
          have q0 := cell_of_row wr w.heap.size 0 _ 23 (0, 0) HGT.out.1
          have q1 := cell_of_row wr w.heap.size 1 _ 23 (0, 0) HGT.out.1
          have q2 := cell_of_row wr w.heap.size 2 _ 23 (0, 0) HGT.out.1
          have q3 := cell_of_row wr w.heap.size 3 _ 23 (0, 0) HGT.out.1
          simp only [List.getElem?_toArray, List.getElem?_cons_zero, List.getElem?_cons_succ] at q0 q1 q2 q3
          have HM := Lib.hid (And.intro hM hkl)
          have HML := Lib.hid (fun e he => (HOW.out.byt e he).1)
          have HLW := Lib.hid HBk.out.size
          clear hM hkl hlt hk kx k00
          go_wp2_with ((go_at_call 17; with_reducible refine HST.out.mono ?_); rintro e w2 ⟨b, g, m, V, s, vf1, vp1, ve1, pb1, rfl, hdv, hgd, hrd, hsn, hsx, hb2⟩; obtain ⟨R3, hR3⟩ : ∃ R3, R3 = rdv s vf1 vp1 ve1 pb1 := ⟨_, rfl⟩; rw [← hR3]; have HR3 := Lib.hid (hR3 ▸ R35.rd hrd); have HRD3 := Lib.hid (And.intro hrd hR3); have V3 := HR3.out.store (heap_alloc_new w2 (.cells #[.int .i64 0, .int .i64 0, .int .i64 0, .int .i64 0, .slice none 0 0, .slice none 0 0, .slice none 0 0, .int .i64 0, .int .i64 0, .int .i64 0, .bool false] 35)) rfl; have HDV := Lib.hid hdv; have HGD := Lib.hid hgd; have HSN := Lib.hid hsn; have HSX := Lib.hid hsx; have HB2 := Lib.hid hb2; clear hdv hgd hrd hsn hsx hb2 hR3)
          have hMd := md_start (Z := #[.int .i64 0, .int .i64 0, .int .i64 0, .int .i64 0, .slice none 0 0, .slice none 0 0, .slice none 0 0, .int .i64 0, .int .i64 0, .int .i64 0, .bool false]) HOW.out HGT.out.1 HGT.out.2 HBk.out (fun cs fr e => by injection e with _ e; exact absurd e (by decide)) (fun cs fr e => by injection e with _ e; exact absurd e (by decide)) HB2.out HDV.out HRD3.out.1 HSX.out.2.1 HRD3.out.2
          obtain ⟨D, hD⟩ : ∃ D, D = w2.heap.size := ⟨_, rfl⟩
          obtain ⟨W4, hW4⟩ : ∃ W4, W4 = (w2.alloc (.cells #[.int .i64 0, .int .i64 0, .int .i64 0, .int .i64 0, .slice none 0 0, .slice none 0 0, .slice none 0 0, .int .i64 0, .int .i64 0, .int .i64 0, .bool false] 35)).setRow w2.heap.size R3 := ⟨_, rfl⟩
          rw [← hW4] at hMd ⊢
          rw [← hD] at hMd ⊢
          have HMD := Lib.hid hMd
          have HLO : Hid (w.heap.size ≤ s.lo) := Lib.hid (by have h1 := HLW.out; have h2 := HSX.out.2.1; omega)
          clear hMd hD hW4 V3 HRD3 HDV HB2 q0 q1 q2 q3 HOW HBk HGT HST
          have hk25 : (k : Int) ≤ 25 := by have := HM.out; have := HFW.out.1; omega
          have hk00 : (0 : Int) ≤ (k : Int) := by omega
          go_loopw [16] (fun v wx => ∃ t : Nat, t ≤ k ∧ v = .int .i64 t ∧ Hid (Md w wx (.slice Ao k co) k M (.cells #[.int .i64 (nb : Int), .int .i64 (np : Int), .int .i64 (sz : Int), .int .i64 en] 23) (.cells (X0.enc ++ X1.enc).toArray 46) b g m D V s xs vf1 vp1 ve1 pb1)) (fun v _ => k - (RowKit.intOf v).toNat)
          case atStart => exact ⟨0, Nat.zero_le _, rfl, HMD⟩
          case round =>
            obtain ⟨t, htk, rfl, HMt⟩ := hrel
            clear HMD
            have t00 : (0 : Int) ≤ (t : Int) := by omega
            by_cases hlt : t < k
            · have tt : (t : Int) < (k : Int) := by omega
              obtain ⟨q, hq⟩ := HMt.out.addr (by omega)
              subst hq
              have hmt : t < M.length := by have := HM.out.1; omega
              obtain ⟨A, c, hvd⟩ := HMt.out.form (List.getElem_mem hmt)
              obtain ⟨nx, hnx⟩ : ∃ nx, nx = (M[t]'hmt).x.length := ⟨_, rfl⟩
              rw [← hnx] at hvd
              have hn100 : nx ≤ 100 := by rw [hnx]; exact HML.out _ (List.getElem_mem hmt)
              have n100 : (nx : Int) ≤ 100 := by omega
              have n00 : (0 : Int) ≤ (nx : Int) := by omega
              have HVD := Lib.hid (And.intro hvd hnx)
              clear hvd hnx hn100
              have HCE := Lib.hid (fun W (hW : Md w W (.slice (some ⟨q, 0, none⟩) k co) k M (.cells #[.int .i64 (nb : Int), .int .i64 (np : Int), .int .i64 (sz : Int), .int .i64 en] 23) (.cells (X0.enc ++ X1.enc).toArray 46) b g m D V s xs vf1 vp1 ve1 pb1) => (show W.cell? ⟨q, t * 5 + 3, none⟩ = some (.slice A nx c) from by rw [← HVD.out.1]; exact hW.vcell hmt))
              go_wp2_with fail
              go_loopw [17] (fun v wx => ∃ r : Nat, r ≤ nx ∧ v = .int .i64 r ∧ Hid (Md w wx (.slice (some ⟨q, 0, none⟩) k co) k M (.cells #[.int .i64 (nb : Int), .int .i64 (np : Int), .int .i64 (sz : Int), .int .i64 en] 23) (.cells (X0.enc ++ X1.enc).toArray 46) b g m D V s xs vf1 vp1 ve1 pb1)) (fun v _ => nx - (RowKit.intOf v).toNat)
              case atStart => exact ⟨0, Nat.zero_le _, rfl, HMt⟩
              case round =>
                obtain ⟨r, hrn, rfl, HMr⟩ := hrel
                clear HMt
                have r00 : (0 : Int) ≤ (r : Int) := by omega
                have e1 := HCE.out _ HMr.out
                by_cases hlr : r < nx
                · have rr : (r : Int) < (nx : Int) := by omega
                  obtain ⟨p, a, hA, c5, f5, hput⟩ := HMr.out.byte hmt HVD.out.1 HVD.out.2 hlr
                  subst hA
                  have hu : IntKind.u8.wrap ((a.toNat : Int) + 1) = (((a + 1).toNat : Nat) : Int) := by have := u8_next a; injection this
                  have HPUT := Lib.hid hput
                  clear hput
                  go_wp2
                  go_roundw
                  case rel => exact ⟨r + 1, by omega, by go_num, HPUT⟩
                  case measure => simp [RowKit.intOf]; omega
                · have rr : ¬ (r : Int) < (nx : Int) := by omega
                  go_wp2
                  go_roundw
                  case rel => exact ⟨t + 1, by omega, by go_num, HMr⟩
                  case measure => simp [RowKit.intOf]; omega
            · have tt : ¬ (t : Int) < (k : Int) := by omega
              have hnb4 : (nb : Int) ≤ 4096 := by have := HGD.out.nb.2; have := HSX.out.1; omega
              have hnb0 : (0 : Int) ≤ (nb : Int) := by omega
              clear hlt htk t00 hk25 hk00
              go_upto_region 25 with fail
              clear tt
              go_wp2_with fail
              go_loopw [18] (fun v wx => ∃ t : Nat, t ≤ nb ∧ v = .int .i64 t ∧ Hid (Md w wx (.slice Ao k co) k M (.cells #[.int .i64 (nb : Int), .int .i64 (np : Int), .int .i64 (sz : Int), .int .i64 en] 23) (.cells (X0.enc ++ X1.enc).toArray 46) b g m D V s xs vf1 vp1 ve1 pb1)) (fun v _ => nb - (RowKit.intOf v).toNat)
              case atStart => exact ⟨0, Nat.zero_le _, rfl, HMt⟩
              case round =>
                obtain ⟨i, hib, rfl, HMi⟩ := hrel
                clear HMt
                obtain ⟨wx, hwx⟩ : ∃ wx, wx = wr := ⟨_, rfl⟩
                subst hwx
                have i00 : (0 : Int) ≤ (i : Int) := by omega
                have gg0 := cell_of_row wx w.heap.size 0 _ 23 (0, 0) HMi.out.g0
                simp only [List.getElem?_toArray, List.getElem?_cons_zero] at gg0
                by_cases hli : i < nb
                · have ii : (i : Int) < (nb : Int) := by omega
                  have HRE := Lib.hid (Read2_any HMi.out.dv HGD.out (i : Int) 0)
                  go_upto_region 29 with ((go_at_call 18; with_reducible refine HRE.out.mono ?_); rintro e w5 ⟨A1, n1, c1, A2, n2, c2, rfl, hf1, hf2, hb5⟩; have HJ := Lib.hid (jr_start hf1 hf2 hb5); clear hf1 hf2 hb5)
                  have hm1 := HJ.out.max.1
                  have hm2 := HJ.out.max.2
                  have m1 : (0 : Int) ≤ (n1 : Int) := by omega
                  have m2 : (0 : Int) ≤ (n2 : Int) := by omega
                  clear HRE
                  go_wp2_with fail
                  go_loopw [22] (fun v W => ∃ r : Nat, r ≤ n1 ∧ v = .int .i64 r ∧ Hid (Jr wx W (.slice A1 n1 c1) (.slice A2 n2 c2) n1 n2)) (fun v _ => n1 - (RowKit.intOf v).toNat)
                  case atStart => exact ⟨0, Nat.zero_le _, rfl, HJ⟩
                  case round =>
                    obtain ⟨r, hrn, rfl, HJr⟩ := hrel
                    clear HJ
                    have r00 : (0 : Int) ≤ (r : Int) := by omega
                    by_cases hlr : r < n1
                    · have rr : (r : Int) < (n1 : Int) := by omega
                      obtain ⟨p, a, hA, hpw, c5, f5⟩ := row_byte HJr.out.r1 hlr
                      subst hA
                      have hu : IntKind.u8.wrap ((a.toNat : Int) + 1) = (((a + 1).toNat : Nat) : Int) := by have := u8_next a; injection this
                      have HPUT := Lib.hid (HJr.out.put hpw r (a + 1))
                      go_wp2
                      go_roundw
                      case rel => exact ⟨r + 1, by omega, by go_num, HPUT⟩
                      case measure => simp [RowKit.intOf]; omega
                    · have rr : ¬ (r : Int) < (n1 : Int) := by omega
                      clear hlr
                      go_upto_region 33 with fail
                      clear rr hrn r00
                      go_wp2_with fail
                      go_loopw [23] (fun v W => ∃ r : Nat, r ≤ n2 ∧ v = .int .i64 r ∧ Hid (Jr wx W (.slice A1 n1 c1) (.slice A2 n2 c2) n1 n2)) (fun v _ => n2 - (RowKit.intOf v).toNat)
                      case atStart => exact ⟨0, Nat.zero_le _, rfl, HJr⟩
                      case round =>
                        obtain ⟨r2, hrn, rfl, HJ2⟩ := hrel
                        clear HJr
                        have r00 : (0 : Int) ≤ (r2 : Int) := by omega
                        by_cases hlr : r2 < n2
                        · have rr : (r2 : Int) < (n2 : Int) := by omega
                          obtain ⟨p, a, hA, hpw, c5, f5⟩ := row_byte HJ2.out.r2 hlr
                          subst hA
                          have hu : IntKind.u8.wrap ((a.toNat : Int) + 1) = (((a + 1).toNat : Nat) : Int) := by have := u8_next a; injection this
                          have HPUT := Lib.hid (HJ2.out.put hpw r2 (a + 1))
                          go_wp2
                          go_roundw
                          case rel => exact ⟨r2 + 1, by omega, by go_num, HPUT⟩
                          case measure => simp [RowKit.intOf]; omega
                        · have rr : ¬ (r2 : Int) < (n2 : Int) := by omega
                          have HME := Lib.hid (HMi.out.below HJ2.out.low)
                          go_wp2
                          go_roundw
                          case rel => exact ⟨i + 1, by omega, by go_num, HME⟩
                          case measure => simp [RowKit.intOf]; omega
                · have ii : ¬ (i : Int) < (nb : Int) := by omega
                  go_upto_region 37 with fail
                  clear ii hli hib i00 gg0 hnb4 hnb0
                  have HCP := Lib.hid (Copy_any HMi.out.dv HGD.out HSX.out.2.2)
                  go_upto_region 38 with ((go_at_call 19; with_reducible refine HCP.out.mono ?_); rintro e w6 ⟨b2, g2, m2, V2, rfl, hc6, hd6, hb6⟩; have HC6 := Lib.hid hc6; have HD6 := Lib.hid hd6; have HB6 := Lib.hid hb6; clear hc6 hd6 hb6)
                  have HM6 := Lib.hid (HMi.out.below HB6.out)
                  have hsn : s.n ≤ 1000000000 := by have := HSN.out; have := HM.out; have := HFW.out.1; omega
                  have hxl : xs.length ≤ 1000 := by have := HX20.out; omega
                  have HNL := Lib.hid (And.intro hsn hxl)
                  have hbw : w.heap.size ≤ b := Nat.le_trans (Nat.le_trans (by have := HLO.out; omega) (Nat.le_refl s.lo)) HMi.out.dv.hb
                  have hbw2 : w.heap.size ≤ b2 := Nat.le_trans HMi.out.low.size HC6.out.hb
                  have HA1 := Lib.hid (act_any HD6.out HGD.out HM6.out.rd hsn hxl X0 ⟨HOX.out.1.1.below HM6.out.low, HOX.out.1.2.below HM6.out.low⟩ HX01.out.1 HX01.out.2.1 (HOX.out.1.1.off (fun q hq => by rw [hq]; exact hbw)) (HOX.out.1.2.off (fun q hq => by rw [hq]; exact hbw)))
                  obtain ⟨R, hR⟩ : ∃ R, R = rdv s vf1 vp1 ve1 pb1 := ⟨_, rfl⟩
                  have HRR := Lib.hid (hR ▸ R35.rd HM6.out.rd)
                  have hbox := HM6.out.box
                  rw [← hR] at HA1 hbox
                  have l6 := HRR.out.load hbox
                  have HBX6 := Lib.hid hbox
                  have HR := Lib.hid hR
                  have hc := fun j => cell_of_row w6 (w.heap.size + 1) j _ 46 (0, 0) HM6.out.g1
                  have t0 : w6.cell? ⟨w.heap.size + 1, 0, none⟩ = some (.int .i64 X0.wh) := hc 0
                  have t1 : w6.cell? ⟨w.heap.size + 1, 1, none⟩ = some (.int .i64 X0.bl) := hc 1
                  have t2 : w6.cell? ⟨w.heap.size + 1, 2, none⟩ = some (.int .i64 X0.pg) := hc 2
                  have t3 : w6.cell? ⟨w.heap.size + 1, 3, none⟩ = some X0.vd := hc 3
                  have t4 : w6.cell? ⟨w.heap.size + 1, 4, none⟩ = some X0.vs := hc 4
                  obtain ⟨S1, hS1⟩ : ∃ S1, S1 = actS s X0 := ⟨_, rfl⟩
                  have HG1 := Lib.hid (gd_act HGD.out X0)
                  rw [← hS1] at HA1 HG1
                  have hA1 := HA1.out
                  unfold KA.enc at hA1
                  have HA1' := Lib.hid hA1
                  clear hA1 hc hbox hR hsn hxl HA1 HCP hS1 hbw
                  go_upto_region 39 with ((go_at_call 14; with_reducible refine HA1'.out.mono ?_); rintro e w7 ⟨vf2, vp2, ve2, pb2, rfl, hr7, hst⟩; obtain ⟨R7, hR7⟩ : ∃ R7, R7 = rdv S1 vf2 vp2 ve2 pb2 := ⟨_, rfl⟩; rw [← hR7]; have HR7 := Lib.hid (hR7 ▸ R35.rd hr7); have HRD7 := Lib.hid (And.intro hr7 hR7); have V7 := HR7.out.store (heap_alloc_new w7 (.cells #[.int .i64 0, .int .i64 0, .int .i64 0, .int .i64 0, .slice none 0 0, .slice none 0 0, .slice none 0 0, .int .i64 0, .int .i64 0, .int .i64 0, .bool false] 35)) rfl; have HST7 := Lib.hid hst; clear hr7 hst hR7)
                  obtain ⟨T7, hT7⟩ : ∃ T7, T7 = w7.heap.size := ⟨_, rfl⟩
                  obtain ⟨W8, hW8⟩ : ∃ W8, W8 = (w7.alloc (.cells #[.int .i64 0, .int .i64 0, .int .i64 0, .int .i64 0, .slice none 0 0, .slice none 0 0, .slice none 0 0, .int .i64 0, .int .i64 0, .int .i64 0, .bool false] 35)).setRow w7.heap.size R7 := ⟨_, rfl⟩
                  have hb8 : Below w7.heap.size w7 W8 := by rw [hW8]; exact setRow_below (balloc w7 _) (Nat.le_refl _)
                  have h78 : W8.heap[w7.heap.size]? = some (.cells R7 35 (0, 0)) := by rw [hW8]; exact setRow_at (heap_alloc_new w7 _)
                  rw [← hW8]
                  clear hW8 V7 l6 t0 t1 t2 t3 t4
                  rw [← hT7] at h78 ⊢
                  clear hT7
                  obtain ⟨V7, hd7, hc7, hf7⟩ := HST7.out
                  have HD8 := Lib.hid (hd7.below hb8)
                  have HC8 := Lib.hid ((HC6.out.chg hc7 (fun k hk hs => by have h1 := HC6.out.foot_ge hk; have h2 := HMi.out.dv.foot_lt hs; omega) HD6.out.noBytes).below hb8)
                  have HRO8 := Lib.hid ((HM6.out.rd.kt (Chg.kt HD6.out hc7)).below hb8)
                  have HRN8 := Lib.hid (HRD7.out.1.below hb8)
                  have keep7 : ∀ (q : Nat) (cs : Array Value) (ty : TypeId), w6.heap[q]? = some (.cells cs ty (0, 0)) → ty ≠ 64 → ty ≠ 94 → ty ≠ 91 → W8.heap[q]? = some (.cells cs ty (0, 0)) := fun q cs ty hq n1 n2 n3 => by
                    have h7 := (hc7.block q (Array.getElem?_eq_some_iff.1 hq).1 (HD6.out.off_ty hq n1 n2 n3)).trans hq
                    exact (hb8.block q (Array.getElem?_eq_some_iff.1 h7).1).trans h7
                  have HBX8 := Lib.hid (keep7 _ _ _ HBX6.out (by decide) (by decide) (by decide))
                  have hg8 := keep7 _ _ _ HM6.out.g1 (by decide) (by decide) (by decide)
                  have HT8 := Lib.hid h78
                  have hlow8 : Below w.heap.size w W8 := (HM6.out.low.trans (hc7.below HM6.out.low.size (fun q hq => Nat.le_trans (by have := HLO.out; omega) (HD6.out.foot_ge hq)))).trans (hb8.mono (Nat.le_trans HM6.out.low.size hc7.size))
                  have HLW8 := Lib.hid hlow8
                  have HF7 := Lib.hid hf7
                  have HS67 := Lib.hid hc7.size
                  have HA2 := Lib.hid (act_any HC8.out HGD.out HRO8.out HNL.out.1 HNL.out.2 X1 ⟨HOX.out.2.1.below hlow8, HOX.out.2.2.below hlow8⟩ HX01.out.2.2.1 HX01.out.2.2.2 (HOX.out.2.1.off (fun q hq => by rw [hq]; exact hbw2)) (HOX.out.2.2.off (fun q hq => by rw [hq]; exact hbw2)))
                  have l8 := HRR.out.load HBX8.out
                  have hc := fun j => cell_of_row W8 (w.heap.size + 1) j _ 46 (0, 0) hg8
                  have t0 : W8.cell? ⟨w.heap.size + 1, 5, none⟩ = some (.int .i64 X1.wh) := hc 5
                  have t1 : W8.cell? ⟨w.heap.size + 1, 6, none⟩ = some (.int .i64 X1.bl) := hc 6
                  have t2 : W8.cell? ⟨w.heap.size + 1, 7, none⟩ = some (.int .i64 X1.pg) := hc 7
                  have t3 : W8.cell? ⟨w.heap.size + 1, 8, none⟩ = some X1.vd := hc 8
                  have t4 : W8.cell? ⟨w.heap.size + 1, 9, none⟩ = some X1.vs := hc 9
                  obtain ⟨S2, hS2⟩ : ∃ S2, S2 = actS s X1 := ⟨_, rfl⟩
                  have HG2 := Lib.hid (gd_act HGD.out X1)
                  rw [← hS2] at HA2 HG2
                  rw [← HR.out] at HA2
                  have hA2 := HA2.out
                  unfold KA.enc at hA2
                  have HA2' := Lib.hid hA2
                  clear hA2 hc hg8 HA2 hS2 hd7 hc7 hf7 hb8 h78 keep7 hlow8 HA1' hbw2
                  go_upto_region 40 with ((go_at_call 14; with_reducible refine HA2'.out.mono ?_); rintro e w9 ⟨vf3, vp3, ve3, pb3, rfl, hr9, hst⟩; obtain ⟨R9, hR9⟩ : ∃ R9, R9 = rdv S2 vf3 vp3 ve3 pb3 := ⟨_, rfl⟩; rw [← hR9]; have HR9 := Lib.hid (hR9 ▸ R35.rd hr9); have HRD9 := Lib.hid (And.intro hr9 hR9); have V9 := HR9.out.store (heap_alloc_new w9 (.cells #[.int .i64 0, .int .i64 0, .int .i64 0, .int .i64 0, .slice none 0 0, .slice none 0 0, .slice none 0 0, .int .i64 0, .int .i64 0, .int .i64 0, .bool false] 35)) rfl; have HST9 := Lib.hid hst; clear hr9 hst hR9)
                  obtain ⟨T9, hT9⟩ : ∃ T9, T9 = w9.heap.size := ⟨_, rfl⟩
                  obtain ⟨W10, hW10⟩ : ∃ W10, W10 = (w9.alloc (.cells #[.int .i64 0, .int .i64 0, .int .i64 0, .int .i64 0, .slice none 0 0, .slice none 0 0, .slice none 0 0, .int .i64 0, .int .i64 0, .int .i64 0, .bool false] 35)).setRow w9.heap.size R9 := ⟨_, rfl⟩
                  have hb10 : Below w9.heap.size w9 W10 := by rw [hW10]; exact setRow_below (balloc w9 _) (Nat.le_refl _)
                  have h910 : W10.heap[w9.heap.size]? = some (.cells R9 35 (0, 0)) := by rw [hW10]; exact setRow_at (heap_alloc_new w9 _)
                  rw [← hW10]
                  clear hW10 V9 l8 t0 t1 t2 t3 t4
                  rw [← hT9] at h910 ⊢
                  clear hT9
                  obtain ⟨V9, hd9, hc9, hf9⟩ := HST9.out
                  have HD10 := Lib.hid ((HD8.out.chg hc9 (fun k hk hs => by
                    have h1 := HC6.out.foot_ge hs
                    have h2 := HC6.out.foot_lt hs
                    rcases HF7.out k hk with h | h
                    · have h3 := HMi.out.dv.foot_lt h
                      omega
                    · omega) HC8.out.noBytes).below hb10)
                  have HRN10 := Lib.hid ((HRN8.out.kt (Chg.kt HC8.out hc9)).below hb10)
                  have HC10 := Lib.hid (hd9.below hb10)
                  have HRD10 := Lib.hid (HRD9.out.1.below hb10)
                  have h79 := (hc9.block _ (Array.getElem?_eq_some_iff.1 HT8.out).1 (HC8.out.off_ty HT8.out (by decide) (by decide) (by decide))).trans HT8.out
                  have H710 := Lib.hid ((hb10.block _ (Array.getElem?_eq_some_iff.1 h79).1).trans h79)
                  have H910 := Lib.hid h910
                  have HLW10 := Lib.hid ((HLW8.out.trans (hc9.below HLW8.out.size (fun q hq => Nat.le_trans HMi.out.low.size (HC8.out.foot_ge hq)))).trans (hb10.mono (Nat.le_trans HLW8.out.size hc9.size)))
                  have HI1 := is_any HD10.out HG1.out HRN10.out
                  have HI2 := Lib.hid (fun W (hW : Below W10.heap.size W10 W) => is_any (HC10.out.below hW) HG2.out (HRD10.out.below hW))
                  rw [← HRD7.out.2] at HI1
                  rw [← HRD9.out.2] at HI2
                  have HI1' := Lib.hid HI1
                  have l7 := HR7.out.load H710.out
                  clear hd9 hc9 hf9 hb10 h910 h79 HI1 HST9 HST7 HA2'
                  go_wp2_with (first
                    | ((go_at_call 15; with_reducible refine HI1'.out.mono ?_); rintro e w11 ⟨rfl, hb11⟩; have HB11 := Lib.hid hb11; have l9 := HR9.out.load ((hb11.block _ (Array.getElem?_eq_some_iff.1 H910.out).1).trans H910.out); clear hb11)
                    | ((go_at_call 15; with_reducible refine (HI2.out _ HB11.out).mono ?_); rintro e w12 ⟨rfl, hb12⟩; have HB12 := Lib.hid (HLW10.out.trans ((HB11.out.trans (hb12.mono HB11.out.size)).mono HLW10.out.size)); clear hb12)
                    | ((go_at_call 10; with_reducible refine (HWK.out _).mono ?_); rintro e w13 ⟨rfl, hb13⟩; have HB13 := Lib.hid hb13; clear hb13))
                  (try simp only [Exit.inBlock, Exit.then])
                  go_ret
                  exact ⟨rfl, HB12.out.trans (HB13.out.mono HB12.out.size)⟩
end Go.Proofs.Ytddejcoagcaidaa
