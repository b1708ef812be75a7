/- The state of MemoryCopies. Conditions stand in each theorem. -/
import Derived.Test.YtmnlkejhhdbhlaaPL
namespace Go.Proofs.Ytmnlkejhhdbhlaa
open Go.RowKit
set_option linter.unusedVariables false
set_option maxHeartbeats 8000000
set_option maxRecDepth 100000
/-- A memory of N bytes and the box of its reference agree; what was in w0 is as it was. -/
def Pc (w0 : World) (N q k b : Nat) (X : World) : Prop :=
  ∃ d cap m B1 p1 e1 B2 p2 e2, Mem X w0.heap.size b d cap m ∧ Gm m ∧ m.L.length ≤ k ∧ m.B.length = N ∧ Rf X (fun j => j = b ∨ j = d ∨ j = q) B1 p1 e1 B2 p2 e2 m ∧ X.heap[q]? = some (.cells #[.slice B1 p1 e1, .slice B2 p2 e2] 32 (0, 0)) ∧ w0.heap.size ≤ q ∧ Below w0.heap.size w0 X
section
variable {w0 X Y w' : World} {base b d cap q q2 k N : Nat} {m : Mm} {B1 B2 : Option Addr} {p1 e1 p2 e2 : Nat}
theorem Pc.below (h : Pc w0 N q k b X) (hb : Below X.heap.size X Y) : Pc w0 N q k b Y := by
  obtain ⟨d, cap, m, B1, p1, e1, B2, p2, e2, h1, h2, h3, hN, h4, h5, h6, h7⟩ := h
  exact ⟨d, cap, m, B1, p1, e1, B2, p2, e2, h1.below hb, h2, h3, hN, h4.below hb, (hb.block _ (Array.getElem?_eq_some_iff.1 h5).1).trans h5, h6, h7.trans (hb.mono h7.size)⟩
theorem pc_next {b' d' cap' : Nat} {m' : Mm} {C1 C2 : Option Addr} {f1 g1 f2 g2 : Nat} (hm : Mem X w0.heap.size b d cap m) (hq : X.heap[q]? = some (.cells #[.slice B1 p1 e1, .slice B2 p2 e2] 32 (0, 0))) (hb : Below w0.heap.size w0 X) (hq0 : w0.heap.size ≤ q) (hG : Gm m') (hk : m'.L.length ≤ k) (hN : m'.B.length = N)
    (hY : Below X.heap.size X Y) (hm' : Mem w' w0.heap.size b' d' cap' m') (hr' : Rf w' (fun j => Sx X q b d Y j ∨ j = b' ∨ j = d') C1 f1 g1 C2 f2 g2 m') (hc : Chg (fun j => j = b ∨ j = d) Y w') :
    Pc w0 N q k b' ((w'.setCell ⟨q, 0, none⟩ (.slice C1 f1 g1)).setCell ⟨q, 1, none⟩ (.slice C2 f2 g2)) := by
  have hqlt := (Array.getElem?_eq_some_iff.1 hq).1
  have hqY := (hY.block _ hqlt).trans hq
  have hqw := (hm.below hY).keepTy hc hqY (by decide) (by decide)
  have h3 := hm.hb
  have h4 := hm.row.1
  have hbY : Below w0.heap.size w0 Y := hb.trans (hY.mono hb.size)
  have hbw : Below w0.heap.size w0 w' := hbY.trans (hc.below hbY.size fun j hj => by rcases hj with rfl | rfl <;> omega)
  have hne := hm'.neT hqw
  have hcp : Chg (fun j => j = q) w' ((w'.setCell ⟨q, 0, none⟩ (.slice C1 f1 g1)).setCell ⟨q, 1, none⟩ (.slice C2 f2 g2)) := put2 (S := fun j => j = q) (Chg.refl _ _) rfl _ _
  exact ⟨d', cap', m', C1, f1, g1, C2, f2, g2, hm'.chg hcp (fun e => hne.1 e.symm) (fun e => hne.2 e.symm), hG, hk, hN, (hr'.mono fun j hj => by
    rcases hj with rfl | rfl | rfl
    · exact .inr (.inl rfl)
    · exact .inr (.inr rfl)
    · exact .inl (.inl (.inr (.inr rfl)))).chg (hcp.mono fun j hj => .inr (.inr hj)), set2 _ _ _ _ _ _ _ hqw, hq0, hbw.trans (hcp.below hbw.size fun j hj => by have hj : j = q := hj; omega)⟩
theorem pc_start (pg : Nat) (h1 : 1 ≤ pg) (h2 : pg ≤ 4) {w w1 w2 : World} {b d : Nat} {A1 : Option Addr} {n1 c1 : Nat} (hm : Mem w1 w.heap.size b d (pg * 4096) (Mm.new (pg * 4096))) (hb1 : Below w.heap.size w w1) (hr : Rf w2 (fun j => j < w1.heap.size) A1 n1 c1 none 0 0 (Mm.new (pg * 4096))) (hb2 : Below w1.heap.size w1 w2) :
    Pc w (pg * 4096) w2.heap.size 0 b (w2.alloc (.cells #[.slice A1 n1 c1, .slice none 0 0] 32)) := by
  have hbt := below_alloc w2 (.cells #[.slice A1 n1 c1, .slice none 0 0] 32)
  have hs1 := hb1.size
  have hs2 := hb2.size
  have hbl := hm.lt
  have hdl := hm.dlt
  exact ⟨d, _, _, A1, n1, c1, none, 0, 0, (hm.below hb2).below hbt, Gm.new (by omega) (by omega), by simp [Mm.new], by simp [Mm.new], ((hr.or (hr.newer (T := fun j => w2.heap.size ≤ j) fun j hj => hj)).mono fun j hj => by
    rcases hj with rfl | rfl | rfl
    · exact .inl hbl
    · exact .inl hdl
    · exact .inr (Nat.le_refl _)).below hbt, heap_alloc_new w2 _, by omega, hb1.trans ((hb2.trans (hbt.mono hs2)).mono hs1)⟩
/-- Behind the copy and the first act: both memories, both references. -/
structure Ta (w0 : World) (q b2 d2 cap2 b3 : Nat) (m ma : Mm) (B1 : Option Addr) (p1 e1 : Nat) (B2 : Option Addr) (p2 e2 : Nat) (C1 : Option Addr) (f1 g1 : Nat) (C2 : Option Addr) (f2 g2 : Nat) (X : World) : Prop where
  k : Mem X w0.heap.size b2 d2 cap2 m
  r : Rf X (fun j => j = b2 ∨ j = d2 ∨ j = q) B1 p1 e1 B2 p2 e2 m
  q : X.heap[q]? = some (.cells #[.slice B1 p1 e1, .slice B2 p2 e2] 32 (0, 0))
  b : Below w0.heap.size w0 X
  a : ∃ d3 cap3, Mem X w0.heap.size b3 d3 cap3 ma ∧ b3 ≠ b2 ∧ b3 ≠ d2 ∧ d3 ≠ b2 ∧ d3 ≠ d2
  ra : Rf X (fun j => j = b2 ∨ j = d2) C1 f1 g1 C2 f2 g2 ma
theorem Ta.below {b2 d2 cap2 b3 : Nat} {ma : Mm} {C1 C2 : Option Addr} {f1 g1 f2 g2 : Nat} (h : Ta w0 q b2 d2 cap2 b3 m ma B1 p1 e1 B2 p2 e2 C1 f1 g1 C2 f2 g2 X) (hb : Below X.heap.size X Y) : Ta w0 q b2 d2 cap2 b3 m ma B1 p1 e1 B2 p2 e2 C1 f1 g1 C2 f2 g2 Y := by
  obtain ⟨h1, h2, h3, h4, ⟨d3, cap3, h5, h6⟩, h7⟩ := h
  exact ⟨h1.below hb, h2.below hb, (hb.block _ (Array.getElem?_eq_some_iff.1 h3).1).trans h3, h4.trans (hb.mono h4.size), ⟨d3, cap3, h5.below hb, h6⟩, h7.below hb⟩
theorem ta_of {b2 d2 cap2 b3 d3 cap3 : Nat} {ma : Mm} {C1 C2 : Option Addr} {f1 g1 f2 g2 : Nat} (hm : Mem X w0.heap.size b d cap m) (hr : Rf X (fun j => j = b ∨ j = d ∨ j = q) B1 p1 e1 B2 p2 e2 m) (hq : X.heap[q]? = some (.cells #[.slice B1 p1 e1, .slice B2 p2 e2] 32 (0, 0))) (hb : Below w0.heap.size w0 X)
    (hm2 : Mem Y X.heap.size b2 d2 cap2 m) (hY : Below X.heap.size X Y) (hm' : Mem w' w0.heap.size b3 d3 cap3 ma) (hr' : Rf w' (fun j => Sx X q b d Y j ∨ j = b3 ∨ j = d3) C1 f1 g1 C2 f2 g2 ma) (hc : Chg (fun j => j = b ∨ j = d) Y w') (hbd : b3 = b ∧ d3 = d ∨ Y.heap.size ≤ b3 ∧ Y.heap.size ≤ d3) :
    Ta w0 q b2 d2 cap2 b3 m ma B1 p1 e1 B2 p2 e2 C1 f1 g1 C2 f2 g2 w' := by
  have hqlt := (Array.getElem?_eq_some_iff.1 hq).1
  have hqY := (hY.block _ hqlt).trans hq
  have hqw := (hm.below hY).keepTy hc hqY (by decide) (by decide)
  have h3 := hm.hb
  have h4 := hm.row.1
  have hbl := hm.lt
  have hdl := hm.dlt
  have i1 := hm2.hb
  have i2 := hm2.row.1
  have i3 := hm2.lt
  have i4 := hm2.dlt
  have hbY : Below w0.heap.size w0 Y := hb.trans (hY.mono hb.size)
  have hbw : Below w0.heap.size w0 w' := hbY.trans (hc.below hbY.size fun j hj => by rcases hj with rfl | rfl <;> omega)
  have hrb : Rf w' (fun j => (j = b ∨ j = d ∨ j = q) ∨ X.heap.size ≤ j) B1 p1 e1 B2 p2 e2 m := ((hr.or (hr.newer (T := fun j => X.heap.size ≤ j) fun j hj => hj)).below hY).chg (hc.mono fun j hj => .inl (hj.elim .inl fun e => .inr (.inl e)))
  refine ⟨(hm2.chg hc (by omega) (by omega)).rebase hb.size, hrb.mono fun j hj => ?_, hqw, hbw, ⟨d3, cap3, hm', by omega, by omega, by omega, by omega⟩, hr'.mono fun j hj => .inl (.inr ?_)⟩
  · rcases hj with rfl | rfl | rfl
    · exact .inr i1
    · exact .inr i2
    · exact .inl (.inr (.inr rfl))
  · rcases hj with rfl | rfl
    · exact ⟨i1, i3⟩
    · exact ⟨i2, i4⟩
/-- Behind the second act. -/
structure Tb (w0 : World) (b3 b4 : Nat) (ma mb : Mm) (C1 : Option Addr) (f1 g1 : Nat) (C2 : Option Addr) (f2 g2 : Nat) (D1 : Option Addr) (h1 j1 : Nat) (D2 : Option Addr) (h2 j2 : Nat) (X : World) : Prop where
  b : Below w0.heap.size w0 X
  a : ∃ d3 cap3, Mem X w0.heap.size b3 d3 cap3 ma
  ra : ∃ S, Rf X S C1 f1 g1 C2 f2 g2 ma
  c : ∃ d4 cap4, Mem X w0.heap.size b4 d4 cap4 mb
  rc : ∃ S, Rf X S D1 h1 j1 D2 h2 j2 mb
theorem Tb.below {b3 b4 : Nat} {ma mb : Mm} {C1 C2 D1 D2 : Option Addr} {f1 g1 f2 g2 h1 j1 h2 j2 : Nat} (h : Tb w0 b3 b4 ma mb C1 f1 g1 C2 f2 g2 D1 h1 j1 D2 h2 j2 X) (hb : Below X.heap.size X Y) : Tb w0 b3 b4 ma mb C1 f1 g1 C2 f2 g2 D1 h1 j1 D2 h2 j2 Y := by
  obtain ⟨h1, ⟨d3, c3, h2⟩, ⟨S, h3⟩, ⟨d4, c4, h4⟩, ⟨S2, h5⟩⟩ := h
  exact ⟨h1.trans (hb.mono h1.size), ⟨_, _, h2.below hb⟩, ⟨_, h3.below hb⟩, ⟨_, _, h4.below hb⟩, ⟨_, h5.below hb⟩⟩
theorem tb_of {b2 d2 cap2 b3 b4 d4 cap4 : Nat} {ma mb : Mm} {C1 C2 D1 D2 : Option Addr} {f1 g1 f2 g2 h1 j1 h2 j2 : Nat} {S : Nat → Prop} (h : Ta w0 q b2 d2 cap2 b3 m ma B1 p1 e1 B2 p2 e2 C1 f1 g1 C2 f2 g2 X) (hm' : Mem w' w0.heap.size b4 d4 cap4 mb) (hr' : Rf w' S D1 h1 j1 D2 h2 j2 mb) (hc : Chg (fun j => j = b2 ∨ j = d2) X w') :
    Tb w0 b3 b4 ma mb C1 f1 g1 C2 f2 g2 D1 h1 j1 D2 h2 j2 w' := by
  obtain ⟨k1, k2, k3, k4, ⟨d3, cap3, k5, i1, i2, i3, i4⟩, k7⟩ := h
  have h3 := k1.hb
  have h4 := k1.row.1
  exact ⟨k4.trans (hc.below k4.size fun j hj => by rcases hj with rfl | rfl <;> omega), ⟨_, _, k5.chg hc (by omega) (by omega)⟩, ⟨_, k7.chg hc⟩, ⟨_, _, hm'⟩, ⟨_, hr'⟩⟩
end
/-- Two acts in an array. -/
theorem acts_two {w : World} (a c : KA) (ha : KA.ok w a) (hc : KA.ok w c) :
    Acts (w.alloc (.cells #[.int .i64 a.wh, .int .i64 a.n, .int .u64 (a.ad : Int), a.vb, .int .u8 (a.x.toNat : Int), .int .i64 c.wh, .int .i64 c.n, .int .u64 (c.ad : Int), c.vb, .int .u8 (c.x.toNat : Int)] 54)) (.slice (some ⟨w.heap.size, 0, none⟩) 2 2) [a, c] := by
  refine ⟨_, _, rfl, fun _ => ⟨w.heap.size, 0, rfl, by simp, fun j hj => ?_⟩⟩
  have key := fun k => cell_of_row _ w.heap.size k _ 54 (0, 0) (heap_alloc_new w (.cells #[.int .i64 a.wh, .int .i64 a.n, .int .u64 (a.ad : Int), a.vb, .int .u8 (a.x.toNat : Int), .int .i64 c.wh, .int .i64 c.n, .int .u64 (c.ad : Int), c.vb, .int .u8 (c.x.toNat : Int)] 54))
  have hj2 : j = 0 ∨ j = 1 := by simp at hj; omega
  rcases hj2 with rfl | rfl
  · exact ⟨key 0, key 1, key 2, key 3, key 4⟩
  · exact ⟨key 5, key 6, key 7, key 8, key 9⟩
end Go.Proofs.Ytmnlkejhhdbhlaa
