/- The contract of assign. Condition: the entry may be applied. -/
import Derived.Test.YteiemegkdnjpgaaD
namespace Go.Proofs.Yteiemegkdnjpgaa
open Go.RowKit
set_option linter.unusedVariables false
set_option maxHeartbeats 2000000
set_option maxRecDepth 100000
/-- A mapping's blocks, whatever they hold. -/
structure Rw (w : World) (bb m1 m2 g cap s b p n1 n2 : Nat) (f1 f2 : Int → Option Int) (u : Nat → Int) : Prop where
  blk : w.heap[bb]? = some (.cells (mgCells s b p m1 m2 g cap) 56 (0, 0))
  map1 : Mp w m1 n1 f1
  map2 : Mp w m2 n2 f2
  row : RowI w g cap b u
  ne : m1 ≠ m2
/-- The state of assign: the mapping's blocks, the entry's cells, what has changed. -/
structure As (w W : World) (bb m1 m2 g cap s b p n1 n2 : Nat) (f1 f2 : Int → Option Int) (u : Nat → Int) (q x : Int) : Prop where
  rw : Rw W bb m1 m2 g cap s b p n1 n2 f1 f2 u
  xat : XAt W w.heap.size q x
  chg : Chg (Ft m1 m2 g) w W
  lt : ∀ k, Ft m1 m2 g k → k < w.heap.size
section
variable {w W W' : World} {bb m1 m2 g cap s b p n1 n2 n : Nat} {f1 f2 f : Int → Option Int} {u : Nat → Int} {q x : Int}
theorem Rw.ne1 (h : Rw w bb m1 m2 g cap s b p n1 n2 f1 f2 u) : bb ≠ m1 := by
  rintro rfl
  obtain ⟨es, c, hb⟩ := h.map1.isMap
  rw [h.blk] at hb
  cases hb
theorem Rw.ne2 (h : Rw w bb m1 m2 g cap s b p n1 n2 f1 f2 u) : bb ≠ m2 := by
  rintro rfl
  obtain ⟨es, c, hb⟩ := h.map2.isMap
  rw [h.blk] at hb
  cases hb
theorem Rw.ne3 (h : Rw w bb m1 m2 g cap s b p n1 n2 f1 f2 u) : bb ≠ g := by
  rintro rfl
  obtain ⟨cur, h1, _⟩ := h.row
  have := h.blk
  rw [h1] at this
  injection this with this
  injection this with _ ht
  exact absurd ht (by decide)
theorem Rw.g1 (h : Rw w bb m1 m2 g cap s b p n1 n2 f1 f2 u) : g ≠ m1 := by
  rintro rfl
  obtain ⟨es, c, hb⟩ := h.map1.isMap
  obtain ⟨cur, h1, _⟩ := h.row
  rw [h1] at hb
  cases hb
theorem Rw.g2 (h : Rw w bb m1 m2 g cap s b p n1 n2 f1 f2 u) : g ≠ m2 := by
  rintro rfl
  obtain ⟨es, c, hb⟩ := h.map2.isMap
  obtain ⟨cur, h1, _⟩ := h.row
  rw [h1] at hb
  cases hb
theorem Rw.keep (h : Rw w bb m1 m2 g cap s b p n1 n2 f1 f2 u) (hb : W.heap[bb]? = w.heap[bb]?) (hk : ∀ k, Ft m1 m2 g k → W.heap[k]? = w.heap[k]?) : Rw W bb m1 m2 g cap s b p n1 n2 f1 f2 u :=
  ⟨hb.trans h.blk, h.map1.kept (hk _ (.inl rfl)), h.map2.kept (hk _ (.inr (.inl rfl))), h.row.keep (hk _ (.inr (.inr rfl))), h.ne⟩
theorem Rw.lt (h : Rw w bb m1 m2 g cap s b p n1 n2 f1 f2 u) : bb < w.heap.size := (Array.getElem?_eq_some_iff.1 h.blk).1
theorem Rw.ft_lt (h : Rw w bb m1 m2 g cap s b p n1 n2 f1 f2 u) {k : Nat} (hk : Ft m1 m2 g k) : k < w.heap.size := by
  rcases hk with rfl | rfl | rfl
  · exact h.map1.lt
  · exact h.map2.lt
  · exact h.row.lt
theorem Rw.below (h : Rw w bb m1 m2 g cap s b p n1 n2 f1 f2 u) (hb : Below w.heap.size w W) : Rw W bb m1 m2 g cap s b p n1 n2 f1 f2 u := h.keep (hb.block bb h.lt) fun k hk => hb.block k (h.ft_lt hk)
theorem As.below (h : As w W bb m1 m2 g cap s b p n1 n2 f1 f2 u q x) (hb : Below W.heap.size W W') : As w W' bb m1 m2 g cap s b p n1 n2 f1 f2 u q x :=
  ⟨h.rw.below hb, h.xat.below hb, h.chg.then_below hb, h.lt⟩
theorem As.step1 (h : As w W bb m1 m2 g cap s b p n1 n2 f1 f2 u q x) (hm : Mp W' m1 n f) (hg : W.grownBy W' (some m1)) : As w W' bb m1 m2 g cap s b p n n2 f f2 u q x := by
  have hc : Chg (· = m1) W W' := (Chg.of_grown hg).mono fun i hi => by cases hi; rfl
  have e : ∀ k, k < W.heap.size → k ≠ m1 → W'.heap[k]? = W.heap[k]? := fun k h1 h2 => hc.block k h1 h2
  refine ⟨⟨(e _ h.rw.lt h.rw.ne1).trans h.rw.blk, hm, h.rw.map2.kept (e _ h.rw.map2.lt (fun e => h.rw.ne e.symm)), h.rw.row.keep (e _ h.rw.row.lt h.rw.g1), h.rw.ne⟩, (e _ h.xat.lt ?_).trans h.xat, h.chg.trans hc (fun i hi _ => .inl hi), h.lt⟩
  have := h.lt m1 (.inl rfl)
  omega
theorem As.step2 (h : As w W bb m1 m2 g cap s b p n1 n2 f1 f2 u q x) (hm : Mp W' m2 n f) (hg : W.grownBy W' (some m2)) : As w W' bb m1 m2 g cap s b p n1 n f1 f u q x := by
  have hc : Chg (· = m2) W W' := (Chg.of_grown hg).mono fun i hi => by cases hi; rfl
  have e : ∀ k, k < W.heap.size → k ≠ m2 → W'.heap[k]? = W.heap[k]? := fun k h1 h2 => hc.block k h1 h2
  refine ⟨⟨(e _ h.rw.lt h.rw.ne2).trans h.rw.blk, h.rw.map1.kept (e _ h.rw.map1.lt h.rw.ne), hm, h.rw.row.keep (e _ h.rw.row.lt h.rw.g2), h.rw.ne⟩, (e _ h.xat.lt ?_).trans h.xat, h.chg.trans hc (fun i hi _ => .inr (.inl hi)), h.lt⟩
  have := h.lt m2 (.inr (.inl rfl))
  omega
theorem As.step3 (h : As w W bb m1 m2 g cap s b p n1 n2 f1 f2 u q x) {j : Nat} (hj : j < b) (y : Int) : As w (W.setCell ⟨g, j, none⟩ (.int .i64 y)) bb m1 m2 g cap s b p n1 n2 f1 f2 (fun k => if k = j then y else u k) q x := by
  have e : ∀ k, k ≠ g → (W.setCell ⟨g, j, none⟩ (.int .i64 y)).heap[k]? = W.heap[k]? := fun k h2 => Below.heap_setCell W _ _ k h2
  refine ⟨⟨(e _ h.rw.ne3).trans h.rw.blk, h.rw.map1.kept (e _ (fun e => h.rw.g1 e.symm)), h.rw.map2.kept (e _ (fun e => h.rw.g2 e.symm)), h.rw.row.set hj y, h.rw.ne⟩, (e _ ?_).trans h.xat, h.chg.setCell (.inr (.inr rfl)) _, h.lt⟩
  have := h.lt g (.inr (.inr rfl))
  omega
theorem As.cells (h : As w W bb m1 m2 g cap s b p n1 n2 f1 f2 u q x) : W.cell? ⟨bb, 0, none⟩ = some (.int .i64 (s : Int)) ∧ W.cell? ⟨bb, 1, none⟩ = some (.int .i64 (b : Int)) ∧ W.cell? ⟨bb, 2, none⟩ = some (.int .i64 (p : Int)) ∧ W.cell? ⟨bb, 3, none⟩ = some (.map (some m1)) ∧ W.cell? ⟨bb, 4, none⟩ = some (.map (some m2)) ∧ W.cell? ⟨bb, 5, none⟩ = some (.slice (some ⟨g, 0, none⟩) b cap) := by
  refine ⟨?_, ?_, ?_, ?_, ?_, ?_⟩ <;> (rw [cell_of_row W bb _ _ 56 (0, 0) h.rw.blk]; rfl)
/-- What assign leaves. -/
def AsgP (w : World) (base bb m1 m2 g cap s b p : Nat) (L : List (Int × Int)) (e : Ending) (w' : World) : Prop := e = .returned (.tuple #[]) ∧ Mg w' base bb m1 m2 g cap s b p L ∧ Chg (Ft m1 m2 g) w w'
end
theorem As.congr {w W : World} {bb m1 m2 g cap s b p n1 n2 : Nat} {f1 f2 f1' f2' : Int → Option Int} {u u' : Nat → Int} {q x : Int} (h : As w W bb m1 m2 g cap s b p n1 n2 f1 f2 u q x) (e1 : ∀ k, f1 k = f1' k) (e2 : ∀ k, f2 k = f2' k) (e3 : ∀ i, i < b → u i = u' i) : As w W bb m1 m2 g cap s b p n1 n2 f1' f2' u' q x :=
  ⟨⟨h.rw.blk, h.rw.map1.congr e1, h.rw.map2.congr e2, h.rw.row.congr e3, h.rw.ne⟩, h.xat, h.chg, h.lt⟩
theorem As.fin {w W : World} {base bb m1 m2 g cap s b p : Nat} {L L' : List (Int × Int)} {q x : Int} (h0 : Mg w base bb m1 m2 g cap s b p L) (hF : Fits s b p L') (h : As w W bb m1 m2 g cap s b p L'.length L'.length (look L') (look (flip L')) (fun k => cntB p L' k) q x) : AsgP w base bb m1 m2 g cap s b p L' (.returned (.tuple #[])) W :=
  ⟨rfl, ⟨h.rw.blk, h.rw.map1, h.rw.map2, h.rw.row, h.rw.ne, h0.h0, h0.h1, h0.h2, h0.h3, hF⟩, h.chg⟩
theorem ndf_flip {A : List (Int × Int)} {q k : Int} (hA : Nd (flip A)) (hB : Nd (flip (del q A))) (hk : (q, k) ∈ A) (hN : Nd A) (z : Int) : upd (look (flip A)) k none z = look (flip (del q A)) z := by
  refine (look_upd_none hB hA (fun y => ?_) z).symm
  rw [mem_flip, mem_del, mem_flip]
  constructor
  · rintro ⟨h1, h2⟩
    refine ⟨fun e => h1 ?_, h2⟩
    have a1 := look_of_mem hA (mem_flip.2 h2)
    have a2 := look_of_mem hA ((mem_flip (p := (k, q))).2 hk)
    rw [← e, a1] at a2
    injection a2
  · rintro ⟨h1, h2⟩
    refine ⟨fun e => h1 ?_, h2⟩
    have a1 := look_of_mem hN h2
    have a2 := look_of_mem hN hk
    rw [show y.2 = q from e, a2] at a1
    injection a1 with a1
    exact a1.symm
theorem As.one {w W : World} {bb m1 m2 g cap s b p n : Nat} {L : List (Int × Int)} {q x k : Int} {j : Nat} (hF : Fits s b p L) (hl : look L q = some k) (hj : k / (p : Int) = j)
    (h : As w W bb m1 m2 g cap s b p n n (upd (look L) q none) (upd (look (flip L)) k none) (fun i => if i = j then cntB p L j - 1 else cntB p L i) q x) :
    As w W bb m1 m2 g cap s b p n n (look (del q L)) (look (flip (del q L))) (fun i => cntB p (del q L) i) q x := by
  have hd := hF.del q
  refine h.congr (fun z => (look_upd_none hd.nd hF.nd (fun y => mem_del) z).symm) (fun z => ndf_flip hF.ndf hd.ndf (look_mem hl) hF.nd z) fun i hi => ?_
  show (if i = j then _ else _) = _
  rw [cntB_del hF.nd hl, hj]
  by_cases e : i = j
  · subst e; simp
  · have e2 : ¬ ((j : Int) = (i : Int)) := by omega
    rw [if_neg e, if_neg e2]; omega
theorem As.two {w W : World} {bb m1 m2 g cap s b p n : Nat} {L : List (Int × Int)} {q x : Int} {j : Nat} {v : Int} (hF : Fits s b p L) (hF' : Fits s b p (ins q x L)) (hn : n = L.length) (h1 : look L q = none) (h2 : look (flip L) x = none) (hj : x / (p : Int) = j) (hv : v = cntB p L j)
    (h : As w W bb m1 m2 g cap s b p (n + 1) (n + 1) (upd (look L) q (some x)) (upd (look (flip L)) x (some q)) (fun i => if i = j then v + 1 else cntB p L i) q x) :
    As w W bb m1 m2 g cap s b p (ins q x L).length (ins q x L).length (look (ins q x L)) (look (flip (ins q x L))) (fun i => cntB p (ins q x L) i) q x := by
  rw [ins_length, ← hn]
  refine h.congr (fun z => (look_upd_some hF'.nd hF.nd (fun y => mem_ins) h1 z).symm) (fun z => (look_upd_some hF'.ndf hF.ndf (fun y => ?_) h2 z).symm) fun i hi => ?_
  · rw [mem_flip, mem_ins, mem_flip]
    constructor
    · rintro (h | h)
      · left
        injection h with a b
        ext <;> assumption
      · exact .inr h
    · rintro (h | h)
      · left; rw [h]
      · exact .inr h
  · show (if i = j then _ else _) = _
    rw [cntB_ins, hj, hv]
    by_cases e : i = j
    · subst e; simp
    · have e2 : ¬ ((j : Int) = (i : Int)) := by omega
      rw [if_neg e, if_neg e2]; omega
section
variable {w : World} {base bb m1 m2 g cap s b p : Nat} {L : List (Int × Int)}
/-- The second half: the entry has no page. -/
theorem asg_start (h : Mg w base bb m1 m2 g cap s b p L) (q x : Int) : As w (w.alloc (.cells #[.int .i64 q, .int .i64 x] 50)) bb m1 m2 g cap s b p L.length L.length (look L) (look (flip L)) (fun k => cntB p L k) q x :=
  ⟨(show Rw w bb m1 m2 g cap s b p L.length L.length (look L) (look (flip L)) (fun k => cntB p L k) from ⟨h.blk, h.map1, h.map2, h.row, h.ne⟩).below (below_alloc w _), XAt.new w q x, Chg.of_below (below_alloc w _), fun k hk => h.ft_lt hk⟩
theorem blockOf_nat {p : Nat} (s b : Nat) (q : Int) (j : Nat) (hp : 2 ≤ p ∧ p ≤ 512) (hq : 0 ≤ q ∧ q ≤ 2097152) (e : q / (p : Int) = j) (W : World) : Calls Try.prog 49 #[.agg #[.int .i64 (s : Int), .int .i64 (b : Int), .int .i64 (p : Int)], .int .i64 q] W fun e w' => e = .returned (.int .i64 (j : Int)) ∧ Below W.heap.size W w' := by
  rw [← e]
  exact blockOf_any s b p q W hp hq
set_option maxHeartbeats 8000000 in
theorem assign_some (h : Mg w base bb m1 m2 g cap s b p L) {q x k : Int} (hr : reqE s b p L q x = 0) (hl : look L q = some k) : Calls Try.prog 36 #[.pointer (some ⟨bb, 0, none⟩), .agg #[.int .i64 q, .int .i64 x]] w (AsgP w base bb m1 m2 g cap s b p (asg L q x)) := by
  have hq : I64 q := by have := (reqE_ok hr).1; have := h.fit.hs; unfold I64; omega
  have hn := h.fit.n
  have HF := Lib.hid h.fit
  have H0 := Lib.hid h
  have HR := Lib.hid hr
  have HQ := Lib.hid hq
  have HLL := Lib.hid hl
  have HN := Lib.hid hn
  have hk := h.fit.look_rng hl
  have hk6 : I64 k := by unfold I64; omega
  obtain ⟨j, hj, hjb⟩ := h.fit.blk hk.2.2
  have HB := Lib.hid (fun W => blockOf_nat s b k j h.fit.hp ⟨hk.2.2.1, by omega⟩ hj W)
  have HL := Lib.hid (show (del q L).length + 1 = L.length from del_length h.fit.nd hl)
  have hu1 : 1 ≤ cntB p L j := by have := cntB_pos (p := p) hl; rwa [hj] at this
  have hu2 : cntB p L j ≤ 16777216 := by have := cntB_le (p := p) (L := L) j; have := h.fit.len; have := h.fit.hs; omega
  have HA := asg_start h q x
  rw [← HL.out] at HA
  replace HA := Lib.hid HA
  have HK := Lib.hid hk6
  have HFl := Lib.hid (h.fit.flip_iff.2 (look_mem hl))
  have HJ := Lib.hid hj
  clear h hr hq hk6 hl hk hj hn
  go_enter Try.func36, Try.ntmps36
  go_wp2
  have hne := gw_ne (w.alloc (.cells #[.int .i64 q, .int .i64 x] 50))
  have c0 := fun r : Gw (w.alloc (.cells #[.int .i64 q, .int .i64 x] 50)) => (HA.out.below r.h).cells.1
  have c1 := fun r : Gw (w.alloc (.cells #[.int .i64 q, .int .i64 x] 50)) => (HA.out.below r.h).cells.2.1
  have c2 := fun r : Gw (w.alloc (.cells #[.int .i64 q, .int .i64 x] 50)) => (HA.out.below r.h).cells.2.2.1
  have c3 := fun r : Gw (w.alloc (.cells #[.int .i64 q, .int .i64 x] 50)) => (HA.out.below r.h).cells.2.2.2.1
  have c4 := fun r : Gw (w.alloc (.cells #[.int .i64 q, .int .i64 x] 50)) => (HA.out.below r.h).cells.2.2.2.2.1
  have c5 := fun r : Gw (w.alloc (.cells #[.int .i64 q, .int .i64 x] 50)) => (HA.out.below r.h).cells.2.2.2.2.2
  have x0 := fun r : Gw (w.alloc (.cells #[.int .i64 q, .int .i64 x] 50)) => (HA.out.below r.h).xat.c0
  have x1 := fun r : Gw (w.alloc (.cells #[.int .i64 q, .int .i64 x] 50)) => (HA.out.below r.h).xat.c1
  have lk : ∀ r : Gw (w.alloc (.cells #[.int .i64 q, .int .i64 x] 50)), (Instr.lookup 53 (.map (some m1)) (.int .i64 q) true).run Try.prog r.W = .ok (.tuple #[.int .i64 k, .bool true]) r.W := fun r => by have := (HA.out.below r.h).rw.map1.look_ok HQ.out; rw [HLL.out] at this; exact this
  refine wp_region_gw (by kernel_rfl) (by kernel_rfl) ?_
  repeat (go_big_quiet_step ((fail)))
  refine wpQuiet_nil ?_
  rintro w2 ⟨⟨_, hb6⟩, rfl⟩
  replace HA := Lib.hid (HA.out.below hb6)
  clear hne c0 c1 c2 c3 c4 c5 x0 x1 hb6 lk
  go_wp2
  have hne := gw_ne w2
  have c0 := fun r : Gw w2 => (HA.out.below r.h).cells.1
  have c1 := fun r : Gw w2 => (HA.out.below r.h).cells.2.1
  have c2 := fun r : Gw w2 => (HA.out.below r.h).cells.2.2.1
  have c3 := fun r : Gw w2 => (HA.out.below r.h).cells.2.2.2.1
  have c4 := fun r : Gw w2 => (HA.out.below r.h).cells.2.2.2.2.1
  have c5 := fun r : Gw w2 => (HA.out.below r.h).cells.2.2.2.2.2
  have x0 := fun r : Gw w2 => (HA.out.below r.h).xat.c0
  have x1 := fun r : Gw w2 => (HA.out.below r.h).xat.c1
  refine wp_region_gw_tail 6 (by kernel_rfl) (by kernel_rfl) ?_
  simp only [List.take_succ_cons, List.take_zero, List.drop_succ_cons, List.drop_zero]
  repeat (go_big_quiet_step ((fail)))
  refine wpQuiet_nil ?_
  rintro w6 ⟨⟨_, hb6⟩, rfl⟩
  replace HA := Lib.hid (HA.out.below hb6)
  clear hne c0 c1 c2 c3 c4 c5 x0 x1 hb6
  obtain ⟨w7, hrun, hm, hg⟩ := HA.out.rw.map1.del HQ.out (by rw [HLL.out]; rfl) 0
  replace HA := Lib.hid (HA.out.step1 hm hg)
  have d4 := HA.out.cells.2.2.2.2.1
  obtain ⟨w8, hrun2, hm2, hg2⟩ := HA.out.rw.map2.del HK.out (by rw [HFl.out]; rfl) 0
  replace HA := Lib.hid (HA.out.step2 hm2 hg2)
  clear hm hg hm2 hg2
  go_wp2
  clear hrun hrun2 d4
  have hne := gw_ne w8
  have c0 := fun r : Gw w8 => (HA.out.below r.h).cells.1
  have c1 := fun r : Gw w8 => (HA.out.below r.h).cells.2.1
  have c2 := fun r : Gw w8 => (HA.out.below r.h).cells.2.2.1
  have c3 := fun r : Gw w8 => (HA.out.below r.h).cells.2.2.2.1
  have c4 := fun r : Gw w8 => (HA.out.below r.h).cells.2.2.2.2.1
  have c5 := fun r : Gw w8 => (HA.out.below r.h).cells.2.2.2.2.2
  have x0 := fun r : Gw w8 => (HA.out.below r.h).xat.c0
  have x1 := fun r : Gw w8 => (HA.out.below r.h).xat.c1
  have ru : ∀ r : Gw w8, r.W.cell? ⟨g, j, none⟩ = some (.int .i64 (cntB p L j)) := fun r => (HA.out.below r.h).rw.row.at hjb
  refine wp_region_gw_tail 14 (by kernel_rfl) (by kernel_rfl) ?_
  simp only [List.take_succ_cons, List.take_zero, List.drop_succ_cons, List.drop_zero]
  repeat (go_big_quiet_step ((go_at_call 49; exact gw_of _ (HB.out _))))
  refine wpQuiet_nil ?_
  rintro w9 ⟨⟨_, hb6⟩, rfl⟩
  replace HA := Lib.hid (HA.out.below hb6)
  clear hne c0 c1 c2 c3 c4 c5 x0 x1 hb6 ru
  have ru9 : w9.cell? ⟨g, j, none⟩ = some (.int .i64 (cntB p L j)) := HA.out.rw.row.at hjb
  have rf9 := HA.out.rw.row.free j
  replace HA := Lib.hid (HA.out.step3 hjb (cntB p L j - 1))
  have y1 := HA.out.xat.c1
  replace HA := Lib.hid (As.one HF.out HLL.out HJ.out HA.out)
  obtain ⟨L1, hL1⟩ : ∃ L1, L1 = del q L := ⟨_, rfl⟩
  have HE1 := Lib.hid (show asg L q x = if x = -1 then L1 else ins q x L1 by rw [hL1]; rfl)
  have HF1 := Lib.hid (show Fits s b p L1 by rw [hL1]; exact HF.out.del q)
  have HN1 := Lib.hid (show look L1 q = none by rw [hL1]; exact look_none.2 fun y hy => (mem_del.1 hy).1)
  have HN2 := Lib.hid (show look (flip L1) x = none by rw [hL1]; exact look_none.2 fun y hy e => by have h1 := mem_del.1 (mem_flip.1 hy); exact h1.1 ((reqE_ok HR.out).2.2 _ (by rw [← e]; exact HF.out.flip_iff.2 h1.2)))
  have HFA := Lib.hid (HF.out.asg HR.out)
  have HR2 := Lib.hid (reqE_ok HR.out)
  rw [← hL1] at HA
  replace HA := Lib.hid HA.out
  clear hL1 HLL
  by_cases hx : x = -1
  · have e2 : decide (x = -1) = true := decide_eq_true hx
    have e3 : (x == -1) = true := by rw [beq_iff_eq]; exact hx
    have HEE := Lib.hid (show asg L q x = L1 by rw [HE1.out, if_pos hx])
    subst hx
    clear e2 e3
    go_wp2
    go_end0
    have ha := HA.out
    have hfa := HFA.out
    rw [HEE.out] at hfa ⊢
    exact ha.fin H0.out hfa
  · have e2 : decide (x = -1) = false := decide_eq_false hx
    have e3 : (x == -1) = false := by rw [beq_eq_false_iff_ne]; exact hx
    have HEE := Lib.hid (show asg L q x = ins q x L1 by rw [HE1.out, if_neg hx])
    have hxr : 0 ≤ x ∧ x < ((b * p : Nat) : Int) := by have := HR2.out.2.1; omega
    obtain ⟨j2, hj2, hjb2⟩ := HF1.out.blk hxr
    have HX6 := Lib.hid (show I64 x by have := HN.out; unfold I64; omega)
    have HB2 := Lib.hid (fun W => blockOf_nat s b x j2 HF1.out.hp ⟨hxr.1, by have := HN.out; omega⟩ hj2 W)
    have HJ2 := Lib.hid hj2
    obtain ⟨v, hv⟩ : ∃ v, v = cntB p L1 j2 := ⟨_, rfl⟩
    have hv1 : 0 ≤ v := by rw [hv]; exact cntB_nonneg _
    have hv2 : v ≤ 16777216 := by rw [hv]; have := cntB_le (p := p) (L := L1) j2; have := HF1.out.len; have := HF1.out.hs; omega
    have HV := Lib.hid hv
    clear hv hj2 hxr hx
    go_wp2
    generalize hWW : (w9.setCell ⟨g, j, none⟩ (.int .i64 (cntB p L j - 1)) : World) = W0 at HA ⊢
    clear hWW y1
    have hne := gw_ne W0
    have c0 := fun r : Gw W0 => (HA.out.below r.h).cells.1
    have c1 := fun r : Gw W0 => (HA.out.below r.h).cells.2.1
    have c2 := fun r : Gw W0 => (HA.out.below r.h).cells.2.2.1
    have c3 := fun r : Gw W0 => (HA.out.below r.h).cells.2.2.2.1
    have c4 := fun r : Gw W0 => (HA.out.below r.h).cells.2.2.2.2.1
    have c5 := fun r : Gw W0 => (HA.out.below r.h).cells.2.2.2.2.2
    have x0 := fun r : Gw W0 => (HA.out.below r.h).xat.c0
    have x1 := fun r : Gw W0 => (HA.out.below r.h).xat.c1
    refine wp_region_gw_tail 8 (by kernel_rfl) (by kernel_rfl) ?_
    simp only [List.take_succ_cons, List.take_zero, List.drop_succ_cons, List.drop_zero]
    repeat (go_big_quiet_step ((fail)))
    refine wpQuiet_nil ?_
    rintro w10 ⟨⟨_, hb6⟩, rfl⟩
    replace HA := Lib.hid (HA.out.below hb6)
    clear hne c0 c1 c2 c3 c4 c5 x0 x1 hb6
    obtain ⟨w11, hrun, hm, hg⟩ := HA.out.rw.map1.put HQ.out HX6.out HF1.out.len64 HN1.out
    replace HA := Lib.hid (HA.out.step1 hm hg)
    clear hm hg
    go_wp2
    clear hrun
    have hne := gw_ne w11
    have c0 := fun r : Gw w11 => (HA.out.below r.h).cells.1
    have c1 := fun r : Gw w11 => (HA.out.below r.h).cells.2.1
    have c2 := fun r : Gw w11 => (HA.out.below r.h).cells.2.2.1
    have c3 := fun r : Gw w11 => (HA.out.below r.h).cells.2.2.2.1
    have c4 := fun r : Gw w11 => (HA.out.below r.h).cells.2.2.2.2.1
    have c5 := fun r : Gw w11 => (HA.out.below r.h).cells.2.2.2.2.2
    have x0 := fun r : Gw w11 => (HA.out.below r.h).xat.c0
    have x1 := fun r : Gw w11 => (HA.out.below r.h).xat.c1
    refine wp_region_gw_tail 8 (by kernel_rfl) (by kernel_rfl) ?_
    simp only [List.take_succ_cons, List.take_zero, List.drop_succ_cons, List.drop_zero]
    repeat (go_big_quiet_step ((fail)))
    refine wpQuiet_nil ?_
    rintro w12 ⟨⟨_, hb6⟩, rfl⟩
    replace HA := Lib.hid (HA.out.below hb6)
    clear hne c0 c1 c2 c3 c4 c5 x0 x1 hb6
    obtain ⟨w13, hrun, hm, hg⟩ := HA.out.rw.map2.put HX6.out HQ.out HF1.out.len64 HN2.out
    replace HA := Lib.hid (HA.out.step2 hm hg)
    clear hm hg
    go_wp2
    clear hrun
    have hne := gw_ne w13
    have c0 := fun r : Gw w13 => (HA.out.below r.h).cells.1
    have c1 := fun r : Gw w13 => (HA.out.below r.h).cells.2.1
    have c2 := fun r : Gw w13 => (HA.out.below r.h).cells.2.2.1
    have c3 := fun r : Gw w13 => (HA.out.below r.h).cells.2.2.2.1
    have c4 := fun r : Gw w13 => (HA.out.below r.h).cells.2.2.2.2.1
    have c5 := fun r : Gw w13 => (HA.out.below r.h).cells.2.2.2.2.2
    have x0 := fun r : Gw w13 => (HA.out.below r.h).xat.c0
    have x1 := fun r : Gw w13 => (HA.out.below r.h).xat.c1
    have ru : ∀ r : Gw w13, r.W.cell? ⟨g, j2, none⟩ = some (.int .i64 v) := fun r => by have := (HA.out.below r.h).rw.row.at hjb2; rw [HV.out]; exact this
    refine wp_region_gw_tail 15 (by kernel_rfl) (by kernel_rfl) ?_
    simp only [List.take_succ_cons, List.take_zero, List.drop_succ_cons, List.drop_zero]
    repeat (go_big_quiet_step ((go_at_call 49; exact gw_of _ (HB2.out _))))
    refine wpQuiet_nil ?_
    rintro w14 ⟨⟨_, hb6⟩, rfl⟩
    replace HA := Lib.hid (HA.out.below hb6)
    clear hne c0 c1 c2 c3 c4 c5 x0 x1 hb6 ru
    have ru9 : w14.cell? ⟨g, j2, none⟩ = some (.int .i64 v) := by have := HA.out.rw.row.at hjb2; rw [HV.out]; exact this
    have rf9 := HA.out.rw.row.free j2
    replace HA := Lib.hid (HA.out.step3 hjb2 (v + 1))
    go_wp2
    go_end0
    have hfa := HFA.out
    rw [HEE.out] at hfa ⊢
    exact (As.two HF1.out hfa rfl HN1.out HN2.out HJ2.out HV.out HA.out).fin H0.out hfa
set_option maxHeartbeats 8000000 in
theorem assign_none (h : Mg w base bb m1 m2 g cap s b p L) {q x : Int} (hr : reqE s b p L q x = 0) (hl : look L q = none) : Calls Try.prog 36 #[.pointer (some ⟨bb, 0, none⟩), .agg #[.int .i64 q, .int .i64 x]] w (AsgP w base bb m1 m2 g cap s b p (asg L q x)) := by
  have hq : I64 q := by have := (reqE_ok hr).1; have := h.fit.hs; unfold I64; omega
  have hn := h.fit.n
  have HF := Lib.hid h.fit
  have H0 := Lib.hid h
  have HR := Lib.hid hr
  have HQ := Lib.hid hq
  have HLL := Lib.hid hl
  have HN := Lib.hid hn
  have HL := Lib.hid (del_none hl)
  have HA := asg_start h q x
  replace HA := Lib.hid HA
  clear h hr hq hl hn
  go_enter Try.func36, Try.ntmps36
  go_wp2
  have hne := gw_ne (w.alloc (.cells #[.int .i64 q, .int .i64 x] 50))
  have c0 := fun r : Gw (w.alloc (.cells #[.int .i64 q, .int .i64 x] 50)) => (HA.out.below r.h).cells.1
  have c1 := fun r : Gw (w.alloc (.cells #[.int .i64 q, .int .i64 x] 50)) => (HA.out.below r.h).cells.2.1
  have c2 := fun r : Gw (w.alloc (.cells #[.int .i64 q, .int .i64 x] 50)) => (HA.out.below r.h).cells.2.2.1
  have c3 := fun r : Gw (w.alloc (.cells #[.int .i64 q, .int .i64 x] 50)) => (HA.out.below r.h).cells.2.2.2.1
  have c4 := fun r : Gw (w.alloc (.cells #[.int .i64 q, .int .i64 x] 50)) => (HA.out.below r.h).cells.2.2.2.2.1
  have c5 := fun r : Gw (w.alloc (.cells #[.int .i64 q, .int .i64 x] 50)) => (HA.out.below r.h).cells.2.2.2.2.2
  have x0 := fun r : Gw (w.alloc (.cells #[.int .i64 q, .int .i64 x] 50)) => (HA.out.below r.h).xat.c0
  have x1 := fun r : Gw (w.alloc (.cells #[.int .i64 q, .int .i64 x] 50)) => (HA.out.below r.h).xat.c1
  have lk : ∀ r : Gw (w.alloc (.cells #[.int .i64 q, .int .i64 x] 50)), (Instr.lookup 53 (.map (some m1)) (.int .i64 q) true).run Try.prog r.W = .ok (.tuple #[.int .i64 0, .bool false]) r.W := fun r => by have := (HA.out.below r.h).rw.map1.look_ok HQ.out; rw [HLL.out] at this; exact this
  refine wp_region_gw (by kernel_rfl) (by kernel_rfl) ?_
  repeat (go_big_quiet_step ((fail)))
  refine wpQuiet_nil ?_
  rintro w2 ⟨⟨_, hb6⟩, rfl⟩
  replace HA := Lib.hid (HA.out.below hb6)
  clear hne c0 c1 c2 c3 c4 c5 x0 x1 hb6 lk
  have y1 := HA.out.xat.c1
  rw [← HL.out] at HA
  obtain ⟨L1, hL1⟩ : ∃ L1, L1 = del q L := ⟨_, rfl⟩
  have HE1 := Lib.hid (show asg L q x = if x = -1 then L1 else ins q x L1 by rw [hL1]; rfl)
  have HF1 := Lib.hid (show Fits s b p L1 by rw [hL1]; exact HF.out.del q)
  have HN1 := Lib.hid (show look L1 q = none by rw [hL1]; exact look_none.2 fun y hy => (mem_del.1 hy).1)
  have HN2 := Lib.hid (show look (flip L1) x = none by rw [hL1]; exact look_none.2 fun y hy e => by have h1 := mem_del.1 (mem_flip.1 hy); exact h1.1 ((reqE_ok HR.out).2.2 _ (by rw [← e]; exact HF.out.flip_iff.2 h1.2)))
  have HFA := Lib.hid (HF.out.asg HR.out)
  have HR2 := Lib.hid (reqE_ok HR.out)
  rw [← hL1] at HA
  replace HA := Lib.hid HA.out
  clear hL1 HLL
  by_cases hx : x = -1
  · have e2 : decide (x = -1) = true := decide_eq_true hx
    have e3 : (x == -1) = true := by rw [beq_iff_eq]; exact hx
    have HEE := Lib.hid (show asg L q x = L1 by rw [HE1.out, if_pos hx])
    subst hx
    clear e2 e3
    go_wp2
    go_end0
    have ha := HA.out
    have hfa := HFA.out
    rw [HEE.out] at hfa ⊢
    exact ha.fin H0.out hfa
  · have e2 : decide (x = -1) = false := decide_eq_false hx
    have e3 : (x == -1) = false := by rw [beq_eq_false_iff_ne]; exact hx
    have HEE := Lib.hid (show asg L q x = ins q x L1 by rw [HE1.out, if_neg hx])
    have hxr : 0 ≤ x ∧ x < ((b * p : Nat) : Int) := by have := HR2.out.2.1; omega
    obtain ⟨j2, hj2, hjb2⟩ := HF1.out.blk hxr
    have HX6 := Lib.hid (show I64 x by have := HN.out; unfold I64; omega)
    have HB2 := Lib.hid (fun W => blockOf_nat s b x j2 HF1.out.hp ⟨hxr.1, by have := HN.out; omega⟩ hj2 W)
    have HJ2 := Lib.hid hj2
    obtain ⟨v, hv⟩ : ∃ v, v = cntB p L1 j2 := ⟨_, rfl⟩
    have hv1 : 0 ≤ v := by rw [hv]; exact cntB_nonneg _
    have hv2 : v ≤ 16777216 := by rw [hv]; have := cntB_le (p := p) (L := L1) j2; have := HF1.out.len; have := HF1.out.hs; omega
    have HV := Lib.hid hv
    clear hv hj2 hxr hx
    go_wp2
    generalize hWW : (w2 : World) = W0 at HA ⊢
    clear hWW y1
    have hne := gw_ne W0
    have c0 := fun r : Gw W0 => (HA.out.below r.h).cells.1
    have c1 := fun r : Gw W0 => (HA.out.below r.h).cells.2.1
    have c2 := fun r : Gw W0 => (HA.out.below r.h).cells.2.2.1
    have c3 := fun r : Gw W0 => (HA.out.below r.h).cells.2.2.2.1
    have c4 := fun r : Gw W0 => (HA.out.below r.h).cells.2.2.2.2.1
    have c5 := fun r : Gw W0 => (HA.out.below r.h).cells.2.2.2.2.2
    have x0 := fun r : Gw W0 => (HA.out.below r.h).xat.c0
    have x1 := fun r : Gw W0 => (HA.out.below r.h).xat.c1
    refine wp_region_gw_tail 8 (by kernel_rfl) (by kernel_rfl) ?_
    simp only [List.take_succ_cons, List.take_zero, List.drop_succ_cons, List.drop_zero]
    repeat (go_big_quiet_step ((fail)))
    refine wpQuiet_nil ?_
    rintro w10 ⟨⟨_, hb6⟩, rfl⟩
    replace HA := Lib.hid (HA.out.below hb6)
    clear hne c0 c1 c2 c3 c4 c5 x0 x1 hb6
    obtain ⟨w11, hrun, hm, hg⟩ := HA.out.rw.map1.put HQ.out HX6.out HF1.out.len64 HN1.out
    replace HA := Lib.hid (HA.out.step1 hm hg)
    clear hm hg
    go_wp2
    clear hrun
    have hne := gw_ne w11
    have c0 := fun r : Gw w11 => (HA.out.below r.h).cells.1
    have c1 := fun r : Gw w11 => (HA.out.below r.h).cells.2.1
    have c2 := fun r : Gw w11 => (HA.out.below r.h).cells.2.2.1
    have c3 := fun r : Gw w11 => (HA.out.below r.h).cells.2.2.2.1
    have c4 := fun r : Gw w11 => (HA.out.below r.h).cells.2.2.2.2.1
    have c5 := fun r : Gw w11 => (HA.out.below r.h).cells.2.2.2.2.2
    have x0 := fun r : Gw w11 => (HA.out.below r.h).xat.c0
    have x1 := fun r : Gw w11 => (HA.out.below r.h).xat.c1
    refine wp_region_gw_tail 8 (by kernel_rfl) (by kernel_rfl) ?_
    simp only [List.take_succ_cons, List.take_zero, List.drop_succ_cons, List.drop_zero]
    repeat (go_big_quiet_step ((fail)))
    refine wpQuiet_nil ?_
    rintro w12 ⟨⟨_, hb6⟩, rfl⟩
    replace HA := Lib.hid (HA.out.below hb6)
    clear hne c0 c1 c2 c3 c4 c5 x0 x1 hb6
    obtain ⟨w13, hrun, hm, hg⟩ := HA.out.rw.map2.put HX6.out HQ.out HF1.out.len64 HN2.out
    replace HA := Lib.hid (HA.out.step2 hm hg)
    clear hm hg
    go_wp2
    clear hrun
    have hne := gw_ne w13
    have c0 := fun r : Gw w13 => (HA.out.below r.h).cells.1
    have c1 := fun r : Gw w13 => (HA.out.below r.h).cells.2.1
    have c2 := fun r : Gw w13 => (HA.out.below r.h).cells.2.2.1
    have c3 := fun r : Gw w13 => (HA.out.below r.h).cells.2.2.2.1
    have c4 := fun r : Gw w13 => (HA.out.below r.h).cells.2.2.2.2.1
    have c5 := fun r : Gw w13 => (HA.out.below r.h).cells.2.2.2.2.2
    have x0 := fun r : Gw w13 => (HA.out.below r.h).xat.c0
    have x1 := fun r : Gw w13 => (HA.out.below r.h).xat.c1
    have ru : ∀ r : Gw w13, r.W.cell? ⟨g, j2, none⟩ = some (.int .i64 v) := fun r => by have := (HA.out.below r.h).rw.row.at hjb2; rw [HV.out]; exact this
    refine wp_region_gw_tail 15 (by kernel_rfl) (by kernel_rfl) ?_
    simp only [List.take_succ_cons, List.take_zero, List.drop_succ_cons, List.drop_zero]
    repeat (go_big_quiet_step ((go_at_call 49; exact gw_of _ (HB2.out _))))
    refine wpQuiet_nil ?_
    rintro w14 ⟨⟨_, hb6⟩, rfl⟩
    replace HA := Lib.hid (HA.out.below hb6)
    clear hne c0 c1 c2 c3 c4 c5 x0 x1 hb6 ru
    have ru9 : w14.cell? ⟨g, j2, none⟩ = some (.int .i64 v) := by have := HA.out.rw.row.at hjb2; rw [HV.out]; exact this
    have rf9 := HA.out.rw.row.free j2
    replace HA := Lib.hid (HA.out.step3 hjb2 (v + 1))
    go_wp2
    go_end0
    have hfa := HFA.out
    rw [HEE.out] at hfa ⊢
    exact (As.two HF1.out hfa rfl HN1.out HN2.out HJ2.out HV.out HA.out).fin H0.out hfa
end
end Go.Proofs.Yteiemegkdnjpgaa
