/- The walk of MemoryLogs. Conditions stand in each theorem. -/
import Derived.Test.YtmnlkejhhdbhlaaP
import Derived.Test.YtmnlkejhhdbhlaaMB
import Derived.Deep.CutBlock
namespace Go.Proofs.Ytmnlkejhhdbhlaa
open Go.RowKit Go.Shelf
attribute [local go_sem] Oper.semAt_some
set_option linter.unusedVariables false
set_option maxHeartbeats 8000000
set_option maxRecDepth 100000
theorem Mem.rebase {w : World} {base base' b d cap : Nat} {m : Mm} (h : Mem w base b d cap m) (hb : base' ≤ base) : Mem w base' b d cap m := ⟨h.blk, h.dat.mono hb, Nat.le_trans hb h.hb⟩
theorem row_one (W : World) (p : Nat × Nat) : ∀ j u, (sv [p])[j]? = some u → (W.alloc (.cells #[.int .u64 (p.1 : Int), .int .i64 (p.2 : Int), .bool false] 47)).cell? ((⟨W.heap.size, 0, none⟩ : Addr).add j) = some u := fun j u hu => by
  rw [add_plain, Nat.zero_add, cell_of_row _ W.heap.size j _ 47 (0, 0) (heap_alloc_new W _), List.getElem?_toArray]
  exact hu
/-- What an append of one span leaves. -/
theorem ls_append {w W : World} {b d q : Nat} {A : Option Addr} {n c : Nat} {L : List (Nat × Nat)} {m : Mm} (h : Ls w b d q (.slice A n c) L m W) (hn : n = L.length) (hm : n ≤ 100000) (p : Nat × Nat) :
    ∃ A' c' W', (Builtin.append_ #[30, 30] 30 #[.slice A n c, .slice (some ⟨W.heap.size, 0, none⟩) 1 1]).run Try.prog (W.alloc (.cells #[.int .u64 (p.1 : Int), .int .i64 (p.2 : Int), .bool false] 47)) = .ok (.slice A' (n + 1) c') W' ∧ Ls w b d q (.slice A' (n + 1) c') (L ++ [p]) m (W'.setCell ⟨q, 0, none⟩ (.slice A' (n + 1) c')) ∧ W'.cell? ⟨q, 0, none⟩ = some (.slice A n c) ∧ W'.frozen? ⟨q, 0, none⟩ = false := by
  subst hn
  have h2 := h.later (below_alloc W (.cells #[.int .u64 (p.1 : Int), .int .i64 (p.2 : Int), .bool false] 47))
  obtain ⟨A', c', W', hrun, ho, hg⟩ := app_span _ w.heap.size L.length _ L p ⟨W.heap.size, 0, none⟩ h2.ro (row_one W p) (by omega) h2.k.2.size
  have hx7 : Bx1 W' q 30 (.slice A L.length c) := (hg.block q h2.x7.lt (fun e => by
    obtain ⟨cur, hh⟩ := own_ty h2.ro e.symm
    rw [show _ = _ from h2.x7] at hh; injection hh with hh; injection hh with _ hh; cases hh)).trans h2.x7
  exact ⟨A', c', W', hrun, h2.appended hg ho, hx7.cell, hx7.free⟩
/-- One page behind k writes of one byte. -/
structure Lm (m : Mm) (k : Nat) : Prop where
  gm : Gm m
  len : m.B.length = 4096
  cnt : m.L.length = k
theorem Lm.step {m : Mm} {k a : Nat} (h : Lm m k) (hk : k < 1000) (ha : a < 4096) : Lm (m.ch a 1 [1]) (k + 1) ∧ (m.ch a 1 [1]).L = m.L ++ [(a, 1)] := by
  have hz : m.chk a 1 = 0 := Mm.chk_of (n := 1) (by rw [h.len]; omega)
  have hL : (m.ch a 1 [1]).L = m.L ++ [(a, 1)] := by
    unfold Mm.ch Mm.log
    rw [if_pos hz, if_neg (by decide)]
    rfl
  refine ⟨⟨h.gm.ch (by rw [h.cnt]; omega) (fun _ => rfl), ?_, ?_⟩, hL⟩
  · rw [Mm.ch_B hz, pat_len (by rw [h.len]; simp; omega), h.len]
  · rw [hL, List.length_append, h.cnt]; rfl
/-- A class of worlds: what was there is as it was. -/
structure Gb (w : World) where
  W : World
  h : Below w.heap.size w W
theorem gb_ne (w : World) : Nonempty (Gb w) := ⟨⟨w, Below.refl _ _⟩⟩
theorem gb_of {P : Program} {f : Nat} {args : Array Value} {w : World} {v : Value} (p : Gb w) (h : Calls P f args p.W fun e w' => e = .returned v ∧ Below p.W.heap.size p.W w') : Calls P f args p.W fun e w'' => e = .returned v ∧ ∃ q : Gb w, w'' = q.W :=
  h.mono fun e w' ⟨h1, h2⟩ => ⟨h1, ⟨w', p.h.trans (h2.mono p.h.size)⟩, rfl⟩
theorem gb_same {P : Program} {f : Nat} {args : Array Value} {w : World} {v : Value} (p : Gb w) (h : Calls P f args p.W fun e w' => e = .returned v ∧ p.W = w') : Calls P f args p.W fun e w'' => e = .returned v ∧ ∃ q : Gb w, w'' = q.W :=
  h.mono fun e w' ⟨h1, h2⟩ => ⟨h1, p, h2.symm⟩
theorem Gb.cell {w : World} (r : Gb w) {g o : Nat} {v : Value} (hc : w.cell? ⟨g, o, none⟩ = some v) : r.W.cell? ⟨g, o, none⟩ = some v := (r.h.cell (p := ⟨g, o, none⟩) (World.block_lt_of_cell? w _ hc)).trans hc
theorem wp_region_gb {P : Program} {id : Nat} {Q : Exit → Act → World → Prop} {a : Act} {w : World} {l : List Oper} (hm : P.follows .mixedOrders = true) (hB : Region.lexB .any l.toArray = true)
    (h : wpQuiet P l.toArray (fun W => ∃ p : Gb w, W = p.W) (fun a' => ∀ w', (∃ p : Gb w, w' = p.W) → Q .normal a' w') l a) : (Code.region id l.toArray true).wp P Q a w :=
  wp_region_quiet (C := fun W => ∃ p : Gb w, W = p.W) hm hB ⟨⟨w.drew, (Below.refl _ w).drew⟩, rfl⟩ (by simpa using h)
/-- The state of the last loop. -/
structure L2 (w : World) (b d q q10 qk : Nat) (v : Value) (L : List (Nat × Nat)) (F : Int) (m : Mm) (k : Nat) (W : World) : Prop where
  s : Ls w b d q v L m W
  x10 : Bx1 W q10 3 (.int .i64 F)
  xk : Bx1 W qk 3 (.int .i64 (k : Int))
  h : w.heap.size ≤ qk ∧ qk ≠ q10
theorem ls_put {w W : World} {b d q j : Nat} {t : TypeId} {v u u' : Value} {L : List (Nat × Nat)} {m : Mm} (h : Ls w b d q v L m W) (hj : Bx1 W j t u) (hw : w.heap.size ≤ j) (h1 : t ≠ 62) (h2 : t ≠ 5) (h3 : t ≠ 4) (h4 : t ≠ 30) (h5 : t ≠ 47) : Ls w b d q v L m (W.setCell ⟨j, 0, none⟩ u') := by
  have kq : ∀ {k : Nat} {cs : Array Value} {t' : TypeId} {f : Nat × Nat}, W.heap[k]? = some (.cells cs t' f) → t ≠ t' → (W.setCell ⟨j, 0, none⟩ u').heap[k]? = some (.cells cs t' f) := fun {k cs t' f} hk ht =>
    (Below.heap_setCell W _ _ _ (fun e => by
      have e : k = j := e
      subst e
      rw [show W.heap[k]? = _ from hj] at hk; injection hk with hk; injection hk with _ hk; exact ht hk)).trans hk
  obtain ⟨c, e1, _⟩ := h.k.1.blk
  obtain ⟨_, _, cur, e2, _⟩ := h.k.1.row
  refine ⟨⟨h.k.1.keep fun k hk => ?_, h.k.2.setCell hw _⟩, kq h.x4 h3, kq h.x7 h4, own_same h.ro fun g hg => ?_, h.hq⟩
  · rcases hk with rfl | rfl
    · rw [kq e1 h1, e1]
    · rw [kq e2 h2, e2]
  · obtain ⟨cur2, hh⟩ := own_ty h.ro hg
    rw [kq hh h5, hh]
section
variable {w W W' : World} {b d q q10 qk k : Nat} {v : Value} {L : List (Nat × Nat)} {F : Int} {m : Mm}
theorem L2.below (h : L2 w b d q q10 qk v L F m k W) (hb : Below W.heap.size W W') : L2 w b d q q10 qk v L F m k W' := ⟨h.s.later hb, h.x10.below hb, h.xk.below hb, h.h⟩
theorem L2.step (h : L2 w b d q q10 qk v L F m k W) (hb : Below W.heap.size W W') : L2 w b d q q10 qk v L F m (k + 1) (W'.setCell ⟨qk, 0, none⟩ (.int .i64 ((k : Int) + 1))) := by
  have h2 := h.below hb
  exact ⟨ls_put h2.s h2.xk h.h.1 (by decide) (by decide) (by decide) (by decide) (by decide), (Below.heap_setCell W' _ _ _ (fun e => h.h.2 (Eq.symm e))).trans h2.x10, heap_setCell_same W' qk 0 _ 3 _ h2.xk, h.h⟩
theorem own_row {β : Type} {B base e sz n : Nat} {xs : List Value} : OwnFrom B (fun (_ : β) W => W.ownsRow base e sz v n xs) := fun i X Y row hs hg hr => own_same hs fun g hgg => by
  obtain ⟨cur, hh⟩ := own_ty hs hgg
  refine hg.block g (Array.getElem?_eq_some_iff.1 hh).1 fun e => ?_
  obtain ⟨o', ho', hc'⟩ := (hr g e.symm).2
  rw [hh] at ho'; cases ho'; cases hc'
theorem own_mem {β : Type} {base cap B : Nat} : OwnFrom B (fun (_ : β) W => Mem W base b d cap m) := fun i X Y row hs hg hr => by
  have hx : ∀ (t : Nat) (o : Obj), X.heap[t]? = some o → o.isCells = true → Y.heap[t]? = X.heap[t]? := fun t o ho hc => hg.block t (Array.getElem?_eq_some_iff.1 ho).1 fun e => by
    obtain ⟨o', ho', hc'⟩ := (hr t e.symm).2
    rw [ho] at ho'; cases ho'; rw [hc] at hc'; cases hc'
  obtain ⟨c, h1, _⟩ := hs.blk
  obtain ⟨_, _, cur, h2, _⟩ := hs.row
  exact hs.keep fun t ht => by
    rcases ht with rfl | rfl
    · exact hx _ _ h1 rfl
    · exact hx _ _ h2 rfl
theorem own_ls {β : Type} {B : Nat} (hB : w.heap.size ≤ B) : OwnFrom B (fun (_ : β) W => Ls w b d q v L m W) := fun i X Y row hs hg hr =>
  ⟨⟨own_mem () X Y row hs.k.1 hg hr, ownFrom_below (Nat.le_refl _) hB () X Y row hs.k.2 hg hr⟩, own_bx B () X Y row hs.x4 hg hr, own_bx B () X Y row hs.x7 hg hr, own_row () X Y row hs.ro hg hr, hs.hq⟩
theorem own_l2 {B : Nat} (hB : w.heap.size ≤ B) : OwnFrom B (fun (i : Nat) W => L2 w b d q q10 qk v L F m i W) := fun i X Y row hs hg hr =>
  ⟨own_ls hB () X Y row hs.s hg hr, own_bx B () X Y row hs.x10 hg hr, own_bx B () X Y row hs.xk hg hr, hs.h⟩
end
theorem res4 (W' : World) (q : Nat) (tm : Array Value) (htm : tm.getD 4 undef = .pointer (some ⟨q, 0, none⟩)) (h : W'.cell? ⟨q, 0, none⟩ = some (.bool true)) : (results Try.f4 tm).run Try.prog W' = .ok (.bool true) W' := by
  have e : tm[4]?.getD undef = .pointer (some ⟨q, 0, none⟩) := by simpa using htm
  simp [results, Try.results4, go_sem, h, e]
theorem logs_in (vat : Value) (ws : List Nat) (many : Int) (w : World) (hws : U16s w vat ws) (h1 : ws.length ≤ 600) : Calls Try.prog 4 #[vat, .int .i64 many] w (OkB w) := by
  have N0 := Lib.hid kp_new
  have HW := Lib.hid works_any
  obtain ⟨A, c, rfl, hlt, hr⟩ := hws
  have HR := Lib.hid (And.intro hlt hr)
  have g1 : decide ((ws.length : Int) > 600) = false := decide_eq_false (by omega)
  have g2 : decide ((600 : Int) < (ws.length : Int)) = false := decide_eq_false (by omega)
  have g3 : decide (600 < ws.length) = false := decide_eq_false (by omega)
  have hlm : (ws.length : Int) ≤ 600 := by omega
  have hqn := fun (W : World) (f : Fn) (x y : Array Value) => run_eql_func_nil (P := Try.prog) W 49 f x y Try.underlying49
  have HLEN := Lib.hid h1
  have hb0 := below_alloc w (.cells #[.bool false] 4)
  have HX4 := Lib.hid (Bx1.new w 4 (.bool false))
  have HB0 := Lib.hid hb0
  clear hlt hr h1 hb0
  refine (callsIn_wide (n := 9)).1 ?_
  refine callsIn_of_wp_marks Try.func4 rfl trivial ?_ rfl
  simp only [Try.ntmps4, List.size_toArray, List.length_cons, List.length_nil, Nat.reduceAdd, Nat.reduceSub, Array.replicate_succ, Array.replicate_zero, List.push_toArray, List.append_toArray, List.nil_append, List.cons_append]
  refine wpIn_wide.2 ?_
  go_upto_region 6 with ((go_at_call 11; with_reducible refine (N0.out _).mono ?_); rintro e w1 ⟨b, d, rfl, hk⟩; have K0 := Lib.hid hk; clear hk N0)
  have hk1 : Kp w b d 4096 (Mm.new 4096) w1 := ⟨K0.out.1.rebase (by simp), HB0.out.trans (K0.out.2.mono (by simp))⟩
  have HLs : Hid (Ls w b d w1.heap.size (.slice none 0 0) (Mm.new 4096).L (Mm.new 4096) (w1.alloc (.cells #[.slice none 0 0] 30))) := Lib.hid ⟨hk1.later (below_alloc w1 _), (HX4.out.below K0.out.2).below (below_alloc w1 _), Bx1.new w1 30 _, World.ownsRow_nil _ _ _ _, hk1.2.size⟩
  have HLm : Hid (Lm (Mm.new 4096) 0) := Lib.hid ⟨Gm.new (by decide) (by decide), List.length_replicate, rfl⟩
  clear hk1 K0 HX4
  generalize w1.alloc (.cells #[.slice none 0 0] 30) = W0 at *
  generalize w1.heap.size = q at *
  go_loopw [8] (fun i wr => ∃ (k : Nat) (v : Value) (m : Mm), k ≤ ws.length ∧ i = .int .i64 k ∧ Hid (Ls w b d q v m.L m wr) ∧ Hid (Lm m k)) (fun i _ => ws.length - (RowKit.intOf i).toNat)
  case atStart => exact ⟨0, _, _, Nat.zero_le _, rfl, HLs, HLm⟩
  case round =>
    obtain ⟨k, v, m, hk, rfl, HL, HM⟩ := hrel
    by_cases hlt : k < ws.length
    · obtain ⟨g, o, rfl, hg, hcell⟩ := HR.out.2 (by omega)
      have hu16 := HR.out.1 ws[k] (List.getElem_mem hlt)
      have cw := (HL.out.k.bel.cell (p := ⟨g, o + k, none⟩) hg).trans (hcell k hlt)
      have hkwi : (k : Int) < (ws.length : Int) := by omega
      obtain ⟨z, hz⟩ : ∃ z, z = ws[k] := ⟨_, rfl⟩
      rw [← hz] at cw hu16
      obtain ⟨a, ha⟩ : ∃ a, a = z % 4096 := ⟨_, rfl⟩
      have hal : a < 4096 := by omega
      have hw1 : IntKind.u64.wrap (z : Int) = (z : Int) := by rw [IntKind.wrap_u64]; omega
      have hmod : ((z : Nat) : Int).tmod 4096 = (a : Int) := by rw [ha, Int.tmod_eq_emod_of_nonneg (by omega)]; omega
      have hst := HM.out.step (a := a) (by have := HLEN.out; omega) hal
      have HST := Lib.hid hst
      have HWr := Lib.hid (ls_write HL.out HM.out.gm HM.out.len a hal)
      obtain ⟨A3, c3, rfl⟩ := own_form HL.out.ro
      have HK := Lib.hid (show k < ws.length ∧ m.L.length ≤ 1000 from ⟨hlt, by rw [HM.out.cnt]; have := HLEN.out; omega⟩)
      have HN : Hid (m.L.length = m.L.length) := Lib.hid rfl
      generalize hn : m.L.length = n at HWr
      rw [hn] at HL HK
      have HNE := Lib.hid hn
      clear hz ha hal hcell hu16 hst hg hn hlt hk
      go_wp2_with (first
        | ((go_at_call 16; with_reducible refine HWr.out.mono ?_); rintro e w4 ⟨rfl, hl4⟩; obtain ⟨A5, c5, w5, hrun, hl5, c75, f75⟩ := ls_append hl4 HNE.out.symm (by have := HK.out; omega) (a, 1); have HL5 := Lib.hid hl5; have c74 := hl4.x7.cell; have HRun := Lib.hid hrun; clear hl4 hl5 hrun)
        | ((go_at_call 13; with_reducible refine (num_any _ _).mono ?_); rintro e w' ⟨rfl, rfl⟩)
        | (at_builtin; refine wpList_append_run rfl (.tmp 41) (.tmp 44) 30 30 rfl _ _ _ w5 rfl rfl HRun.out ?_))
      go_roundw
      case rel => exact ⟨k + 1, _, _, by have := HK.out; omega, by go_num, Lib.hid (by rw [HST.out.2]; exact HL5.out), Lib.hid HST.out.1⟩
      case measure => simp [RowKit.intOf]; have := HK.out; omega
    · have hkl : k = ws.length := by omega
      obtain ⟨A3, c3, rfl⟩ := own_form HL.out.ro
      obtain ⟨F, hF⟩ : ∃ F, F = fr m.L := ⟨_, rfl⟩
      obtain ⟨L, hL⟩ : ∃ L, L = m.L := ⟨_, rfl⟩
      rw [← hL] at HL hF
      have hLm : L.length ≤ 600 := by rw [hL, HM.out.cnt]; omega
      have hF2 : F = L.length - 256 := hF
      have hmx : max (0 : Int) ((L.length : Int) - 256) = (F : Int) := by omega
      have hc3 : L.length ≤ c3 := by
        obtain ⟨_, c, e, h, _⟩ := spn_of_own HL.out.ro
        simp only [Value.slice.injEq] at e
        obtain ⟨rfl, _, rfl⟩ := e
        exact h
      obtain ⟨A6, c6, hdr, hc6, hA6⟩ := drop_run A3 L.length c3 F (by omega) hc3
      have hspn := fun W (h : Spn W (.slice A3 L.length c3) L) => Spn.drop h rfl (by omega) hc6 hA6
      have HSpn := Lib.hid hspn
      have HF2 := Lib.hid (show F ≤ L.length ∧ L.length ≤ 600 ∧ F = fr L ∧ F = L.length - 256 from ⟨by omega, hLm, hF, hF2⟩)
      have HWs : Hid (∀ W, Below wr.heap.size wr W → Calls Try.prog 17 #[.pointer (some ⟨b, 0, none⟩)] W (WrPost W L)) := Lib.hid (fun W hW => by rw [hL]; exact Writes_any ((HL.out.later hW).k.1) HM.out.gm.pos)
      have HLL := Lib.hid hL
      have hdk : decide ((k : Int) < (ws.length : Int)) = false := decide_eq_false (by omega)
      have hdk2 : decide (k < ws.length) = false := decide_eq_false (by omega)
      have hLi : (L.length : Int) ≤ 600 := by omega
      have hlc : (L.length : Int) - (F : Int) = ((L.length - F : Nat) : Int) := by omega
      have HLC := Lib.hid hlc
      have cv := HL.out.x7.cell
      have hbt := below_alloc wr (.cells #[.int .i64 (F : Int)] 3)
      have HL1 := Lib.hid (HL.out.later hbt)
      have HX10 := Lib.hid (Bx1.new wr 3 (.int .i64 (F : Int)))
      have HWs1 := Lib.hid (HWs.out _ hbt)
      clear hkl hk hlt hF hF2 hLm hc3 hc6 hA6 hspn hL hlc hbt
      go_upto_region 14 with ((go_at_call 17; with_reducible refine HWs1.out.mono ?_); rintro e w2 ⟨ql, rfl, hql, hlb, hb⟩; have HQ := Lib.hid (And.intro hql hlb); have HL2 := Lib.hid (HL1.out.later hb); have HX2 := Lib.hid (HX10.out.below hb); have HBw := Lib.hid ((below_alloc wr (.cells #[.int .i64 (F : Int)] 3)).trans (hb.mono (by simp))); clear hql hlb hb)
      obtain ⟨q10, hq10⟩ : ∃ q10, q10 = wr.heap.size := ⟨_, rfl⟩
      rw [← hq10] at HX2 ⊢
      have HQ10 := Lib.hid hq10
      clear hq10
      have hne := gb_ne w2
      have c10 := fun z : Gb w2 => z.cell HX2.out.cell
      have c7 := fun z : Gb w2 => z.cell HL2.out.x7.cell
      have HLG := Lib.hid (fun (p : Gb w2) (mm : Int) => gb_of p (v := .bool true) (logs_any (.pointer (some ⟨b, 0, none⟩)) (.slice A6 (L.length - F) c6) L mm p.W (fun W hW => HWs.out W (HBw.out.trans ((p.h.trans (hW.mono p.h.size)).mono HBw.out.size))) (by have := HF2.out; omega) (by have := HSpn.out _ (spn_of_own (HL2.out.later p.h).ro); rw [HF2.out.2.2.1] at this ⊢; exact this) F HF2.out.2.2.1))
      refine wp_region_gb (by kernel_rfl) (by kernel_rfl) ?_
      repeat (go_big_quiet_step ((first | (go_at_call 13; exact gb_same _ (num_any _ _)) | (go_at_call 18; exact HLG.out _ _))))
      refine wpQuiet_nil ?_
      rintro w3 ⟨⟨_, hb3⟩, rfl⟩
      have HL3 := Lib.hid (HL2.out.later hb3)
      have HX3 := Lib.hid (HX2.out.below hb3)
      have HQ3 := Lib.hid (HQ.out.2.below hb3)
      have HCl := Lib.hid (Clear_any (HL2.out.later hb3).k.1 HM.out.gm.pos)
      have HLT : Hid (ql < w3.heap.size ∧ q10 < w3.heap.size) := Lib.hid ⟨HQ3.out.lt, HX3.out.lt⟩
      clear c10 c7 hne hb3 HLG HWs HWs1 hdr cv hmx
      go_wp2_with ((go_at_call 19; with_reducible refine HCl.out.mono ?_); rintro e w4 ⟨rfl, hm4, hc4⟩; have hcc := hc4.mono (T := fun k => k = b ∨ k = d) (fun i hi => .inl hi); have HL4 := Lib.hid (HL3.out.mv hm4 hcc); have HX4 := Lib.hid (show Bx1 w4 q10 3 _ from HL3.out.k.1.keepTy hcc HX3.out (by decide) (by decide)); have HQ4 : Hid (Lbx w4 ql L) := Lib.hid (by obtain ⟨cc, e1, e2⟩ := HQ3.out; exact ⟨cc, HL3.out.k.1.keepTy hcc e1 (by decide) (by decide), e2⟩); have HS4 := Lib.hid hc4.size; clear hm4 hc4 hcc)
      obtain ⟨qk, hqk⟩ : ∃ qk, qk = w4.heap.size := ⟨_, rfl⟩
      have hbk := below_alloc w4 (.cells #[.int .i64 0] 3)
      have hbx := Bx1.new w4 3 (.int .i64 0)
      have HL5 : Hid (L2 w b d q q10 qk (.slice A3 L.length c3) L (F : Int) { m with L := [] } 0 (w4.alloc (.cells #[.int .i64 0] 3))) := Lib.hid ⟨HL4.out.later hbk, HX4.out.below hbk, by rw [hqk]; exact hbx, by rw [hqk]; exact HL4.out.k.2.size, by rw [hqk]; have := HX4.out.lt; omega⟩
      have HQ5 := Lib.hid (HQ4.out.below hbk)
      have HQK := Lib.hid (show ql ≠ qk from by have := HQ4.out.lt; omega)
      rw [← hqk]
      clear hqk hbk hbx
      generalize w4.alloc (.cells #[.int .i64 0] 3) = w5 at *
      refine (wpIn_wide (n := 9)).1 ?_
      refine range_box (gf := 46) (w0 := w5) (L := L) (S := (· = qk)) (fun B x y t => (((t.setIfInBounds 81 x).setIfInBounds 82 y).setIfInBounds 13 x).setIfInBounds 14 (.pointer (some ⟨B, 0, none⟩))) rfl (enters_of Try.func46 (by kernel_rfl) rfl) (writes1_yields _ _ ql L w5 (by have := HF2.out; omega) HQK.out HQ5.out) (Below.refl _ _)
        (fun j W' => L2 w b d q q10 qk (.slice A3 L.length c3) L (F : Int) { m with L := [] } j W') (fun cd j W' => False) (own_l2 HL5.out.s.k.2.size) (fun cd j X Y row hs => hs.elim) HL5.out ?assign ?body ?done ?stop
      case assign =>
        intro l'' i p W' K' hK'
        gi_wp2
        exact hK'
      case body =>
        rintro l'' j hj B W' hl2 hB
        obtain ⟨A1, c1, e1, hc1, hr1⟩ := spn_of_own hl2.s.ro
        simp only [Value.slice.injEq, true_and] at e1
        obtain ⟨rfl, rfl⟩ := e1
        obtain ⟨g, o, rfl, hg, hcell⟩ := hr1 (by omega)
        have hFN : (F : Int) + (j : Int) = ((fr L + j : Nat) : Int) := by have := HF2.out.2.2.1; omega
        generalize fr L + j = N at hj hB hFN ⊢
        obtain ⟨a0, a1, a2⟩ := hcell N hj
        have hNl : (N : Int) < (L.length : Int) := by omega
        have hjm : (j : Int) + 1 ≤ 1000000 := by have := HF2.out; omega
        have e := fun i => cell_of_row W' B i _ 47 (0, 0) hB
        have e0 := e 0
        have e1 := e 1
        have e2 := e 2
        simp only [sc] at e0 e1 e2 ⊢
        obtain ⟨x, hx⟩ : ∃ x, x = L[N] := ⟨_, rfl⟩
        rw [← hx] at e0 e1 a0 a1 ⊢
        have hne := gw_ne W'
        have hneq := neq47 x.1 x.2
        have g1 : decide ((N : Int) ≥ (L.length : Int)) = false := decide_eq_false (by omega)
        have g2 : decide ((L.length : Int) ≤ (N : Int)) = false := decide_eq_false (by omega)
        have g3 : decide (L.length ≤ N) = false := decide_eq_false (by omega)
        generalize x.1 = x1 at *
        generalize x.2 = x2 at *
        have b0 := fun z : Gw W' => z.cell (g := B) (o := 0) (v := .int .u64 (x1 : Int)) e0
        have b1 := fun z : Gw W' => z.cell (g := B) (o := 1) (v := .int .i64 (x2 : Int)) e1
        have b2 := fun z : Gw W' => z.cell (g := B) (o := 2) (v := .bool false) e2
        have d0 := fun z : Gw W' => z.cell a0
        have d1 := fun z : Gw W' => z.cell a1
        have d2 := fun z : Gw W' => z.cell a2
        have c10 := fun z : Gw W' => z.cell hl2.x10.cell
        have c7 := fun z : Gw W' => z.cell hl2.s.x7.cell
        have ck := fun z : Gw W' => z.cell hl2.xk.cell
        have HLO := Lib.hid hl2
        clear hl2 e e0 e1 e2 a0 a1 a2 hcell hx hB hg hr1 hc1 hj
        gi_wp2
        simp only [List.setIfInBounds_toArray, List.set_cons_succ, List.set_cons_zero]
        refine wpIn_region_gw_round (by kernel_rfl) (by kernel_rfl) (by kernel_rfl) ?_
        repeat (gi_big_quiet_step ((fail)))
        refine wpQuietIn_nil ?_
        rintro X2 ⟨⟨_, hgX⟩, rfl⟩
        have hl2 := HLO.out.below hgX.below
        have hl3 := HLO.out.step hgX.below
        have hkf := ri_kf (B := w5.heap.size) hgX.below (N := qk) HL5.out.xk.lt (.int .i64 ((j : Int) + 1))
        have ck2 := hl2.xk.cell
        have fk2 := hl2.xk.free
        have HL3x := Lib.hid hl3
        have HKF := Lib.hid hkf
        clear hl2 hl3 hkf hgX b0 b1 b2 d0 d1 d2 c10 c7 ck hne hneq
        gi_wp2
        exact ⟨HKF.out.1, HKF.out.2, HL3x.out⟩
      case done =>
        rintro D W10 hD hl2 hd
        have hHM : Marks w.heap.size [D] W10 := mark1 (Nat.le_refl _) hl2.s.k.2 (by have := HL5.out.s.k.2.size; omega) hd
        have hlc2 := HLC.out
        rw [← HF2.out.2.2.1] at hl2
        have ck := hl2.xk.cell
        have c7 := hl2.s.x7.cell
        have c10 := hl2.x10.cell
        have HLG : Hid (Calls Try.prog 18 #[.pointer (some ⟨b, 0, none⟩), .int .i64 0, .slice none 0 0, .int .i64 9] W10 (OkB W10)) := Lib.hid (logs_any _ (.slice none 0 0) [] 9 W10 (fun W hW => Writes_any (m := { m with L := [] }) (hl2.s.later hW).k.1 HM.out.gm.pos) (by simp) (Spn.nil W10) 0 rfl)
        have HL2x := Lib.hid hl2
        have HMK := Lib.hid hHM
        clear hl2 hd hHM
        go_wp2_with (first
          | ((go_at_call 18; with_reducible refine HLG.out.mono ?_); rintro e W11 ⟨rfl, hb⟩; have HL11 := Lib.hid (HL2x.out.below hb); have HMK11 := Lib.hid (HMK.out.below hb); clear hb)
          | ((go_at_call 10; with_reducible refine (HW.out _).mono ?_); rintro e W12 ⟨rfl, hb⟩; have HL12 := Lib.hid (HL11.out.below hb); have HMK12 := Lib.hid (HMK11.out.below hb); have x4 := HL12.out.s.x4.cell; have f4 := HL12.out.s.x4.free; clear hb))
        exact law_true (q := w.heap.size) HMK12.out HL12.out.s.k.2 HL12.out.s.x4 (Nat.le_refl _) fun W' h => res4 W' _ _ rfl h
      case stop =>
        rintro D cd j W10 hD hj hf hd
        exact hf.elim
end Go.Proofs.Ytmnlkejhhdbhlaa
