/- The walk of MappingNone. No condition. -/
import Derived.Test.YteiemegkdnjpgaaNA
namespace Go.Proofs.Yteiemegkdnjpgaa
open Go.RowKit Go.Shelf
attribute [local go_sem] Oper.semAt_some
set_option linter.unusedVariables false
set_option maxHeartbeats 16000000
set_option maxRecDepth 100000
theorem Entries_gen {w : World} {q : Option Addr} {L : List (Int × Int)} (hall : Calls Try.prog 16 #[.pointer q] (w.alloc (.cells #[.slice none 0 0] 27)) (SeqP (w.alloc (.cells #[.slice none 0 0] 27)) L)) (hlen : L.length ≤ 16777216) : Calls Try.prog 27 #[.pointer q] w (LisP w L) := by
  have b1 := below_alloc w (.cells #[.slice none 0 0] 27)
  have HALL := Lib.hid hall
  have x1 := Bx1.new w 27 (.slice none 0 0)
  have HX1 := Lib.hid x1
  have HB1 := Lib.hid b1
  clear hall b1 x1
  refine (callsIn_wide (n := 9)).1 ?_
  have f16 : Fence.wide.fn 16 := trivial
  refine callsIn_of_wp_marks Try.func27 rfl trivial ?_ rfl
  simp only [Try.ntmps27, List.size_toArray, List.length_cons, List.length_nil, Nat.reduceAdd, Nat.reduceSub, Array.replicate_succ, Array.replicate_zero, List.push_toArray, List.append_toArray, List.nil_append, List.cons_append]
  gi_wp2_with (gi_at_call 16; refine (callsIn_wide.2 HALL.out).mono ?_; rintro e E ⟨B, v, rfl, hB, hbx, hent, hvo, hbe⟩; have HBX := Lib.hid hbx; have HEN := Lib.hid hent; have HVO := Lib.hid hvo; have HBE := Lib.hid hbe; clear hbx hent hvo hbe)
  have hsz : (w.alloc (.cells #[.slice none 0 0] 27)).heap.size = w.heap.size + 1 := by simp
  rw [hsz] at hB
  have hs2 := HBE.out.size
  rw [hsz] at hs2
  have hbw : Below w.heap.size w E := HB1.out.trans (HBE.out.mono (by omega))
  have hbf : Bf E.heap.size w.heap.size [] E := ⟨_, HX1.out.below HBE.out, World.ownsRow_nil _ _ _ _, by omega⟩
  refine range_asg (gf := 50) (fun x y t => (((t.setIfInBounds 8 x).setIfInBounds 9 y).setIfInBounds 4 x).setIfInBounds 5 y) rfl (enters_of Try.func50 (by kernel_rfl) rfl) (seq_yields (fun k => k = w.heap.size ∨ E.heap.size ≤ k) _ _ _ L E hlen (fun b hb hS => by
      have := HVO.out b hb
      rw [hsz] at this
      omega) HBX.out HEN.out) (Below.refl _ _)
    (fun k W => Bf E.heap.size w.heap.size (L.take k) W ∧ Below w.heap.size w W ∧ E.heap.size ≤ W.heap.size) (fun _ _ _ => False)
    (fun j X Y row hs hg hr => ⟨own_bf _ () X Y row hs.1 hg hr, ownFrom_below (Nat.le_refl _) (by omega) () X Y row hs.2.1 hg hr, Nat.le_trans hs.2.2 hg.size⟩) (fun c j X Y row hs _ _ => hs) ⟨hbf, hbw, Nat.le_refl _⟩ ?assign ?body ?done ?stop
  case assign =>
    intro l'' x W' K' hK'
    gi_wp2
    exact hK'
  case body =>
    rintro l'' k hk W ⟨hf, hb, hE⟩
    have hkl : (L.take k).length ≤ 16777216 := by simp; omega
    have HT := Lib.hid (List.take_succ_eq_append_getElem hk)
    generalize L[k] = x at *
    obtain ⟨x1, x2⟩ := x
    generalize L.take k = pl at *
    obtain ⟨A, n, m, A', m', w2, hv, hrun, hv2, hbf', hch, hnc⟩ := bf_append' hf hE hkl x1 x2 27
    have c1 := hv.cell
    have c2 := hv2.cell
    have c3 := hv2.free
    have HR := Lib.hid hrun
    have HF := Lib.hid (show KeepsFrom E.heap.size W (w2.setCell ⟨w.heap.size, 0, none⟩ (.slice A' (pl.length + 1) m')) ∧ Kc (fun k => k = w.heap.size ∨ E.heap.size ≤ k) W (w2.setCell ⟨w.heap.size, 0, none⟩ (.slice A' (pl.length + 1) m')) ∧ (Bf E.heap.size w.heap.size (L.take (k + 1)) (w2.setCell ⟨w.heap.size, 0, none⟩ (.slice A' (pl.length + 1) m')) ∧ Below w.heap.size w (w2.setCell ⟨w.heap.size, 0, none⟩ (.slice A' (pl.length + 1) m')) ∧ E.heap.size ≤ (w2.setCell ⟨w.heap.size, 0, none⟩ (.slice A' (pl.length + 1) m')).heap.size) from
      ⟨kf_nc hnc hch.size, Kc.of_chg hch, by rw [HT.out]; exact hbf', hb.trans (hch.below hb.size (fun i hi => by omega)), Nat.le_trans hE hch.size⟩)
    clear hf hb hv hrun hv2 hbf' hch hnc
    gi_wp2_with (gi_at_builtin; refine wpListIn_append_run rfl (.tmp 10) (.tmp 14) 27 27 rfl _ _ _ w2 rfl rfl HR.out ?_)
    exact HF.out
  case done =>
    rintro D W hD ⟨hf, hb, hE⟩ hd
    rw [List.take_length] at hf
    obtain ⟨A, m, h1, h2, h3⟩ := bf_ent hf
    have c1 := h1.cell
    have HF := Lib.hid (show LisP w L (.returned (.slice A L.length m)) (W.putObj D (.deferred none)) from ⟨_, rfl, ent_put h2 hd rfl, fun b hb => by have := h3 b hb; omega, below_put hb (by omega)⟩)
    clear hf hb h1 h2 h3
    gi_wp2
    refine ⟨by simp, .inl ⟨_, _, rfl, run_takeDeferred hd, ?_⟩⟩
    refine ⟨_, results_tmp rfl _ _ _, ?_⟩
    show LisP w L (.returned (.slice A L.length m)) _
    exact HF.out
  case stop =>
    rintro D c k W _ _ hf
    exact hf.elim
theorem Entries_z {w : World} {q : Option Addr} (h : Ze w q) : Calls Try.prog 27 #[.pointer q] w (LisP w []) := Entries_gen (All_z (h.below (below_alloc w _))) (by simp)
/-- The state of MappingNone. -/
structure Nn (w : World) (q : Option Addr) (x y : Int) (W : World) : Prop where
  z : Ze W q
  x : XAt W w.heap.size x y
  bel : Below w.heap.size w W
theorem Nn.later {w W W' : World} {q : Option Addr} {x y : Int} (h : Nn w q x y W) (hb : Below W.heap.size W W') : Nn w q x y W' := ⟨h.z.below hb, h.x.below hb, h.bel.trans (hb.mono h.bel.size)⟩
/-- An iterator over nothing. -/
def Sq (B : Nat) (v : Value) (W : World) : Prop := Bx1 W B 79 v ∧ Ent W v [] ∧ ∀ b, v.ownBlock = some b → b < W.heap.size
theorem Sq.later {B : Nat} {v : Value} {W W' : World} (h : Sq B v W) (hb : Below W.heap.size W W') : Sq B v W' :=
  ⟨h.1.below hb, h.2.1.below hb, fun b h1 => Nat.lt_of_lt_of_le (h.2.2 b h1) hb.size⟩
theorem alloc_then {W W' : World} {o : Obj} (h : Below (W.alloc o).heap.size (W.alloc o) W') : Below W.heap.size W W' := (below_alloc W o).trans (h.mono (by simp))
theorem read_z {w : World} {B : Nat} {v : Value} (h : Sq B v w) : Calls Try.prog 21 #[.func (.func 50) #[] #[.pointer (some ⟨B, 0, none⟩)], .bool true, .int .i64 9] w fun e w' => ∃ A c, e = .returned (.slice A 0 c) ∧ Below w.heap.size w w' :=
  (read_any h.1 h.2.1 h.2.2 (by simp) true 9).mono fun e w' ⟨v, h1, h2, _, h3⟩ => by
    obtain ⟨A, c, hv, _⟩ := h2.form
    exact ⟨A, c, by rw [h1, hv]; rfl, h3⟩
theorem entries_zz {w : World} {q : Option Addr} (h : Ze w q) : Calls Try.prog 27 #[.pointer q] w fun e w' => ∃ A c, e = .returned (.slice A 0 c) ∧ Below w.heap.size w w' :=
  (Entries_z h).mono fun e w' ⟨v, h1, h2, _, h3⟩ => by
    obtain ⟨A, c, hv, _⟩ := h2.form
    exact ⟨A, c, by rw [h1, hv]; rfl, h3⟩
theorem none_any (e0 : Int × Int) (v : Value) (zero : Bool) (w : World) (hv : v = .agg #[.int .i64 e0.1, .int .i64 e0.2]) (hr : I64 e0.1 ∧ I64 e0.2) : Calls Try.prog 5 #[v, .bool zero] w (OkB w) := by
  subst hv
  obtain ⟨x, y⟩ := e0
  obtain ⟨hx, hy⟩ := hr
  have HX := Lib.hid hx
  have HY := Lib.hid hy
  have hqn := fun (W : World) (f : Fn) (a b : Array Value) => run_eql_func_nil (P := Try.prog) W 41 f a b Try.underlying41
  have HWK := Lib.hid (fun W => works_any W)
  clear hx hy
  dsimp only
  obtain ⟨q, E, hq, hS⟩ : ∃ (q : Option Addr) (E : World), (zero = false ∧ q = none ∧ E = w.alloc (.cells #[.int .i64 x, .int .i64 y] 50) ∨ zero = true ∧ q = some ⟨w.heap.size + 1, 0, none⟩ ∧ E = (w.alloc (.cells #[.int .i64 x, .int .i64 y] 50)).alloc (.cells #[.int .i64 0, .int .i64 0, .int .i64 0, .map none, .map none, .slice none 0 0] 56)) ∧ Nn w q x y E := by
    cases zero
    · exact ⟨none, _, .inl ⟨rfl, rfl, rfl⟩, .inl rfl, XAt.new w x y, below_alloc w _⟩
    · refine ⟨_, _, .inr ⟨rfl, rfl, rfl⟩, .inr ⟨w.heap.size + 1, rfl, ?_⟩, (XAt.new w x y).below (below_alloc _ _), (below_alloc w _).alloc (by simp) _⟩
      have := heap_alloc_new (w.alloc (.cells #[.int .i64 x, .int .i64 y] 50)) (.cells zc 56)
      rwa [World.size_alloc] at this
  have S0 := Lib.hid hS
  have xa := hS.x.c0
  have xb := hS.x.c1
  clear hS
  rcases hq with ⟨rfl, rfl, rfl⟩ | ⟨rfl, rfl, rfl⟩
  · skip
    go_enter Try.func5, Try.ntmps5
    go_wp2_with (first
      | ((go_at_call 22; with_reducible refine (At_z S0.out.z HX.out).mono ?_); rintro e W1 ⟨rfl, hb⟩; have S1 := Lib.hid (S0.out.later hb); have xa := S1.out.x.c0; have xb := S1.out.x.c1; clear hb)
      | ((go_at_call 23; with_reducible refine (Sector_z S1.out.z HY.out).mono ?_); rintro e W2 ⟨rfl, hb⟩; have S2 := Lib.hid (S1.out.later hb); have xa := S2.out.x.c0; have xb := S2.out.x.c1; clear hb))
    have HZ := Lib.hid (fun W (h : Below W2.heap.size W2 W) => S2.out.z.below h)
    have HXX := Lib.hid (fun W (h : Below W2.heap.size W2 W) => S2.out.x.below h)
    have HU := Lib.hid (fun (W W' : World) (h : Below W2.heap.size W2 W) (h' : Below W.heap.size W W') => h.trans (h'.mono h.size))
    go_region_with (first
      | ((go_at_call 16; with_reducible refine (All_z (HZ.out _ (by first | assumption | exact Below.refl _ _ | exact (Below.refl _ _).drew))).mono ?_); rintro e Wa ⟨Ba, va, rfl, _, h1, h2, h3, hba⟩; have SA := Lib.hid (show Sq Ba va Wa from ⟨h1, h2, fun b hb => (h3 b hb).2⟩); have HBa := Lib.hid hba; have HBa2 : Below W2.heap.size W2 Wa := HU.out _ _ (by first | assumption | exact Below.refl _ _ | exact (Below.refl _ _).drew) hba; have xc := (HXX.out _ HBa2).c1; clear h1 h2 h3 hba)
      | ((go_at_call 17; with_reducible refine (Pages_z (HZ.out _ (by first | assumption | exact Below.refl _ _ | exact (Below.refl _ _).drew)) _).mono ?_); rintro e Wb ⟨Bb, vb, rfl, _, h1, h2, h3, hbb⟩; have SB := Lib.hid (show Sq Bb vb Wb from ⟨h1, h2, fun b hb => (h3 b hb).2⟩); have HBb := Lib.hid hbb; have HBb2 : Below W2.heap.size W2 Wb := HU.out _ _ (by first | assumption | exact Below.refl _ _ | exact (Below.refl _ _).drew) hbb; have xd := (HXX.out _ HBb2).c1; clear h1 h2 h3 hbb))
    all_goals
      first
        | (have S3 := Lib.hid (S2.out.later HBb2); have AA3 := Lib.hid (SA.out.later HBb.out); have CC3 := SB; clear HBb2 HBa2)
        | (have S3 := Lib.hid (S2.out.later HBa2); have AA3 := SA; have CC3 := Lib.hid (SB.out.later HBa.out); clear HBb2 HBa2)
      clear xa xb xc xd
      have xe := S3.out.x.c0
      have xf := S3.out.x.c1
      go_wp2_with (first
        | ((go_at_call 10; with_reducible refine (num_any _ _).mono ?_); rintro e w' ⟨rfl, rfl⟩)
        | ((go_at_call 14; with_reducible refine ((Apply_z (S3.out.z.below (below_alloc _ _)) _ _ _)).mono ?_); rintro e W4 ⟨rfl, hb0⟩; have hb := alloc_then hb0; have S4 := Lib.hid (S3.out.later hb); have xe := S4.out.x.c0; have xf := S4.out.x.c1; have AA4 := Lib.hid (AA3.out.later hb); have CC4 := Lib.hid (CC3.out.later hb); clear hb)
        | ((go_at_call 14; with_reducible refine ((Apply_z S4.out.z _ _ _)).mono ?_); rintro e W5 ⟨rfl, hb⟩; have S5 := Lib.hid (S4.out.later hb); have xe := S5.out.x.c0; have xf := S5.out.x.c1; have AA5 := Lib.hid (AA4.out.later hb); have CC5 := Lib.hid (CC4.out.later hb); clear hb)
        | ((go_at_call 24; with_reducible refine ((Valid_z S5.out.z _)).mono ?_); rintro e W6 ⟨rfl, hb⟩; have S6 := Lib.hid (S5.out.later hb); have xe := S6.out.x.c0; have xf := S6.out.x.c1; have AA6 := Lib.hid (AA5.out.later hb); have CC6 := Lib.hid (CC5.out.later hb); clear hb)
        | ((go_at_call 25; with_reducible refine ((Count_z S6.out.z)).mono ?_); rintro e W7 ⟨rfl, hb⟩; have S7 := Lib.hid (S6.out.later hb); have xe := S7.out.x.c0; have xf := S7.out.x.c1; have AA7 := Lib.hid (AA6.out.later hb); have CC7 := Lib.hid (CC6.out.later hb); clear hb)
        | ((go_at_call 26; with_reducible refine ((Sectors_z S7.out.z)).mono ?_); rintro e W8 ⟨rfl, hb⟩; have S8 := Lib.hid (S7.out.later hb); have xe := S8.out.x.c0; have xf := S8.out.x.c1; have AA8 := Lib.hid (AA7.out.later hb); have CC8 := Lib.hid (CC7.out.later hb); clear hb)
        | ((go_at_call 27; with_reducible refine ((entries_zz S8.out.z)).mono ?_); rintro e W9 ⟨A1, c1, rfl, hb⟩; have S9 := Lib.hid (S8.out.later hb); have xe := S9.out.x.c0; have xf := S9.out.x.c1; have AA9 := Lib.hid (AA8.out.later hb); have CC9 := Lib.hid (CC8.out.later hb); clear hb)
        | ((go_at_call 21; with_reducible refine ((read_z AA9.out)).mono ?_); rintro e W10 ⟨A2, c2, rfl, hb⟩; have S10 := Lib.hid (S9.out.later hb); have xe := S10.out.x.c0; have xf := S10.out.x.c1; have AA10 := Lib.hid (AA9.out.later hb); have CC10 := Lib.hid (CC9.out.later hb); clear hb)
        | ((go_at_call 21; with_reducible refine ((read_z CC10.out)).mono ?_); rintro e W11 ⟨A3, c3, rfl, hb⟩; have S11 := Lib.hid (S10.out.later hb); have xe := S11.out.x.c0; have xf := S11.out.x.c1; have AA11 := Lib.hid (AA10.out.later hb); have CC11 := Lib.hid (CC10.out.later hb); clear hb)
        | ((go_at_call 18; with_reducible refine ((Copy_z S11.out.z)).mono ?_); rintro e W12 ⟨rfl, hb⟩; have S12 := Lib.hid (S11.out.later hb); have xe := S12.out.x.c0; have xf := S12.out.x.c1; have AA12 := Lib.hid (AA11.out.later hb); have CC12 := Lib.hid (CC11.out.later hb); clear hb)
        | ((go_at_call 12; with_reducible refine ((HWK.out _)).mono ?_); rintro e W13 ⟨rfl, hb⟩; have S13 := Lib.hid (S12.out.later hb); have xe := S13.out.x.c0; have xf := S13.out.x.c1; have AA13 := Lib.hid (AA12.out.later hb); have CC13 := Lib.hid (CC12.out.later hb); clear hb))
      go_ret
      exact ⟨rfl, S13.out.bel⟩
  · skip
    go_enter Try.func5, Try.ntmps5
    go_wp2_with (first
      | ((go_at_call 22; with_reducible refine (At_z S0.out.z HX.out).mono ?_); rintro e W1 ⟨rfl, hb⟩; have S1 := Lib.hid (S0.out.later hb); have xa := S1.out.x.c0; have xb := S1.out.x.c1; clear hb)
      | ((go_at_call 23; with_reducible refine (Sector_z S1.out.z HY.out).mono ?_); rintro e W2 ⟨rfl, hb⟩; have S2 := Lib.hid (S1.out.later hb); have xa := S2.out.x.c0; have xb := S2.out.x.c1; clear hb))
    have HZ := Lib.hid (fun W (h : Below W2.heap.size W2 W) => S2.out.z.below h)
    have HXX := Lib.hid (fun W (h : Below W2.heap.size W2 W) => S2.out.x.below h)
    have HU := Lib.hid (fun (W W' : World) (h : Below W2.heap.size W2 W) (h' : Below W.heap.size W W') => h.trans (h'.mono h.size))
    go_region_with (first
      | ((go_at_call 16; with_reducible refine (All_z (HZ.out _ (by first | assumption | exact Below.refl _ _ | exact (Below.refl _ _).drew))).mono ?_); rintro e Wa ⟨Ba, va, rfl, _, h1, h2, h3, hba⟩; have SA := Lib.hid (show Sq Ba va Wa from ⟨h1, h2, fun b hb => (h3 b hb).2⟩); have HBa := Lib.hid hba; have HBa2 : Below W2.heap.size W2 Wa := HU.out _ _ (by first | assumption | exact Below.refl _ _ | exact (Below.refl _ _).drew) hba; have xc := (HXX.out _ HBa2).c1; clear h1 h2 h3 hba)
      | ((go_at_call 17; with_reducible refine (Pages_z (HZ.out _ (by first | assumption | exact Below.refl _ _ | exact (Below.refl _ _).drew)) _).mono ?_); rintro e Wb ⟨Bb, vb, rfl, _, h1, h2, h3, hbb⟩; have SB := Lib.hid (show Sq Bb vb Wb from ⟨h1, h2, fun b hb => (h3 b hb).2⟩); have HBb := Lib.hid hbb; have HBb2 : Below W2.heap.size W2 Wb := HU.out _ _ (by first | assumption | exact Below.refl _ _ | exact (Below.refl _ _).drew) hbb; have xd := (HXX.out _ HBb2).c1; clear h1 h2 h3 hbb))
    all_goals
      first
        | (have S3 := Lib.hid (S2.out.later HBb2); have AA3 := Lib.hid (SA.out.later HBb.out); have CC3 := SB; clear HBb2 HBa2)
        | (have S3 := Lib.hid (S2.out.later HBa2); have AA3 := SA; have CC3 := Lib.hid (SB.out.later HBa.out); clear HBb2 HBa2)
      clear xa xb xc xd
      have xe := S3.out.x.c0
      have xf := S3.out.x.c1
      go_wp2_with (first
        | ((go_at_call 10; with_reducible refine (num_any _ _).mono ?_); rintro e w' ⟨rfl, rfl⟩)
        | ((go_at_call 14; with_reducible refine ((Apply_z (S3.out.z.below (below_alloc _ _)) _ _ _)).mono ?_); rintro e W4 ⟨rfl, hb0⟩; have hb := alloc_then hb0; have S4 := Lib.hid (S3.out.later hb); have xe := S4.out.x.c0; have xf := S4.out.x.c1; have AA4 := Lib.hid (AA3.out.later hb); have CC4 := Lib.hid (CC3.out.later hb); clear hb)
        | ((go_at_call 14; with_reducible refine ((Apply_z S4.out.z _ _ _)).mono ?_); rintro e W5 ⟨rfl, hb⟩; have S5 := Lib.hid (S4.out.later hb); have xe := S5.out.x.c0; have xf := S5.out.x.c1; have AA5 := Lib.hid (AA4.out.later hb); have CC5 := Lib.hid (CC4.out.later hb); clear hb)
        | ((go_at_call 24; with_reducible refine ((Valid_z S5.out.z _)).mono ?_); rintro e W6 ⟨rfl, hb⟩; have S6 := Lib.hid (S5.out.later hb); have xe := S6.out.x.c0; have xf := S6.out.x.c1; have AA6 := Lib.hid (AA5.out.later hb); have CC6 := Lib.hid (CC5.out.later hb); clear hb)
        | ((go_at_call 25; with_reducible refine ((Count_z S6.out.z)).mono ?_); rintro e W7 ⟨rfl, hb⟩; have S7 := Lib.hid (S6.out.later hb); have xe := S7.out.x.c0; have xf := S7.out.x.c1; have AA7 := Lib.hid (AA6.out.later hb); have CC7 := Lib.hid (CC6.out.later hb); clear hb)
        | ((go_at_call 26; with_reducible refine ((Sectors_z S7.out.z)).mono ?_); rintro e W8 ⟨rfl, hb⟩; have S8 := Lib.hid (S7.out.later hb); have xe := S8.out.x.c0; have xf := S8.out.x.c1; have AA8 := Lib.hid (AA7.out.later hb); have CC8 := Lib.hid (CC7.out.later hb); clear hb)
        | ((go_at_call 27; with_reducible refine ((entries_zz S8.out.z)).mono ?_); rintro e W9 ⟨A1, c1, rfl, hb⟩; have S9 := Lib.hid (S8.out.later hb); have xe := S9.out.x.c0; have xf := S9.out.x.c1; have AA9 := Lib.hid (AA8.out.later hb); have CC9 := Lib.hid (CC8.out.later hb); clear hb)
        | ((go_at_call 21; with_reducible refine ((read_z AA9.out)).mono ?_); rintro e W10 ⟨A2, c2, rfl, hb⟩; have S10 := Lib.hid (S9.out.later hb); have xe := S10.out.x.c0; have xf := S10.out.x.c1; have AA10 := Lib.hid (AA9.out.later hb); have CC10 := Lib.hid (CC9.out.later hb); clear hb)
        | ((go_at_call 21; with_reducible refine ((read_z CC10.out)).mono ?_); rintro e W11 ⟨A3, c3, rfl, hb⟩; have S11 := Lib.hid (S10.out.later hb); have xe := S11.out.x.c0; have xf := S11.out.x.c1; have AA11 := Lib.hid (AA10.out.later hb); have CC11 := Lib.hid (CC10.out.later hb); clear hb)
        | ((go_at_call 18; with_reducible refine ((Copy_z S11.out.z)).mono ?_); rintro e W12 ⟨rfl, hb⟩; have S12 := Lib.hid (S11.out.later hb); have xe := S12.out.x.c0; have xf := S12.out.x.c1; have AA12 := Lib.hid (AA11.out.later hb); have CC12 := Lib.hid (CC11.out.later hb); clear hb)
        | ((go_at_call 12; with_reducible refine ((HWK.out _)).mono ?_); rintro e W13 ⟨rfl, hb⟩; have S13 := Lib.hid (S12.out.later hb); have xe := S13.out.x.c0; have xf := S13.out.x.c1; have AA13 := Lib.hid (AA12.out.later hb); have CC13 := Lib.hid (CC12.out.later hb); clear hb))
      go_ret
      exact ⟨rfl, S13.out.bel⟩
end Go.Proofs.Yteiemegkdnjpgaa
