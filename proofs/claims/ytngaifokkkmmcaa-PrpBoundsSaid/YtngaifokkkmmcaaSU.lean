/- The contract of Spans at a memory. Conditions stand in each theorem. -/
import Derived.Test.YtngaifokkkmmcaaSV
namespace Go.Proofs.Ytngaifokkkmmcaa
open Go.RowKit Go.Shelf
attribute [local go_sem] Oper.semAt_some
set_option linter.unusedVariables false
set_option maxHeartbeats 4000000
set_option maxRecDepth 100000
/-- A store of what lies there already. -/
theorem setCell_id {W : World} {g : Nat} {t : TypeId} {v : Value} (h : W.heap[g]? = some (.cells #[v] t (0, 0))) : W.setCell ⟨g, 0, none⟩ v = W := by
  have e : (W.setCell ⟨g, 0, none⟩ v).heap = W.heap := by
    apply Array.ext_getElem?
    intro k
    by_cases hk : k = g
    · subst hk
      rw [heap_setCell_same W k 0 _ t v h, h]
      rfl
    · exact Below.heap_setCell W ⟨g, 0, none⟩ v k hk
  unfold World.setCell at e ⊢
  cases W
  simp only at e ⊢
  rw [e]
/-- The state between two rounds; with a page's address; where an error was raised. -/
def SI (w : World) (base b d cap : Nat) (m : Mm) (gw qr q2 fs sc N n : Nat) (k : Nat) (W : World) : Prop :=
  ∃ a l r, spK m fs sc N n k = .ok (a, l, r) ∧ a < 18446744073709551616 ∧ l.length = k ∧ r ≤ n ∧ Sst w W base b d cap m w.heap.size gw qr q2 fs sc N a l r
def SM (w : World) (base b d cap : Nat) (m : Mm) (gw qr q2 fs sc N n : Nat) (k : Nat) (v : Value) (W : World) : Prop :=
  ∃ a l r x a', spK m fs sc N n k = .ok (a, l, r) ∧ pgE m fs sc N k a = .ok (x, a') ∧ x < 18446744073709551616 ∧ a' < 18446744073709551616 ∧ l.length = k ∧ r ≤ n ∧ v = .int .u64 (x : Int) ∧ Sst w W base b d cap m w.heap.size gw qr q2 fs sc N a' l r
def SX (w : World) (m : Mm) (fs sc N n : Nat) (c : List PanicEntry) (W : World) : Prop :=
  ∃ q, spK m fs sc N n N = .error q ∧ c = [{ v := .iface 38 (.int .i64 q), recovered := false }] ∧ Sxt w W w.heap.size
section
variable {w : World} {base b d cap : Nat} {m : Mm} {gw qr q2 fs sc N n : Nat}
theorem own_si {B : Nat} (hB : w.heap.size ≤ B) : OwnFrom B (SI w base b d cap m gw qr q2 fs sc N n) := fun k X Y row ⟨a, l, r, h1, h2, h3, h4, h5⟩ hg hr =>
  ⟨a, l, r, h1, h2, h3, h4, own_sst (β := Unit) hB (fun _ => a) (fun _ => l) (fun _ => r) () X Y row h5 hg hr⟩
theorem own_sm {B : Nat} (hB : w.heap.size ≤ B) (k : Nat) : OwnFrom B (SM w base b d cap m gw qr q2 fs sc N n k) := fun v X Y row ⟨a, l, r, x, a', h1, h2, h3, h4, h5, h6, h7, h8⟩ hg hr =>
  ⟨a, l, r, x, a', h1, h2, h3, h4, h5, h6, h7, own_sst (β := Unit) hB (fun _ => a') (fun _ => l) (fun _ => r) () X Y row h8 hg hr⟩
theorem si_page (hG : Gm m) (hfs : fs < 18446744073709551616) (hsc : sc < 18446744073709551616) (hN : N ≤ 1000) (k : Nat) (hk : k < N) (W : World) (h : SI w base b d cap m gw qr q2 fs sc N n k W) (B : Nat) :
    CallsIn Fence.wide 8 Try.prog 48 #[.pointer (some ⟨gw, 0, none⟩), .int .i64 (k : Int)] W fun e W' => EndX (SM w base b d cap m gw qr q2 fs sc N n k) (SX w m fs sc N n) e W' ∧ KeepsFrom B W W' := by
  obtain ⟨a, l, r, h1, h2, h3, h4, h5⟩ := h
  refine callsIn_wide.2 ((page_any h5.wm hG hfs hsc h2 k hk hN).mono ?_)
  rintro e W' ⟨he, hc⟩
  refine ⟨?_, ⟨hc.size, fun j o _ ho hcl => (hc.block j (Array.getElem?_eq_some_iff.1 ho).1 (fun e => ?_)).trans ho⟩⟩
  · rcases he with ⟨x, a', hp, rfl, hw, hx, ha'⟩ | ⟨q, hp, rfl⟩
    · exact .inl ⟨_, rfl, a, l, r, x, a', h1, hp, hx, ha', h3, h4, rfl, h5.page hw hc⟩
    · refine .inr ⟨_, rfl, q, spK_err (j := k + 1) ?_ _ hk, rfl, h5.sxt.chg hc fun j hj => by have := h5.ne; omega⟩
      unfold spK
      rw [h1]
      simp only [hp]
  · subst e
    rw [h5.wm.wk] at ho
    cases ho
    cases hcl
end
/-- append of spans under a name of its own. -/
def appX (ats : Array TypeId) (ty : TypeId) (args : Array Value) : Sem Next := do pure (.value (← Builtin.append_ ats ty args))
theorem builtin_appX (ats : Array TypeId) (ty : TypeId) (cs : Array Bool) (args : Array Value) : builtin .append ats ty cs args = appX ats ty args := rfl
theorem appX_run {ats : Array TypeId} {ty : TypeId} {args : Array Value} {W W' : World} {r : Value} (h : (Builtin.append_ ats ty args).run Try.prog W = .ok r W') : (appX ats ty args).run Try.prog W = .ok (.value r) W' := by
  unfold appX
  simp [h]
/-- What a round does behind the check: the span is appended, the rest made less. -/
theorem sst_round {w W w6 : World} {base b d cap : Nat} {m : Mm} {n0 gw qr q2 fs sc ct a : Nat} {ls : List (Nat × Nat)} {r : Nat} (hs : Sst w W base b d cap m n0 gw qr q2 fs sc ct a ls r) (hb : Below W.heap.size W w6) (s x z : Nat) (hsE : s = W.heap.size)
    (xs : w6.heap[s]? = some (.cells #[.int .u64 (x : Int), .int .i64 (z : Int), .bool false] 42 (0, 0))) (hl : ls.length ≤ 1000) (B : Nat) :
    ∃ A c A' c' W', w6.cell? ⟨n0, 0, none⟩ = some (.slice A ls.length c) ∧
      (appX #[26, 26] 26 #[.slice A ls.length c, .slice (some ⟨w6.heap.size, 0, none⟩) 1 1]).run Try.prog (w6.alloc (.cells #[.int .u64 (x : Int), .int .i64 (z : Int), .bool false] 42)) = .ok (.value (.slice A' (ls.length + 1) c')) W' ∧
      (∃ u, W'.cell? ⟨n0, 0, none⟩ = some u) ∧ W'.frozen? ⟨n0, 0, none⟩ = false ∧
      (W'.setCell ⟨n0, 0, none⟩ (.slice A' (ls.length + 1) c')).cell? ⟨qr, 0, none⟩ = some (.int .i64 (r : Int)) ∧ (W'.setCell ⟨n0, 0, none⟩ (.slice A' (ls.length + 1) c')).frozen? ⟨qr, 0, none⟩ = false ∧
      (W'.setCell ⟨n0, 0, none⟩ (.slice A' (ls.length + 1) c')).cell? ⟨s, 1, none⟩ = some (.int .i64 (z : Int)) ∧
      (∀ r' : Nat, Sst w ((W'.setCell ⟨n0, 0, none⟩ (.slice A' (ls.length + 1) c')).setCell ⟨qr, 0, none⟩ (.int .i64 (r' : Int))) base b d cap m n0 gw qr q2 fs sc ct a (ls ++ [(x, z)]) r' ∧
        KeepsFrom B W ((W'.setCell ⟨n0, 0, none⟩ (.slice A' (ls.length + 1) c')).setCell ⟨qr, 0, none⟩ (.int .i64 (r' : Int)))) := by
  have hne := hs.ne
  obtain ⟨A, c, hr1, hr2⟩ := hs.row
  have n0l := (Array.getElem?_eq_some_iff.1 hr1).1
  have grl : ∀ g, (Value.slice A ls.length c).ownBlock = some g → n0 ≤ g ∧ g < W.heap.size ∧ ∃ cur, W.heap[g]? = some (.cells cur 42 (0, 0)) := fun g hg => by
    rcases hr2.2 with ⟨e, -⟩ | ⟨g2, cp, cu, e, a1, a2, -⟩
    · rw [e] at hg; cases hg
    · rw [e] at hg
      simp only [Value.ownBlock, Option.some.injEq] at hg
      subst hg
      exact ⟨a1, (Array.getElem?_eq_some_iff.1 a2).1, cu, a2⟩
  have hr6 : w6.ownsRow n0 42 3 (.slice A ls.length c) ls.length (sv ls) := by
    refine ⟨hr2.1, ?_⟩
    rcases hr2.2 with h7 | ⟨g, cp, cu, e, a1, a2, a3⟩
    · exact .inl h7
    · exact .inr ⟨g, cp, cu, e, a1, (hb.block g (Array.getElem?_eq_some_iff.1 a2).1).trans a2, a3⟩
  obtain ⟨X, hX⟩ : ∃ X, X = w6.alloc (.cells #[.int .u64 (x : Int), .int .i64 (z : Int), .bool false] 42) := ⟨_, rfl⟩
  have bX : Below w6.heap.size w6 X := by rw [hX]; exact below_alloc _ _
  have xX : X.heap[w6.heap.size]? = some (.cells #[.int .u64 (x : Int), .int .i64 (z : Int), .bool false] 42 (0, 0)) := by rw [hX]; exact heap_alloc_new w6 _
  have sX : X.heap.size = w6.heap.size + 1 := by rw [hX, World.size_alloc]
  have hrX : X.ownsRow n0 42 3 (.slice A ls.length c) ls.length (sv ls) := by rw [hX]; exact hr6.alloc _
  obtain ⟨A', c', W', hrun, hown, hgr⟩ := app_span X n0 ls.length (.slice A ls.length c) ls (x, z) ⟨w6.heap.size, 0, none⟩ hrX (fun j u hu => by
    rw [add_plain, Nat.zero_add, cell_of_row X w6.heap.size j _ 42 (0, 0) xX]
    have hj : j < 3 := (List.getElem?_eq_some_iff.1 hu).1
    have : j = 0 ∨ j = 1 ∨ j = 2 := by omega
    rcases this with rfl | rfl | rfl <;> exact hu) (by omega) (by have := hb.size; omega)
  have keep : ∀ (k : Nat) (o : Obj), W.heap[k]? = some o → (∀ cs, o ≠ .cells cs 42 (0, 0)) → W'.heap[k]? = some o := fun k o ho hno => by
    have hk := (Array.getElem?_eq_some_iff.1 ho).1
    refine (hgr.block k (by have := hb.size; omega) (fun e => ?_)).trans ((bX.block k (by have := hb.size; omega)).trans ((hb.block k hk).trans ho))
    obtain ⟨-, -, cur, hc⟩ := grl k e.symm
    rw [ho] at hc
    cases hc
    exact hno cur rfl
  have ks : W'.heap[s]? = some (.cells #[.int .u64 (x : Int), .int .i64 (z : Int), .bool false] 42 (0, 0)) :=
    (hgr.block s (by have := (Array.getElem?_eq_some_iff.1 xs).1; omega) (fun e => by have := grl s e.symm; omega)).trans ((bX.block s (Array.getElem?_eq_some_iff.1 xs).1).trans xs)
  have k0 := keep n0 _ hr1 (fun cs h => by cases h)
  have kq := keep qr _ hs.rest (fun cs h => by cases h)
  have g0 : ∀ k, k ≠ n0 → (W'.setCell ⟨n0, 0, none⟩ (.slice A' (ls.length + 1) c')).heap[k]? = W'.heap[k]? := fun k hk => Below.heap_setCell W' ⟨n0, 0, none⟩ _ k hk
  have kq2 := (g0 qr (by omega)).trans kq
  have ks2 := (g0 s (by omega)).trans ks
  have hW6 : w6.cell? ⟨n0, 0, none⟩ = some (.slice A ls.length c) := by rw [cell_of_row w6 n0 0 _ 26 (0, 0) ((hb.block n0 n0l).trans hr1)]; rfl
  refine ⟨A, c, A', c', W', hW6, hX ▸ appX_run hrun, ⟨_, cell_of_row W' n0 0 _ 26 (0, 0) k0⟩, frozen_of_row W' n0 0 _ 26 k0, by rw [cell_of_row _ qr 0 _ 3 (0, 0) kq2]; rfl, frozen_of_row _ qr 0 _ 3 kq2, by rw [cell_of_row _ s 1 _ 42 (0, 0) ks2]; rfl, fun r' => ?_⟩
  have g1 : ∀ k, k ≠ n0 → k ≠ qr → ((W'.setCell ⟨n0, 0, none⟩ (.slice A' (ls.length + 1) c')).setCell ⟨qr, 0, none⟩ (.int .i64 (r' : Int))).heap[k]? = W'.heap[k]? := fun k h1 h2 => (Below.heap_setCell _ ⟨qr, 0, none⟩ _ k h2).trans (g0 k h1)
  obtain ⟨Wf, hWf⟩ : ∃ Wf, Wf = (W'.setCell ⟨n0, 0, none⟩ (.slice A' (ls.length + 1) c')).setCell ⟨qr, 0, none⟩ (.int .i64 (r' : Int)) := ⟨_, rfl⟩
  have f0 : Wf.heap[n0]? = some (.cells #[.slice A' (ls.length + 1) c'] 26 (0, 0)) := by
    rw [hWf]
    exact (Below.heap_setCell _ ⟨qr, 0, none⟩ _ n0 (by show n0 ≠ qr; omega)).trans (heap_setCell_same W' n0 0 _ 26 _ k0)
  have fq : Wf.heap[qr]? = some (.cells #[.int .i64 (r' : Int)] 3 (0, 0)) := by
    rw [hWf]
    exact heap_setCell_same _ qr 0 _ 3 _ kq2
  rw [← hWf] at g1 ⊢
  have bel : Below n0 w Wf := by
    have b1 : Below n0 w W' := (((hs.bel.trans (hb.mono (by omega))).trans (bX.mono (by have := hb.size; omega))).grown hgr (by have := hb.size; omega) (fun k hk => (grl k hk).1))
    rw [hWf]
    exact (b1.setCell (Nat.le_refl _) _).setCell (by show n0 ≤ qr; omega) _
  have size : W.heap.size ≤ Wf.heap.size := by
    have h1 := hb.size
    have h2 := hgr.size
    have h3 : Wf.heap.size = W'.heap.size := by rw [hWf]; simp [World.setCell]
    omega
  have kp : ∀ (k : Nat) (o : Obj), W.heap[k]? = some o → (∀ cs, o ≠ .cells cs 42 (0, 0)) → k ≠ n0 → k ≠ qr → Wf.heap[k]? = some o := fun k o ho hno h1 h2 => (g1 k h1 h2).trans (keep k o ho hno)
  obtain ⟨cm, em, -⟩ := hs.wm.mem.blk
  obtain ⟨-, -, cur, ed, -⟩ := hs.wm.mem.row
  refine ⟨⟨⟨hs.wm.mem.keep fun k hk => ?_, kp _ _ hs.wm.wk (fun cs h => by cases h) (by omega) (by omega), hs.wm.ne⟩, ⟨A', c', ?_, ?_⟩, kp _ _ hs.err (fun cs h => by cases h) (by omega) (by omega), fq, kp _ _ hs.fn (fun cs h => by cases h) (by omega) (by omega), bel, hs.ne⟩, ⟨size, fun k o _ ho hc => ?_⟩⟩
  · rcases hk with rfl | rfl
    · rw [em]; exact kp _ _ em (fun cs h => by cases h) (by omega) (by omega)
    · rw [ed]; exact kp _ _ ed (fun cs h => by cases h) (by omega) (by omega)
  · rw [List.length_append]; exact f0
  · rw [List.length_append]
    refine ⟨hown.1, ?_⟩
    rcases hown.2 with h7 | ⟨g, cp, cu, e, a1, a2, a3⟩
    · exact .inl h7
    · refine .inr ⟨g, cp, cu, e, a1, (g1 g (fun e2 => ?_) (fun e2 => ?_)).trans a2, a3⟩
      · rw [e2, k0] at a2; cases a2
      · rw [e2, kq] at a2; cases a2
  · exact kp k o ho (fun cs h => by rw [h] at hc; cases hc) (fun e => by rw [e, hr1] at ho; cases ho; cases hc) (fun e => by rw [e, hs.rest] at ho; cases ho; cases hc)
attribute [local go_sem ↓ 100000] builtin_appX
theorem Spans_any {w : World} {base b d cap : Nat} {m : Mm} (h : Mem w base b d cap m) (hG : Gm m) (fs sc : Nat) (n : Int) (hfs : fs < 18446744073709551616) (hsc : sc < 18446744073709551616) :
    Calls Try.prog 20 #[.pointer (some ⟨b, 0, none⟩), .int .u64 (fs : Int), .int .u64 (sc : Int), .int .i64 n] w (SpPost w (spE m fs sc n)) := by
  obtain ⟨W0, hW0⟩ : ∃ W0, W0 = (w.alloc (.cells #[.slice none 0 0] 26)).alloc (.cells #[.int .i64 0] 38) := ⟨_, rfl⟩
  have hs0 : W0.heap.size = w.heap.size + 2 := by rw [hW0]; simp
  have hb0 : Below w.heap.size w W0 := by rw [hW0]; exact (below_alloc w _).alloc (by simp) _
  have x0 : W0.heap[w.heap.size]? = some (.cells #[.slice none 0 0] 26 (0, 0)) := by
    rw [hW0]
    exact (Below.heap_alloc _ _ _ (by simp)).trans (heap_alloc_new w _)
  have x1 : W0.heap[w.heap.size + 1]? = some (.cells #[.int .i64 0] 38 (0, 0)) := by
    have := heap_alloc_new (w.alloc (.cells #[.slice none 0 0] 26)) (.cells #[.int .i64 0] 38)
    rw [World.size_alloc] at this
    rw [hW0]; exact this
  have X0 : Hid (Sxt w W0 w.heap.size) := Lib.hid ⟨⟨_, x0⟩, ⟨_, x1⟩, hb0⟩
  have HW0 := Lib.hid hW0
  clear hW0
  refine calls_of_wpF Try.func20 rfl ?_
  simp only [Try.ntmps20, List.size_toArray, List.length_cons, List.length_nil, Nat.reduceAdd, Nat.reduceSub, Array.replicate_succ, Array.replicate_zero, List.push_toArray, List.append_toArray, List.nil_append, List.cons_append]
  refine wpF_seq (wpF_of ?_)
  go_wp2
  rw [← HW0.out]
  refine wpF_seq (wpF_of ?_)
  go_wp2
  refine wpF_seq (wpF_of ?_)
  by_cases hn : 0 ≤ n ∧ n ≤ 1048576
  rotate_left
  · have hE : spE m fs sc n = .error 2 := by unfold spE; rw [if_pos hn]
    have HE := Lib.hid hE
    have HR := Lib.hid (reqT_bad (h.below hb0) hG n hn)
    clear hs0 hb0 x0 x1 h hG hfs hsc hn hE
    go_wp2_with fail
    refine HR.out.mono ?_
    rintro e w1 ⟨rfl, hb⟩
    refine leaveS_err (w := w) (n0 := w.heap.size) (X0.out.chg (Chg.of_below (S := fun _ => False) hb) (fun k hk => hk.elim)) rfl rfl fun W' hb' => ?_
    rw [HE.out]
    exact ⟨⟨none, 0, rfl, World.ownsRow_nil _ _ _ _⟩, hb'⟩
  obtain ⟨nn, rfl⟩ : ∃ nn : Nat, n = (nn : Int) := ⟨n.toNat, by omega⟩
  have HR := Lib.hid (reqT_ok (h.below hb0) hG nn hn.1 hn.2)
  go_wp2_with fail
  refine HR.out.mono ?_
  rintro e w1 ⟨rfl, hb1⟩
  have HB1 := Lib.hid hb1
  clear hb1
  go_wp2
  refine wpF_seq (wpF_of ?_)
  have HC := Lib.hid (fun W => Count_any fs nn W hfs)
  go_wp2_with ((go_at_call 21; with_reducible refine (HC.out _).mono ?_); rintro e w' ⟨rfl, rfl⟩)
  obtain ⟨gw, hgw⟩ : ∃ gw, gw = w1.heap.size := ⟨_, rfl⟩
  obtain ⟨N, hN⟩ : ∃ N, N = cnt fs (nn : Int) := ⟨_, rfl⟩
  have hNm : N ≤ 257 := by rw [hN]; exact cnt_le _ _
  rw [← hN]
  obtain ⟨W2, hW2⟩ : ∃ W2, W2 = w1.alloc (.cells #[.pointer (some ⟨b, 0, none⟩), .int .u64 (fs : Int), .int .u64 (sc : Int), .int .i64 (N : Int), .int .u64 0] 92) := ⟨_, rfl⟩
  rw [← hW2, ← hgw]
  have y2 : W2.heap[gw]? = some (.cells #[.pointer (some ⟨b, 0, none⟩), .int .u64 (fs : Int), .int .u64 (sc : Int), .int .i64 (N : Int), .int .u64 0] 92 (0, 0)) := by rw [hW2, hgw]; exact heap_alloc_new w1 _
  have s2 : W2.heap.size = gw + 1 := by rw [hW2, hgw, World.size_alloc]
  have b2 : Below w1.heap.size w1 W2 := by rw [hW2]; exact below_alloc _ _
  refine wpF_seq (wpF_of ?_)
  have Y2 := Lib.hid (And.intro y2 (And.intro s2 b2))
  have HGN := Lib.hid (And.intro hgw (And.intro hN hNm))
  clear hW2 y2 s2 b2 hgw hN hNm
  go_wp2
  obtain ⟨qr, hqr⟩ : ∃ qr, qr = W2.heap.size := ⟨_, rfl⟩
  obtain ⟨W3, hW3⟩ : ∃ W3, W3 = W2.alloc (.cells #[.int .i64 (nn : Int)] 3) := ⟨_, rfl⟩
  rw [← hW3, ← hqr]
  have b3 : Below W2.heap.size W2 W3 := by rw [hW3]; exact below_alloc _ _
  have s3 : W3.heap.size = qr + 1 := by rw [hW3, hqr, World.size_alloc]
  have y3 : W3.heap[qr]? = some (.cells #[.int .i64 (nn : Int)] 3 (0, 0)) := by rw [hW3, hqr]; exact heap_alloc_new W2 _
  have c3 : W3.cell? ⟨gw, 3, none⟩ = some (.int .i64 (N : Int)) := (b3.cell (p := ⟨gw, 3, none⟩) (Array.getElem?_eq_some_iff.1 Y2.out.1).1).trans (cell_of_row W2 gw 3 _ 92 (0, 0) Y2.out.1)
  have HNB := Lib.hid (numbered47_any N gw W3)
  have Y3 := Lib.hid (And.intro y3 (And.intro s3 b3))
  have HQR := Lib.hid hqr
  clear hW3 y3 s3 b3 hqr
  refine wpF_seq (wpF_seq (wpF_of ?_))
  go_wp2_with ((go_at_call 47; with_reducible refine HNB.out.mono ?_); rintro e w4 ⟨rfl, hw4⟩; have HW4 := Lib.hid hw4; clear hw4)
  obtain ⟨q1, hq1⟩ : ∃ q1, q1 = W3.heap.size := ⟨_, rfl⟩
  rw [← hq1]
  have z1 : w4.heap[q1]? = some (.cells #[.int .i64 (N : Int)] 3 (0, 0)) := by
    rw [HW4.out, hq1]
    exact (Below.heap_alloc _ _ _ (by simp)).trans (heap_alloc_new W3 _)
  have z2 : w4.heap[q1 + 1]? = some (.cells #[.func (.func 48) #[.pointer (some ⟨gw, 0, none⟩)] #[]] 96 (0, 0)) := by
    have := heap_alloc_new (W3.alloc (.cells #[.int .i64 (N : Int)] 3)) (.cells #[.func (.func 48) #[.pointer (some ⟨gw, 0, none⟩)] #[]] 96)
    rw [World.size_alloc] at this
    rw [HW4.out, hq1]; exact this
  have b4 : Below W3.heap.size W3 w4 := by rw [HW4.out]; exact (below_alloc W3 _).alloc (by simp) _
  have s4 : w4.heap.size = q1 + 2 := by rw [HW4.out, hq1]; simp
  obtain ⟨hgw, hN, hNm⟩ := HGN.out
  obtain ⟨y2, s2, b2⟩ := Y2.out
  obtain ⟨y3, s3, b3⟩ := Y3.out
  have hqr := HQR.out
  have hb1 := HB1.out
  have S0 : SI w base b d cap m gw qr (q1 + 1) fs sc N nn 0 w4 := by
    have k1 := hb1.size
    have kk : Below W0.heap.size W0 w4 := ((hb1.trans (b2.mono hb1.size)).trans (b3.mono (Nat.le_trans hb1.size b2.size))).trans (b4.mono (Nat.le_trans (Nat.le_trans hb1.size b2.size) b3.size))
    have m0 := (h.below hb0).below kk
    have hbl := h.lt
    have hdl := h.dlt
    have e2 : Below W2.heap.size W2 w4 := b3.trans (b4.mono b3.size)
    refine ⟨0, [], nn, rfl, by decide, rfl, Nat.le_refl _, ⟨⟨m0, (e2.block gw (by omega)).trans y2, by omega, by omega⟩, ⟨none, 0, (kk.block _ (by omega)).trans x0, World.ownsRow_nil _ _ _ _⟩, (kk.block _ (by omega)).trans x1, (b4.block qr (by omega)).trans y3, z2, hb0.trans (kk.mono hb0.size), by omega⟩⟩
  have HS0 := Lib.hid S0
  have HL := Lib.hid (show w.heap.size + 2 ≤ gw ∧ gw < qr ∧ qr < q1 ∧ w4.heap.size = q1 + 2 from by have := hb1.size; omega)
  have HZ1 := Lib.hid z1
  clear S0 z1 z2 b4 s4 hq1 HW4 y2 s2 b2 y3 s3 b3 hqr hb1 hgw hNm hb0 x0 x1 h hs0 c3
  clear hN
  refine wpF_block (K := fun a W => ∃ D, a = { tmps := T20 b w.heap.size gw qr q1 fs sc N nn undef undef undef, defers := [mrk D, dfS w.heap.size] } ∧ SI w base b d cap m gw qr (q1 + 1) fs sc N nn N W ∧ W.heap[D]? = some (.deferred (some [])) ∧ w.heap.size + 2 ≤ D)
    (X := fun c a W => ∃ D, a = { tmps := T20 b w.heap.size gw qr q1 fs sc N nn undef undef undef, defers := [mrk D, dfS w.heap.size] } ∧ SX w m fs sc N nn c W ∧ W.heap[D]? = some (.deferred (some [])) ∧ w.heap.size + 2 ≤ D) ?rng ?fin ?pan
  case fin =>
    rintro a W ⟨D, rfl, ⟨a', l, r, h1, h2, h3, h4, h5⟩, hD, hDl⟩
    have hE : spE m fs sc (nn : Int) = .ok l := by
      unfold spE
      rw [if_neg (by omega)]
      have hN := HGN.out.2.1
      rw [← hN, Int.toNat_natCast, h1]
    have HE := Lib.hid hE
    obtain ⟨A, c, hr1, hr2⟩ := h5.row
    have hr3 := h5.err
    have c1 := cell_of_row W w.heap.size 0 _ 26 (0, 0) hr1
    have f1 := frozen_of_row W w.heap.size 0 _ 26 hr1
    have c2 := cell_of_row W (w.heap.size + 1) 0 _ 38 (0, 0) hr3
    have f2 := frozen_of_row W (w.heap.size + 1) 0 _ 38 hr3
    have HF : Hid (∀ tmps : Array Value, tmps[8]? = some (.pointer (some ⟨w.heap.size, 0, none⟩)) → tmps[9]? = some (.pointer (some ⟨w.heap.size + 1, 0, none⟩)) → LeavesInM Fence.wide 9 Try.prog Try.f20 tmps (SpPost w (spE m fs sc (nn : Int))) [mrk D, dfS w.heap.size] .returning W) := Lib.hid (by
      intro tmps t8 t9
      refine leaveS_mark (by simp) hD (leaveS_ok (w := w) (u := .slice A l.length c) ?_ ?_ t8 t9 ?_)
      · exact (World.putObj_heap_other (by omega)).trans hr1
      · exact (World.putObj_heap_other (by omega)).trans hr3
      · have hbp : Below w.heap.size w (W.putObj D (.deferred none)) := h5.bel.trans ⟨rfl, rfl, rfl, by simp, fun k hk => World.putObj_heap_other (by omega)⟩
        rw [HE.out]
        refine ⟨⟨A, c, rfl, hr2.1, ?_⟩, hbp⟩
        rcases hr2.2 with h7 | ⟨g, cp, cu, e, a1, a2, a3⟩
        · exact .inl h7
        · refine .inr ⟨g, cp, cu, e, a1, (World.putObj_heap_other (fun e => ?_)).trans a2, a3⟩
          subst e; rw [hD] at a2; cases a2)
    have e1 : W.setCell ⟨w.heap.size, 0, none⟩ (.slice A l.length c) = W := setCell_id hr1
    have e2 : W.setCell ⟨w.heap.size + 1, 0, none⟩ (.int .i64 0) = W := setCell_id hr3
    clear hE h1 h2 h3 h4 h5 hD hDl hr1 hr2 hr3
    refine wpF_seq (wpF_of ?_)
    go_wp2
    refine wpF_of ?_
    go_wp2
    exact HF.out _ rfl rfl
  case pan =>
    rintro c a W ⟨D, rfl, ⟨q, h1, rfl, h2⟩, hD, hDl⟩
    have hE : spE m fs sc (nn : Int) = .error q := by
      unfold spE
      rw [if_neg (by omega)]
      have hN := HGN.out.2.1
      rw [← hN, Int.toNat_natCast, h1]
    refine leaveS_mark (by simp) hD (leaveS_err (w := w) (n0 := w.heap.size) ?_ rfl rfl fun W' hb' => ?_)
    · obtain ⟨v, k1⟩ := h2.row
      obtain ⟨u, k2⟩ := h2.err
      exact ⟨⟨v, (World.putObj_heap_other (by omega)).trans k1⟩, ⟨u, (World.putObj_heap_other (by omega)).trans k2⟩, h2.bel.trans ⟨rfl, rfl, rfl, by simp, fun k hk => World.putObj_heap_other (by omega)⟩⟩
    · rw [hE]
      exact ⟨⟨none, 0, rfl, World.ownsRow_nil _ _ _ _⟩, hb'⟩
  case rng =>
    refine range63 Try.func20 (q1 := q1) (q2 := q1 + 1) (gw := gw) (N := N) rfl (enters_of Try.func63 (by kernel_rfl) rfl) (by have := HGN.out.2.2; omega) rfl (by have := HL.out; omega) (cell_of_row w4 q1 0 _ 3 (0, 0) HZ1.out)
      (SI w base b d cap m gw qr (q1 + 1) fs sc N nn) (SM w base b d cap m gw qr (q1 + 1) fs sc N nn) (SX w m fs sc N nn) (own_si (by have := HL.out; omega)) (fun k => ?_) HS0.out
      (fun k W hk => ?_) (fun k hk W hw => si_page hG hfs hsc (by have := HGN.out.2.2; omega) k hk W hw _) 
      (fun k v a' W => a' = { tmps := T20 b w.heap.size gw qr q1 fs sc N nn v (.int .i64 (k : Int)) v, defers := [] } ∧ SM w base b d cap m gw qr (q1 + 1) fs sc N nn k v W) ?ax ?asg ?bod ?don ?pn
    · intro v X Y row hx hg hr
      exact own_sm (by have := HL.out; omega) k v X Y row hx hg hr
    · obtain ⟨a, l, r, -, -, -, -, h5⟩ := hk
      exact cell_of_row W (q1 + 1) 0 _ 96 (0, 0) h5.fn
    case ax =>
      rintro k v a' u X Y row ⟨ha, hx⟩ hg hr
      exact ⟨ha, own_sm (by have := HL.out; omega) k v X Y row hx hg hr⟩
    case asg =>
      intro l k hk v W K hm hK
      gi_wp2
      exact hK _ _ (KeepsFrom.refl _ _) ⟨rfl, hm⟩
    case bod =>
      rintro l k hk v a' W hl ⟨rfl, a, ls, r, x, a2, h1, h2, h3, h4, h5, h6, rfl, hs⟩
      obtain ⟨z, hz⟩ : ∃ z, z = min r (te x) := ⟨_, rfl⟩
      have hrest := hs.rest
      gi_wp2
      refine region7 hrest h3 hz ?_
      have hzl : z ≤ r := by omega
      have hb1 : Below W.heap.size W (W.alloc (.cells #[.int .u64 (x : Int), .int .i64 (z : Int), .bool false] 42)).drew := (below_alloc W _).drew
      have hs1 := hs.below hb1
      have xs : (W.alloc (.cells #[.int .u64 (x : Int), .int .i64 (z : Int), .bool false] 42)).drew.heap[W.heap.size]? = some (.cells #[.int .u64 (x : Int), .int .i64 (z : Int), .bool false] 42 (0, 0)) := heap_alloc_new W _
      obtain ⟨s, hsE⟩ : ∃ s, s = W.heap.size := ⟨_, rfl⟩
      obtain ⟨W1, hW1⟩ : ∃ W1, W1 = (W.alloc (.cells #[.int .u64 (x : Int), .int .i64 (z : Int), .bool false] 42)).drew := ⟨_, rfl⟩
      rw [← hW1] at hb1 hs1 xs ⊢
      rw [← hsE] at xs ⊢
      have hnn : nn ≤ 1048576 := by omega
      have HCk := Lib.hid (Check_any hs1.wm.mem hG x (z : Int) h3 (by omega))
      obtain ⟨c0, -, -, -, -⟩ := hs1.wm.cells
      have d0 := cell_of_row W1 s 0 _ 42 (0, 0) xs
      have d1 := cell_of_row W1 s 1 _ 42 (0, 0) xs
      have HH := Lib.hid (And.intro hb1 (And.intro hs1 (And.intro xs hsE)))
      have HF := Lib.hid (And.intro h1 (And.intro h2 (And.intro h4 (And.intro h5 (And.intro h6 (And.intro hz hzl))))))
      have HK := Lib.hid (And.intro hk hnn)
      by_cases hck : m.chk x (z : Int) = 0
      · rw [hck] at HCk
        have HO := Lib.hid requireOK_yes
        have HCK := Lib.hid hck
        have hsK := Lib.hid (And.intro hs hsE)
        clear hb1 hs1 xs hsE h1 h2 h4 h5 h6 hz hzl hrest hs h3 hl hW1 hk hnn hck
        gi_wp2_with fail
        refine ⟨trivial, (CallsIn.inRound l (callsIn_wide.2 HCk.out)).mono ?_⟩
        rintro e w5 ⟨rfl, hb⟩
        have HB5 := Lib.hid hb
        clear hb
        gi_wp2_with fail
        refine ⟨trivial, (CallsIn.inRound l (callsIn_wide.2 (HO.out _))).mono ?_⟩
        rintro e w6 ⟨rfl, hb⟩
        have hb6 := HB5.out.trans (hb.mono HB5.out.size)
        obtain ⟨hb1, -, xs, -⟩ := HH.out
        have xs6 := (hb6.block s (Array.getElem?_eq_some_iff.1 xs).1).trans xs
        obtain ⟨h1, h2, h4, h5, h6, hz, hzl⟩ := HF.out
        obtain ⟨hk, hnn⟩ := HK.out
        obtain ⟨A, c, A', c', W', q0, hrun, ⟨u, q2⟩, q3, q4, q5, q6, q7⟩ := sst_round hsK.out.1 (hb1.trans (hb6.mono hb1.size)) s x z hsK.out.2 xs6 (by have := HGN.out.2.2; omega) w4.heap.size
        have e0 := cell_of_row w6 s 0 _ 42 (0, 0) xs6
        have e1 := cell_of_row w6 s 1 _ 42 (0, 0) xs6
        have e2 := cell_of_row w6 s 2 _ 42 (0, 0) xs6
        have hsub : wrap64 ((r : Int) - (z : Int)) = ((r - z : Nat) : Int) := by unfold wrap64; omega
        have hsub2 : IntKind.i64.wrap ((r : Int) - (z : Int)) = ((r - z : Nat) : Int) := by rw [IntKind.wrap_i64]; omega
        have HE : Hid (outPostX w4.heap.size (SI w base b d cap m gw qr (q1 + 1) fs sc N nn (k + 1)) (SX w m fs sc N nn) W .normal { tmps := #[], defers := [] } ((W'.setCell ⟨w.heap.size, 0, none⟩ (.slice A' (ls.length + 1) c')).setCell ⟨qr, 0, none⟩ (.int .i64 ((r - z : Nat) : Int)))) := Lib.hid (by
          refine ⟨(q7 (r - z)).2, a2, ls ++ [(x, z)], r - z, ?_, h4, by rw [List.length_append, h5]; rfl, by omega, (q7 (r - z)).1⟩
          unfold spK
          rw [h1]
          simp only [h2]
          rw [← hz, if_pos HCK.out])
        clear hb hb6 hb1 xs xs6 h1 h2 h4 h5 h6 hz hzl hk hnn q7
        generalize ls.length = L at *
        generalize ((r - z : Nat) : Int) = RZ at *
        gi_wp2
        exact HE.out
      · obtain ⟨q, hq⟩ : ∃ q, q = m.chk x (z : Int) := ⟨_, rfl⟩
        rw [← hq] at HCk hck
        have HO := Lib.hid (fun W => requireOK_no q W hck)
        have HE : Hid (∀ W9, Below W1.heap.size W1 W9 → KeepsFrom w4.heap.size W W9 ∧ SX w m fs sc N nn [{ v := .iface 38 (.int .i64 q), recovered := false }] W9) := Lib.hid fun W9 hb9 => by
          have hb := hb1.trans (hb9.mono hb1.size)
          refine ⟨⟨hb.size, fun j o _ ho _ => (hb.block j (Array.getElem?_eq_some_iff.1 ho).1).trans ho⟩, q, spK_err (j := k + 1) ?_ _ hk, rfl, hs.sxt.chg (Chg.of_below (S := fun _ => False) hb) (fun j hj => hj.elim)⟩
          unfold spK
          rw [h1]
          simp only [h2]
          rw [← hz, ← hq, if_neg hck]
        clear hb1 hs1 xs hsE h1 h2 h4 h5 h6 hz hzl hrest hs h3 hl hW1 hk hnn hck hq
        gi_wp2_with fail
        refine ⟨trivial, (CallsIn.inRound l (callsIn_wide.2 HCk.out)).mono ?_⟩
        rintro e w5 ⟨rfl, hb⟩
        have HB5 := Lib.hid hb
        clear hb
        gi_wp2_with fail
        refine ⟨trivial, (CallsIn.inRound l (callsIn_wide.2 (HO.out _))).mono ?_⟩
        rintro e w6 ⟨rfl, hb⟩
        have hE := HE.out w6 (HB5.out.trans (hb.mono HB5.out.size))
        exact ⟨rfl, hE.1, hE.2⟩
    case don =>
      intro D W hD hi hd
      exact ⟨D, rfl, hi, hd, by have := HL.out; omega⟩
    case pn =>
      intro D c W hD hx hd
      exact ⟨D, rfl, hx, hd, by have := HL.out; omega⟩
end Go.Proofs.Ytngaifokkkmmcaa
