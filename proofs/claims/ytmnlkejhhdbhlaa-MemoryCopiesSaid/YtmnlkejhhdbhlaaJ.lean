/- A loop over the logged writes whose value lies in a box; the contract of the law's logs. Conditions stand in each theorem. -/
import Derived.Test.YtmnlkejhhdbhlaaVQ
import Derived.Sort.QuietIn
namespace Go.Proofs.Ytmnlkejhhdbhlaa
open Go.RowKit Go.Shelf
attribute [local go_sem] Oper.semAt_some
set_option linter.unusedVariables false
set_option maxHeartbeats 4000000
set_option maxRecDepth 100000
/-- A span's cells. -/
abbrev sc (p : Nat × Nat) : Array Value := #[.int .u64 (p.1 : Int), .int .i64 (p.2 : Int), .bool false]
theorem range_box {n p0 p1 : Nat} {g : Operand} {assign body : Code} {Q : Exit → Act → World → Prop} {a : Act} {w w0 : World} {gf : Nat} {lb : Array Value} {L : List (Nat × Nat)} (asg : Nat → Value → Value → Array Value → Array Value)
    (hg : a.eval g = .func (.func gf) #[] lb) (eg : ∀ args w, (callFunc gf args).run Try.prog w = .ok (.enter gf args) w) {S : Nat → Prop} (hy : Yields Try.prog gf lb le S (w.heap.size + 2) (lgs L) w0) (hb0 : Below w0.heap.size w0 w)
    (I : Nat → World → Prop) (Ix : Code → Nat → World → Prop) (hI : OwnFrom w.heap.size I) (hIx : ∀ c, OwnFrom w.heap.size (Ix c)) (h0 : I 0 w)
    (hassign : ∀ (l' : Nat) (i : Int) (p : Nat × Nat) (W : World) (K : Act → World → Prop), K { tmps := asg W.heap.size (.int .i64 i) (.agg (sc p)) a.tmps, defers := [] } (W.alloc (.cells (sc p) 47)) →
      assign.wpIn (Fence.wide.inRound l') 9 Try.prog (Exit.then K (fun _ _ _ => False)) { tmps := (a.tmps.setIfInBounds p0 (.int .i64 i)).setIfInBounds p1 (.agg (sc p)), defers := [] } W)
    (hbody : ∀ (l' k : Nat) (hk : fr L + k < L.length) (B : Nat) (W : World), I k W → W.heap[B]? = some (.cells (sc L[fr L + k]) 47 (0, 0)) → body.wpIn (Fence.wide.inRound l') 9 Try.prog (outPost w.heap.size S (I (k + 1)) (fun c => Ix c (k + 1)) W) { tmps := asg B (.int .i64 ((fr L + k : Nat) : Int)) (.agg (sc L[fr L + k])) a.tmps, defers := [] } W)
    (hdone : ∀ (D : Nat) (W : World), w.heap.size ≤ D → I (L.length - fr L) W → W.heap[D]? = some (.deferred (some [])) → Q .normal { a with defers := mrk D :: a.defers } W)
    (hstop : ∀ (D : Nat) (c : Code) (k : Nat) (W : World), w.heap.size ≤ D → k ≤ L.length - fr L → Ix c k W → W.heap[D]? = some (.deferred (some [])) → c.wpIn Fence.wide n Try.prog Q { a with defers := mrk D :: a.defers } W) :
    (Code.rangeFunc g #[p0, p1] assign body).wpIn Fence.wide n Try.prog Q a w := by
  rw [← lgs_length] at hdone hstop
  refine range_list (gf := gf) (lb := lb) hg eg hy hb0 (fun _ => rfl) I Ix hI hIx h0 (fun k a' W => ∃ (B : Nat) (hk : fr L + k < L.length), a' = { tmps := asg B (.int .i64 ((fr L + k : Nat) : Int)) (.agg (sc L[fr L + k])) a.tmps, defers := [] } ∧ W.heap[B]? = some (.cells (sc L[fr L + k]) 47 (0, 0))) ?_ ?_ ?_ hdone hstop
  · rintro k a' _ X Y row ⟨B, hk, h1, h2⟩ hgr hr
    refine ⟨B, hk, h1, (hgr.block B (Array.getElem?_eq_some_iff.1 h2).1 (fun e => ?_)).trans h2⟩
    obtain ⟨o, ho, hc⟩ := (hr B e.symm).2
    rw [h2] at ho; cases ho; cases hc
  · intro l' k hk W K hi hK
    have hk2 : fr L + k < L.length := by rw [lgs_length] at hk; omega
    rw [lgs_at hk]
    have hb := below_alloc W (.cells (sc L[fr L + k]) 47)
    have h := hassign l' ((fr L + k : Nat) : Int) L[fr L + k] W K (hK _ _ ⟨hb.size, fun j o _ ho _ => (hb.block j (Array.getElem?_eq_some_iff.1 ho).1).trans ho⟩ (Kc.of_below hb) (hI.alloc _ hi) ⟨W.heap.size, hk2, rfl, heap_alloc_new W _⟩)
    simpa using h
  · rintro l' k hk a' W _ hi ⟨B, hk2, rfl, hB⟩
    exact hbody l' k hk2 B W hi hB
/-- A slice of spans that reads as l. -/
def Spn (w : World) (v : Value) (l : List (Nat × Nat)) : Prop :=
  ∃ A c, v = .slice A l.length c ∧ l.length ≤ c ∧ (0 < l.length → ∃ g o, A = some ⟨g, o, none⟩ ∧ g < w.heap.size ∧ ∀ j (hj : j < l.length), w.cell? ⟨g, o + j * 3, none⟩ = some (.int .u64 (l[j].1 : Int)) ∧ w.cell? ⟨g, o + j * 3 + 1, none⟩ = some (.int .i64 (l[j].2 : Int)) ∧ w.cell? ⟨g, o + j * 3 + 2, none⟩ = some (.bool false))
theorem Spn.below {w w' : World} {v : Value} {l : List (Nat × Nat)} (h : Spn w v l) (hb : Below w.heap.size w w') : Spn w' v l := by
  obtain ⟨A, c, e, hc, hr⟩ := h
  refine ⟨A, c, e, hc, fun h0 => ?_⟩
  obtain ⟨g, o, e2, hg, hcell⟩ := hr h0
  refine ⟨g, o, e2, Nat.lt_of_lt_of_le hg hb.size, fun j hj => ?_⟩
  obtain ⟨a1, a2, a3⟩ := hcell j hj
  exact ⟨(hb.cell (p := ⟨g, o + j * 3, none⟩) hg).trans a1, (hb.cell (p := ⟨g, o + j * 3 + 1, none⟩) hg).trans a2, (hb.cell (p := ⟨g, o + j * 3 + 2, none⟩) hg).trans a3⟩
theorem Spn.nil (w : World) : Spn w (.slice none 0 0) [] := ⟨none, 0, rfl, Nat.le_refl _, fun h => absurd h (by simp)⟩
/-- What the loop of logs reads. -/
structure Lo (w : World) (F : Int) (v : Value) (many : Int) (q k : Nat) (W : World) : Prop where
  x5 : Bx1 W w.heap.size 3 (.int .i64 F)
  x6 : Bx1 W (w.heap.size + 1) 30 v
  x7 : Bx1 W (w.heap.size + 2) 3 (.int .i64 many)
  x8 : Bx1 W (w.heap.size + 3) 4 (.bool false)
  xk : Bx1 W q 3 (.int .i64 (k : Int))
  hq : w.heap.size + 4 ≤ q
  be : Below w.heap.size w W
section
variable {w W W' : World} {F many : Int} {v : Value} {q k : Nat}
theorem Lo.below (h : Lo w F v many q k W) (hb : Below W.heap.size W W') : Lo w F v many q k W' := ⟨h.x5.below hb, h.x6.below hb, h.x7.below hb, h.x8.below hb, h.xk.below hb, h.hq, h.be.trans (hb.mono h.be.size)⟩
theorem Lo.step (h : Lo w F v many q k W) (hb : Below W.heap.size W W') : Lo w F v many q (k + 1) (W'.setCell ⟨q, 0, none⟩ (.int .i64 ((k : Int) + 1))) := by
  have h2 := h.below hb
  have key : ∀ {j : Nat} {t : TypeId} {u : Value}, Bx1 W' j t u → j < q → Bx1 (W'.setCell ⟨q, 0, none⟩ (.int .i64 ((k : Int) + 1))) j t u := fun hx hj => (Below.heap_setCell W' _ _ _ (by show _ ≠ q; omega)).trans hx
  have hq := h.hq
  exact ⟨key h2.x5 (by omega), key h2.x6 (by omega), key h2.x7 (by omega), key h2.x8 (by omega), heap_setCell_same W' q 0 _ 3 _ h2.xk, hq, h2.be.setCell (by show w.heap.size ≤ q; omega) _⟩
theorem own_lo {β : Type} {B : Nat} (hB : w.heap.size ≤ B) : OwnFrom B (fun (_ : β) W => Lo w F v many q k W) := fun i X Y row hs hg hr =>
  ⟨own_bx B () X Y row hs.x5 hg hr, own_bx B () X Y row hs.x6 hg hr, own_bx B () X Y row hs.x7 hg hr, own_bx B () X Y row hs.x8 hg hr, own_bx B () X Y row hs.xk hg hr, hs.hq, ownFrom_below (Nat.le_refl _) hB () X Y row hs.be hg hr⟩
end
theorem ri_kf {B N : Nat} {X X2 : World} (hb : Below X.heap.size X X2) (hN : N < B) (v : Value) : KeepsFrom B X (X2.setCell ⟨N, 0, none⟩ v) ∧ Kc (fun k => k = N) X (X2.setCell ⟨N, 0, none⟩ v) := by
  have hsz : (X2.setCell ⟨N, 0, none⟩ v).heap.size = X2.heap.size := by simp [World.setCell]
  refine ⟨⟨by rw [hsz]; exact hb.size, fun k o hk ho _ => ?_⟩, ⟨by rw [hsz]; exact hb.size, fun k o ho _ hS => ?_⟩⟩
  · exact (Below.heap_setCell X2 _ _ _ (by show k ≠ N; omega)).trans ((hb.block k (Array.getElem?_eq_some_iff.1 ho).1).trans ho)
  · exact (Below.heap_setCell X2 _ _ _ hS).trans ((hb.block k (Array.getElem?_eq_some_iff.1 ho).1).trans ho)
theorem run_equalIn_func_nil {P : Program} (w : World) (d : Nat) (t : TypeId) {ps rs : Array TypeId} {vr : Bool} (f : Fn) (a b : Array Value) (h : P.underlying t = some (.func ps rs vr)) :
    (Op.equalIn (d + 1) t (.func f a b) .nilFunc).run P w = .ok false w := by
  simp [Op.equalIn, run_underlying h]
theorem run_eql_func_nil {P : Program} (w : World) (t : TypeId) {ps rs : Array TypeId} {vr : Bool} (f : Fn) (a b : Array Value) (h : P.underlying t = some (.func ps rs vr)) :
    (binOp .eql t (.func f a b) .nilFunc).run P w = .ok (.bool false) w := by
  simp only [binOp]
  simp [show Op.equal t (.func f a b) .nilFunc = Op.equalIn (9999 + 1) t (.func f a b) .nilFunc from rfl, run_equalIn_func_nil w 9999 t f a b h]
/-- A span against itself. -/
theorem neq47 (x y : Nat) (W : World) : (binOp .neq 47 (.agg #[.int .u64 (x : Int), .int .i64 (y : Int), .bool false]) (.agg #[.int .u64 (x : Int), .int .i64 (y : Int), .bool false])).run Try.prog W = .ok (.bool false) W := by
  have key : ∀ n, (Op.equalIn (n + 1 + 1) 47 (.agg #[.int .u64 (x : Int), .int .i64 (y : Int), .bool false]) (.agg #[.int .u64 (x : Int), .int .i64 (y : Int), .bool false])).run Try.prog W = .ok true W := fun n => by
    simp [Op.equalIn, run_underlying Try.underlying47, run_underlying Try.underlying3, run_underlying Try.underlying38, run_underlying Try.underlying4, go_sem]
  rw [run_neq_struct, show (10000 : Nat) = 9998 + 1 + 1 from rfl, key]
  rfl
/-- The four boxes of logs. -/
def lE (w : World) (F : Int) (v : Value) (many : Int) : World := (((w.alloc (.cells #[.int .i64 F] 3)).alloc (.cells #[v] 30)).alloc (.cells #[.int .i64 many] 3)).alloc (.cells #[.bool false] 4)
theorem lE_facts (w : World) (F : Int) (v : Value) (many : Int) : (lE w F v many).heap.size = w.heap.size + 4 ∧ Below w.heap.size w (lE w F v many) ∧ Bx1 (lE w F v many) w.heap.size 3 (.int .i64 F) ∧ Bx1 (lE w F v many) (w.heap.size + 1) 30 v ∧ Bx1 (lE w F v many) (w.heap.size + 2) 3 (.int .i64 many) ∧ Bx1 (lE w F v many) (w.heap.size + 3) 4 (.bool false) := by
  unfold lE
  have s1 : (w.alloc (.cells #[.int .i64 F] 3)).heap.size = w.heap.size + 1 := World.size_alloc _ _
  have x1 := Bx1.new w 3 (.int .i64 F)
  have b1 := below_alloc w (.cells #[.int .i64 F] 3)
  generalize w.alloc (.cells #[.int .i64 F] 3) = w1 at *
  have s2 : (w1.alloc (.cells #[v] 30)).heap.size = w1.heap.size + 1 := World.size_alloc _ _
  have x2 := Bx1.new w1 30 v
  have b2 := below_alloc w1 (.cells #[v] 30)
  generalize w1.alloc (.cells #[v] 30) = w2 at *
  have s3 : (w2.alloc (.cells #[.int .i64 many] 3)).heap.size = w2.heap.size + 1 := World.size_alloc _ _
  have x3 := Bx1.new w2 3 (.int .i64 many)
  have b3 := below_alloc w2 (.cells #[.int .i64 many] 3)
  generalize w2.alloc (.cells #[.int .i64 many] 3) = w3 at *
  have s4 : (w3.alloc (.cells #[.bool false] 4)).heap.size = w3.heap.size + 1 := World.size_alloc _ _
  have x4 := Bx1.new w3 4 (.bool false)
  have b4 := below_alloc w3 (.cells #[.bool false] 4)
  generalize w3.alloc (.cells #[.bool false] 4) = w4 at *
  rw [s1] at x2
  rw [s2, s1] at x3
  rw [s3, s2, s1] at x4
  exact ⟨by omega, ((b1.trans (b2.mono b1.size)).trans (b3.mono (by omega))).trans (b4.mono (by omega)), ((x1.below b2).below b3).below b4, (x2.below b3).below b4, x3.below b4, x4⟩
theorem res18 (W' : World) (q : Nat) (tm : Array Value) (htm : tm.getD 8 undef = .pointer (some ⟨q, 0, none⟩)) (h : W'.cell? ⟨q, 0, none⟩ = some (.bool true)) : (results Try.f18 tm).run Try.prog W' = .ok (.bool true) W' := by
  have e : tm[8]?.getD undef = .pointer (some ⟨q, 0, none⟩) := by simpa using htm
  simp [results, Try.results18, go_sem, h, e]
theorem mark1 {w E W : World} {D : Nat} (h : w.heap.size ≤ E.heap.size) (hb : Below E.heap.size E W) (hD : E.heap.size ≤ D) (hd : W.heap[D]? = some (.deferred (some []))) : Marks w.heap.size [D] W :=
  ⟨by simp, fun k hk => by rw [List.mem_singleton.1 hk]; exact ⟨by omega, hd⟩⟩
theorem logs_any (pv vw : Value) (L : List (Nat × Nat)) (many : Int) (w : World) (hW : ∀ W, Below w.heap.size w W → Calls Try.prog 17 #[pv] W (WrPost W L)) (hl : L.length ≤ 1000000) (hv : Spn w vw (L.drop (fr L))) (F : Nat) (hF : F = fr L) :
    Calls Try.prog 18 #[pv, .int .i64 (F : Int), vw, .int .i64 many] w (OkB w) := by
  have hqn := fun (W : World) (f : Fn) (x y : Array Value) => run_eql_func_nil (P := Try.prog) W 49 f x y Try.underlying49
  have HV := Lib.hid hv
  obtain ⟨A, c, rfl, hc, hr⟩ := hv
  have HR := Lib.hid hr
  have HF := Lib.hid hF
  have HE := Lib.hid (lE_facts w (F : Int) (.slice A (L.drop (fr L)).length c) many)
  have HW := Lib.hid (hW _ HE.out.2.1)
  obtain ⟨n, hn⟩ : ∃ n, n = (L.drop (fr L)).length := ⟨_, rfl⟩
  have HN := Lib.hid hn
  rw [← hn] at HE HW
  rw [← hn]
  have f17 : Fence.wide.fn 17 := trivial
  clear hc hr hW hF hn
  refine (callsIn_wide (n := 9)).1 ?_
  refine callsIn_of_wp_marks Try.func18 rfl trivial ?_ rfl
  simp only [Try.ntmps18, List.size_toArray, List.length_cons, List.length_nil, Nat.reduceAdd, Nat.reduceSub, Array.replicate_succ, Array.replicate_zero, List.push_toArray, List.append_toArray, List.nil_append, List.cons_append]
  gi_wp2_with fail
  rw [show (((w.alloc (.cells #[.int .i64 (F : Int)] 3)).alloc (.cells #[.slice A n c] 30)).alloc (.cells #[.int .i64 many] 3)).alloc (.cells #[.bool false] 4) = lE w F (.slice A n c) many from rfl]
  generalize lE w F (.slice A n c) many = E at *
  gi_wp2_with (first
    | (gi_at_call 17; refine (callsIn_wide.2 HW.out).mono ?_; rintro e W1 ⟨q, rfl, hq, hlb, hb⟩; have HQ := Lib.hid (And.intro hq hlb); have HB1 := Lib.hid hb; clear hq hlb hb))
  obtain ⟨qk, hqk⟩ : ∃ qk, qk = W1.heap.size := ⟨_, rfl⟩
  rw [← hqk]
  have hbk := below_alloc W1 (.cells #[.int .i64 0] 3)
  have hbx := Bx1.new W1 3 (.int .i64 0)
  have hsz : (W1.alloc (.cells #[.int .i64 0] 3)).heap.size = qk + 1 := by rw [World.size_alloc, hqk]
  have HSZ : Hid (w.heap.size + 4 ≤ qk ∧ (W1.alloc (.cells #[.int .i64 0] 3)).heap.size = qk + 1 ∧ E.heap.size = w.heap.size + 4 ∧ q < qk) := Lib.hid (by have := HE.out.1; have := HB1.out.size; have := HQ.out.2.lt; have h9 := HE.out.1; exact ⟨by omega, hsz, h9, by omega⟩)
  have HLo : Hid (Lo w (F : Int) (.slice A n c) many qk 0 (W1.alloc (.cells #[.int .i64 0] 3))) := Lib.hid (by
    obtain ⟨_, h2, h3, h4, h5, h6⟩ := HE.out
    exact ⟨(h3.below HB1.out).below hbk, (h4.below HB1.out).below hbk, (h5.below HB1.out).below hbk, (h6.below HB1.out).below hbk, by rw [hqk]; exact hbx, HSZ.out.1, (h2.trans (HB1.out.mono h2.size)).trans (hbk.mono (by have := h2.size; have := HB1.out.size; omega))⟩)
  have HY : Hid (∀ B', Yields Try.prog 46 #[.pointer (some ⟨q, 0, none⟩)] le (· = qk) B' (lgs L) (W1.alloc (.cells #[.int .i64 0] 3))) := Lib.hid fun B' => writes1_yields _ B' q L _ hl (by have := HSZ.out.2.2.2; omega) (HQ.out.2.below hbk)
  clear hbk hbx hsz hqk HE HW
  generalize W1.alloc (.cells #[.int .i64 0] 3) = W2 at *
  refine range_box (gf := 46) (w0 := W2) (fun B x y t => (((t.setIfInBounds 18 x).setIfInBounds 19 y).setIfInBounds 11 x).setIfInBounds 12 (.pointer (some ⟨B, 0, none⟩))) rfl (enters_of Try.func46 (by kernel_rfl) rfl) (HY.out _) (Below.refl _ _)
    (fun j W' => Lo w (F : Int) (.slice A n c) many qk j W' ∧ (j = 0 ∨ (j : Int) < many))
    (fun cd j W' => cd = .exit 0 ∧ Lo w (F : Int) (.slice A n c) many qk j W' ∧ 1 ≤ j ∧ many ≤ j ∧ (j = 1 ∨ (j : Int) - 1 < many))
    (fun j X Y row hs hg hr => ⟨own_lo (by have := HSZ.out; omega) () X Y row hs.1 hg hr, hs.2⟩)
    (fun cd j X Y row hs hg hr => ⟨hs.1, own_lo (by have := HSZ.out; omega) () X Y row hs.2.1 hg hr, hs.2.2⟩) ⟨HLo.out, .inl rfl⟩ ?assign ?body ?done ?stop
  case assign =>
    intro l'' i p W' K' hK'
    gi_wp2
    exact hK'
  case body =>
    rintro l'' k hk B W' ⟨hlo, hjm⟩ hB
    have hkn : k < (L.drop (fr L)).length := by rw [List.length_drop]; omega
    obtain ⟨g, o, rfl, hg, hcell⟩ := HR.out (by omega)
    obtain ⟨a0, a1, a2⟩ := hcell k hkn
    rw [List.getElem_drop] at a0 a1
    have hknn : (k : Int) < (n : Int) := by have := HN.out; omega
    have hnm : (n : Int) ≤ 256 := by have := HN.out; rw [List.length_drop] at this; unfold fr at this; omega
    have hFk : ((fr L + k : Nat) : Int) = (F : Int) + (k : Int) := by rw [HF.out]; omega
    have hFm : (F : Int) + (k : Int) ≤ 1000000 := by rw [HF.out]; omega
    have e := fun j => cell_of_row W' B j _ 47 (0, 0) hB
    have e0 := e 0
    have e1 := e 1
    have e2 := e 2
    rw [hFk]
    simp only [sc] at e0 e1 e2 ⊢
    obtain ⟨x, hx⟩ : ∃ x, x = L[fr L + k] := ⟨_, rfl⟩
    rw [← hx] at e0 e1 a0 a1 ⊢
    have hne := gw_ne W'
    have hneq := neq47 x.1 x.2
    generalize x.1 = x1 at *
    generalize x.2 = x2 at *
    have b0 := fun z : Gw W' => z.cell (g := B) (o := 0) (v := .int .u64 (x1 : Int)) e0
    have b1 := fun z : Gw W' => z.cell (g := B) (o := 1) (v := .int .i64 (x2 : Int)) e1
    have b2 := fun z : Gw W' => z.cell (g := B) (o := 2) (v := .bool false) e2
    have d0 := fun z : Gw W' => z.cell ((hlo.be.cell (p := ⟨g, o + k * 3, none⟩) hg).trans a0)
    have d1 := fun z : Gw W' => z.cell ((hlo.be.cell (p := ⟨g, o + k * 3 + 1, none⟩) hg).trans a1)
    have d2 := fun z : Gw W' => z.cell ((hlo.be.cell (p := ⟨g, o + k * 3 + 2, none⟩) hg).trans a2)
    have c5 := fun z : Gw W' => z.cell hlo.x5.cell
    have c6 := fun z : Gw W' => z.cell hlo.x6.cell
    have ck := fun z : Gw W' => z.cell hlo.xk.cell
    have HLO := Lib.hid hlo
    have HJM := Lib.hid hjm
    clear hlo hjm e e0 e1 e2 a0 a1 a2 hcell hx hB hk hkn hFk
    have g1 : decide ((k : Int) ≥ (n : Int)) = false := decide_eq_false (by omega)
    have g2 : decide ((n : Int) ≤ (k : Int)) = false := decide_eq_false (by omega)
    have g3 : decide (n ≤ k) = false := decide_eq_false (by omega)
    gi_wp2
    simp only [List.setIfInBounds_toArray, List.set_cons_succ, List.set_cons_zero]
    refine wpIn_region_gw_round (by kernel_rfl) (by kernel_rfl) (by kernel_rfl) ?_
    repeat (gi_big_quiet_step ((fail)))
    refine wpQuietIn_nil ?_
    rintro X2 ⟨⟨_, hgX⟩, rfl⟩
    have hl2 := HLO.out.below hgX.below
    have hl3 := HLO.out.step hgX.below
    have hkf := ri_kf (B := W2.heap.size) hgX.below (N := qk) (by have := HSZ.out.2.1; omega) (.int .i64 ((k : Int) + 1))
    have ck2 := hl2.xk.cell
    have fk2 := hl2.xk.free
    have c73 : (X2.setCell ⟨qk, 0, none⟩ (.int .i64 ((k : Int) + 1))).cell? ⟨w.heap.size + 1 + 1, 0, none⟩ = some (.int .i64 many) := hl3.x7.cell
    have ck3 := hl3.xk.cell
    rw [show ((k + 1 : Nat) : Int) = (k : Int) + 1 by omega] at ck3
    have HL3 := Lib.hid hl3
    have HKF := Lib.hid hkf
    have HHk := Lib.hid (show k + 1 = 1 ∨ (((k + 1 : Nat) : Int)) - 1 < many by have := HJM.out; omega)
    clear hl2 hl3 hkf hgX b0 b1 b2 d0 d1 d2 c5 c6 ck hne hneq
    by_cases hm : many ≤ (k : Int) + 1
    · gi_wp2
      exact ⟨HKF.out.1, rfl, HL3.out, by omega, by omega, HHk.out⟩
    · gi_wp2
      exact ⟨HKF.out.1, HKF.out.2, HL3.out⟩
  case done =>
    rintro D W10 hD ⟨hlo, hjm⟩ hd
    have hnl : L.length - fr L = n := by rw [HN.out, List.length_drop]
    rw [hnl] at hlo hjm
    have hE : min (n : Int) (max 1 many) = (n : Int) := by omega
    have HM : Hid (Marks w.heap.size [D] W10) := Lib.hid (mark1 (Nat.le_refl _) hlo.be (by have := HSZ.out; omega) hd)
    have ck := hlo.xk.cell
    have c6 := hlo.x6.cell
    have c7 : W10.cell? ⟨w.heap.size + 1 + 1, 0, none⟩ = some (.int .i64 many) := hlo.x7.cell
    have c8 : W10.cell? ⟨w.heap.size + 1 + 1 + 1, 0, none⟩ = some (.bool false) := hlo.x8.cell
    have f8 : W10.frozen? ⟨w.heap.size + 1 + 1 + 1, 0, none⟩ = false := hlo.x8.free
    have HLO := Lib.hid hlo
    clear hlo hjm hd hnl
    gi_wp2
    exact law_true (q := w.heap.size + 3) HM.out HLO.out.be HLO.out.x8 (by omega) fun W' h => res18 W' _ _ rfl h
  case stop =>
    rintro D cd j W10 hD hj ⟨rfl, hlo, h1, h2, h3⟩ hd
    have hnl : L.length - fr L = n := by rw [HN.out, List.length_drop]
    rw [hnl] at hj
    have hE : min (n : Int) (max 1 many) = (j : Int) := by omega
    have HM : Hid (Marks w.heap.size [D] W10) := Lib.hid (mark1 (Nat.le_refl _) hlo.be (by have := HSZ.out; omega) hd)
    have ck := hlo.xk.cell
    have c6 := hlo.x6.cell
    have c7 : W10.cell? ⟨w.heap.size + 1 + 1, 0, none⟩ = some (.int .i64 many) := hlo.x7.cell
    have c8 : W10.cell? ⟨w.heap.size + 1 + 1 + 1, 0, none⟩ = some (.bool false) := hlo.x8.cell
    have f8 : W10.frozen? ⟨w.heap.size + 1 + 1 + 1, 0, none⟩ = false := hlo.x8.free
    have HLO := Lib.hid hlo
    clear hlo hd hnl h1 h2 h3 hj
    gi_wp2
    exact law_true (q := w.heap.size + 3) HM.out HLO.out.be HLO.out.x8 (by omega) fun W' h => res18 W' _ _ rfl h
end Go.Proofs.Ytmnlkejhhdbhlaa
