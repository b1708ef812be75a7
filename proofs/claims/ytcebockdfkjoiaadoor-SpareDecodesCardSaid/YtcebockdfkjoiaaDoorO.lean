/- Small lemmas that lead from a law's walk to its row: arguments that were read are read again behind the call; what came in is opened. No condition. -/
import Derived.Test.YtcebockdfkjoiaaDoorL
import Derived.Carry
import Derived.ProofKit
import Derived.OpenShut
import Derived.Stop.LaidErr
import Derived.MakeChecks
import Derived.Lib.LaidTab
namespace Go.Proofs.YtcebockdfkjoiaaDoor
open Go.ChangeShapes Go.WideShapes Go.ChangeAt Go.RowKit
set_option linter.unusedVariables false
set_option maxHeartbeats 400000

theorem own : ownKnob Tryd.prog.godebug = none := by kernel_rfl
theorem laidOut : laidOutB Tryd.prog = true := by kernel_rfl
theorem cells5 : Tryd.prog.cellsOf 5 = 1 := by kernel_rfl
set_option maxRecDepth 100000 in
theorem args_back {H : Type} {enc : TypeId × Value → H} {W W' : World} (hb : Below W.heap.size W W') {ts : List TypeId} {vs : List Value} {ds : List (DataW H)} {p : List MemPlace}
    (ht : (ts.all fun t => Tryd.prog.readableRec t && decide (t < Tryd.prog.types.size)) = true) (h : DataW.TrodAll enc Tryd.prog W 0 (fun _ => true) true ts vs ds p) (hlt : ∀ x ∈ p, x.block < W.heap.size) :
    DataW.TrodAll enc Tryd.prog W' 0 (fun b => decide (b < W.heap.size)) true ts vs ds p := by
  induction ts generalizing vs ds p with
  | nil =>
    obtain ⟨rfl, rfl, rfl⟩ := trodAll_nil h
    exact trodAll_mk0
  | cons t ts ih =>
    obtain ⟨v, vs', d, ds', p0, q0, rfl, rfl, rfl, h0, r0⟩ := trodAll_cons h
    rw [List.all_cons, Bool.and_eq_true, Bool.and_eq_true] at ht
    exact trodAll_cons_mk (Below.trod laidOut ht.1.1 (of_decide_eq_true ht.1.2) h0 hb (fun x hx => hlt x (List.mem_append_left _ hx))) (ih ht.2 r0 (fun x hx => hlt x (List.mem_append_right _ hx)))
set_option maxRecDepth 100000 in
theorem open_byt {H : Type} {enc : TypeId × Value → H} {W : World} {base : Nat} {v : Value} {d : DataW H} {ps : List MemPlace} (hval : Value.okWide Tryd.prog W .any base 26 v) (h : DataW.Trod enc Tryd.prog W 0 (fun _ => true) true 26 v d ps) :
    ∃ l : List UInt8, Byt W v l ∧ l.length ≤ maxLen := by
  obtain ⟨a0, len, cap, rfl⟩ := okWide_slice Tryd.underlying26 hval
  obtain ⟨fuel, hf⟩ := h
  rcases open_ints Tryd.underlying26 Tryd.underlying5 cells5 hf with ⟨hcs, hx⟩ | ⟨a, len', cap', zs, hcs, _, hl, hm, hz, hx, hcell, hwz⟩
  · simp [Value.cells] at hcs
    obtain ⟨rfl, rfl, rfl⟩ := hcs
    exact ⟨[], Byt.none W, Nat.zero_le _⟩
  · simp [Value.cells] at hcs
    obtain ⟨rfl, rfl, rfl⟩ := hcs
    simp only [if_true] at hz
    have hlen : ((zs.take len).map fun z => UInt8.ofNat z.toNat).length = len := by simp; omega
    refine ⟨(zs.take len).map fun z => UInt8.ofNat z.toNat, ⟨some a, cap, by rw [hlen], by omega, fun h0 => ?_⟩, by rw [hlen]; unfold maxLen at *; omega⟩
    rw [hlen] at h0
    obtain ⟨b, off, rfl, hc⟩ := ints_at hcell (by omega)
    refine ⟨b, off, rfl, World.block_lt_of_cell? W _ (hc 0 (by omega)), fun j hj => ?_⟩
    rw [hlen] at hj
    rw [hc j (by omega)]
    have hjz : j < zs.length := by omega
    have hb := bounds_u8 (hwz zs[j] (List.getElem_mem hjz))
    have e : zs.getD j 0 = zs[j] := by simp [hjz]
    rw [e]
    congr 2
    simp only [List.getElem_map, List.getElem_take]
    rw [UInt8.toNat_ofNat']
    omega
theorem cells3 : Tryd.prog.cellsOf 3 = 1 := by kernel_rfl
theorem cells22 : Tryd.prog.cellsOf 22 = 1 := by kernel_rfl
theorem cells23 : Tryd.prog.cellsOf 23 = 1 := by kernel_rfl
theorem cells25 : Tryd.prog.cellsOf 25 = 6 := by kernel_rfl
theorem cells47 : Tryd.prog.cellsOf 47 = 4 := by kernel_rfl
set_option maxRecDepth 100000 in
theorem open_sp {H : Type} {enc : TypeId × Value → H} {W : World} {base : Nat} {v : Value} {d : DataW H} {ps : List MemPlace} (hval : Value.okWide Tryd.prog W .any base 25 v) (h : DataW.Trod enc Tryd.prog W 0 (fun _ => true) true 25 v d ps) :
    ∃ s : Sp, v = s.val ∧ s.wf := by
  obtain ⟨cs, rfl, hsz⟩ := okWide_struct Tryd.underlying25 hval
  obtain ⟨fuel, hf⟩ := h
  obtain ⟨l⟩ := cs
  match l, hsz.trans cells25 with
  | [c0, c1, c2, c3, c4, c5], _ =>
    obtain ⟨xs, n, _, _, _, hlen, hg⟩ := DataW.trod_struct Tryd.underlying25 (show DataW.trod enc Tryd.prog W 0 (fun _ => true) true fuel 25 [c0, c1, c2, c3, c4, c5] = some (d, ps) by simpa [Value.cells] using hf)
    have hl : xs.length = 6 := hlen
    match xs, hl with
    | [y0, y1, y2, y3, y4, y5], _ =>
      have t0 : DataW.trod enc Tryd.prog W 0 (fun _ => true) true n 22 (([c0, c1, c2, c3, c4, c5].drop 0).take (Tryd.prog.cellsOf 22)) = some y0 := hg 0 _ rfl
      have t1 : DataW.trod enc Tryd.prog W 0 (fun _ => true) true n 3 (([c0, c1, c2, c3, c4, c5].drop 1).take (Tryd.prog.cellsOf 3)) = some y1 := hg 1 _ rfl
      have t2 : DataW.trod enc Tryd.prog W 0 (fun _ => true) true n 23 (([c0, c1, c2, c3, c4, c5].drop 2).take (Tryd.prog.cellsOf 23)) = some y2 := hg 2 _ rfl
      have t3 : DataW.trod enc Tryd.prog W 0 (fun _ => true) true n 23 (([c0, c1, c2, c3, c4, c5].drop 3).take (Tryd.prog.cellsOf 23)) = some y3 := hg 3 _ rfl
      have t4 : DataW.trod enc Tryd.prog W 0 (fun _ => true) true n 3 (([c0, c1, c2, c3, c4, c5].drop 4).take (Tryd.prog.cellsOf 3)) = some y4 := hg 4 _ rfl
      have t5 : DataW.trod enc Tryd.prog W 0 (fun _ => true) true n 3 (([c0, c1, c2, c3, c4, c5].drop 5).take (Tryd.prog.cellsOf 3)) = some y5 := hg 5 _ rfl
      rw [cells22] at t0
      rw [cells3] at t1 t4 t5
      rw [cells23] at t2 t3
      obtain ⟨n0, e0, -, w0⟩ := DataW.trod_int (k := .u8) Tryd.underlying22 t0
      obtain ⟨n1, e1, -, w1⟩ := DataW.trod_int (k := .i64) Tryd.underlying3 t1
      obtain ⟨n2, e2, -, w2⟩ := DataW.trod_int (k := .u64) Tryd.underlying23 t2
      obtain ⟨n3, e3, -, w3⟩ := DataW.trod_int (k := .u64) Tryd.underlying23 t3
      obtain ⟨n4, e4, -, w4⟩ := DataW.trod_int (k := .i64) Tryd.underlying3 t4
      obtain ⟨n5, e5, -, w5⟩ := DataW.trod_int (k := .i64) Tryd.underlying3 t5
      simp at e0 e1 e2 e3 e4 e5
      have b0 := bounds_u8 w0; have b1 := bounds_i64 w1; have b2 := bounds_u64 w2; have b3 := bounds_u64 w3; have b4 := bounds_i64 w4; have b5 := bounds_i64 w5
      refine ⟨⟨n0.toNat, n1, n2.toNat, n3.toNat, n4, n5⟩, ?_, ?_⟩
      · unfold Sp.val
        simp only
        rw [e0, e1, e2, e3, e4, e5, Int.toNat_of_nonneg b0.1, Int.toNat_of_nonneg b2.1, Int.toNat_of_nonneg b3.1]
      · refine ⟨?_, ?_, ?_, ?_, ?_, ?_, ?_, ?_, ?_⟩ <;> simp only <;> omega
set_option maxRecDepth 100000 in
theorem open_four {H : Type} {enc : TypeId × Value → H} {W : World} {base : Nat} {v : Value} {d : DataW H} {ps : List MemPlace} (hval : Value.okWide Tryd.prog W .any base 47 v) (h : DataW.Trod enc Tryd.prog W 0 (fun _ => true) true 47 v d ps) :
    ∃ a b c e : UInt8, v = .agg #[.int .u8 (a.toNat : Int), .int .u8 (b.toNat : Int), .int .u8 (c.toNat : Int), .int .u8 (e.toNat : Int)] := by
  obtain ⟨cs, rfl, hsz⟩ : ∃ cs : Array Value, v = .agg cs ∧ cs.size = Tryd.prog.cellsOf 47 := by
    simp only [Value.okWide, Tryd.underlying47] at hval
    obtain ⟨cs, h1, h2, _⟩ := hval
    exact ⟨cs, h1, h2⟩
  obtain ⟨fuel, hf⟩ := h
  obtain ⟨l⟩ := cs
  have each : ∀ (z : Int), (Lit.int .u8 z).wf = true → (Value.int .u8 z) = .int .u8 ((UInt8.ofNat z.toNat).toNat : Int) := fun z hz => by
    have := bounds_u8 hz
    rw [UInt8.toNat_ofNat']
    congr 1
    omega
  match l, hsz.trans cells47 with
  | [c0, c1, c2, c3], _ =>
    obtain ⟨xs, n, _, _, _, hlen, hg⟩ := DataW.trod_array Tryd.underlying47 (show DataW.trod enc Tryd.prog W 0 (fun _ => true) true fuel 47 [c0, c1, c2, c3] = some (d, ps) by simpa [Value.cells] using hf)
    rw [cells5] at hg
    have at_ : ∀ i, i < 4 → ∃ y, DataW.trod enc Tryd.prog W 0 (fun _ => true) true n 5 (([c0, c1, c2, c3].drop (i * 1)).take 1) = some y := fun i hi => ⟨xs[i]'(by omega), (hg i hi).trans (List.getElem?_eq_getElem (by omega))⟩
    obtain ⟨y0, t0⟩ := at_ 0 (by decide)
    obtain ⟨y1, t1⟩ := at_ 1 (by decide)
    obtain ⟨y2, t2⟩ := at_ 2 (by decide)
    obtain ⟨y3, t3⟩ := at_ 3 (by decide)
    obtain ⟨n0, e0, -, w0⟩ := DataW.trod_int (k := .u8) Tryd.underlying5 t0
    obtain ⟨n1, e1, -, w1⟩ := DataW.trod_int (k := .u8) Tryd.underlying5 t1
    obtain ⟨n2, e2, -, w2⟩ := DataW.trod_int (k := .u8) Tryd.underlying5 t2
    obtain ⟨n3, e3, -, w3⟩ := DataW.trod_int (k := .u8) Tryd.underlying5 t3
    simp at e0 e1 e2 e3
    exact ⟨_, _, _, _, by rw [e0, e1, e2, e3, each _ w0, each _ w1, each _ w2, each _ w3]⟩
theorem g2 : Tryd.prog.globalNamed "capsule/digest.table32" = some 2 := by kernel_rfl
theorem g2t : (Tryd.prog.globals[2]?).map (·.type) = some 101 := by kernel_rfl
theorem c101 : Tryd.prog.cellsOf 101 = 16 := by kernel_rfl
theorem c55 : Tryd.prog.cellsOf 55 = 1 := by kernel_rfl
theorem tabs_of_head {W : World} {rest : List (String × DataW Unit)} (h : laidMet Tryd.prog (("capsule/digest.table32", Lib.tabData .u32 T32) :: rest) W) : Tabs W := by
  have h1 := Lib.tabIs_of_head g2 g2t Tryd.underlying101 Tryd.underlying55 c55 c101 h
  have e1 := fun i (hi : i < 16) => (h1.cell g2 i hi).trans (by rw [T32_it ⟨i, hi⟩])
  refine ⟨e1, ?_⟩
  have := World.block_lt_of_cell? W _ (h1.cell g2 0 (by decide))
  exact this
theorem tabs_of_laid {W : World} (h : laidMetH Tryd.prog [("capsule/digest.table32", Lib.tabData .u32 T32)] W) : Tabs W := by
  rw [MakeChecks.laidMetH_plain _ _ _ (by kernel_rfl)] at h
  exact tabs_of_head h
theorem g0 : Tryd.prog.globalNamed "capsule/spare.names" = some 0 := by kernel_rfl
theorem g0t : (Tryd.prog.globals[0]?).map (·.type) = some 63 := by kernel_rfl
theorem c63 : Tryd.prog.cellsOf 63 = 4 := by kernel_rfl
theorem c9 : Tryd.prog.cellsOf 9 = 1 := by kernel_rfl
def namesL : DataW Unit := .agg [.lit (.string []), .lit (.string [100, 97, 116, 97]), .lit (.string [100, 101, 108, 116, 97]), .lit (.string [99, 104, 101, 99, 107, 112, 111, 105, 110, 116])]
/-- The names lie as the program's text lays them. -/
structure Nms (w : World) : Prop where
  a0 : w.cell? ⟨0, 0, none⟩ = some (.string ⟨#[]⟩)
  a1 : w.cell? ⟨0, 1, none⟩ = some (.string ⟨#[100, 97, 116, 97]⟩)
  a2 : w.cell? ⟨0, 2, none⟩ = some (.string ⟨#[100, 101, 108, 116, 97]⟩)
  a3 : w.cell? ⟨0, 3, none⟩ = some (.string ⟨#[99, 104, 101, 99, 107, 112, 111, 105, 110, 116]⟩)
theorem str_of {s : ByteArray} {l : List UInt8} (h : s.data.toList = l) : s = ⟨l.toArray⟩ := by
  obtain ⟨a⟩ := s
  simp only at h
  subst h
  simp
set_option maxRecDepth 100000 in
theorem names_of_head {W : World} {rest : List (String × DataW Unit)} (h : laidMet Tryd.prog (("capsule/spare.names", namesL) :: rest) W) : Nms W := by
  obtain ⟨ps, ⟨g', t', cs, fuel, p, q, hg', ht', hvar, hd, _, _⟩, _⟩ := h
  obtain rfl := Option.some.inj (g0.symm.trans hg')
  obtain rfl := Option.some.inj (g0t.symm.trans ht')
  obtain ⟨xs, n, _, hx, hcl, hlen, hg⟩ := DataW.trod_array Tryd.underlying63 hd
  rw [c63] at hcl
  rw [c9] at hg
  obtain ⟨l⟩ := cs
  simp only at hcl hg
  have hx1 := congrArg Prod.fst hx
  simp only [namesL, DataW.agg.injEq] at hx1
  match l, hcl with
  | [c0, c1, c2, c3], _ =>
    match xs, hlen with
    | [y0, y1, y2, y3], _ =>
      simp only [List.map_cons, List.map_nil, List.cons.injEq, and_true] at hx1
      obtain ⟨x0, x1, x2, x3⟩ := hx1
      have t0 : DataW.trod (fun _ => ()) Tryd.prog W 0 (fun _ => true) false n 9 [c0] = some y0 := hg 0 (by decide)
      have t1 : DataW.trod (fun _ => ()) Tryd.prog W 0 (fun _ => true) false n 9 [c1] = some y1 := hg 1 (by decide)
      have t2 : DataW.trod (fun _ => ()) Tryd.prog W 0 (fun _ => true) false n 9 [c2] = some y2 := hg 2 (by decide)
      have t3 : DataW.trod (fun _ => ()) Tryd.prog W 0 (fun _ => true) false n 9 [c3] = some y3 := hg 3 (by decide)
      obtain ⟨s0', e0, r0, -⟩ := DataW.trod_string Tryd.underlying9 t0
      obtain ⟨s1, e1, r1, -⟩ := DataW.trod_string Tryd.underlying9 t1
      obtain ⟨s2, e2, r2, -⟩ := DataW.trod_string Tryd.underlying9 t2
      obtain ⟨s3, e3, r3, -⟩ := DataW.trod_string Tryd.underlying9 t3
      subst r0 r1 r2 r3
      simp only [DataW.lit.injEq, Lit.string.injEq] at x0 x1 x2 x3
      simp only [List.cons.injEq, and_true] at e0 e1 e2 e3
      have hc := fun j => World.var?_cell g0 hvar j
      refine ⟨(hc 0).trans ?_, (hc 1).trans ?_, (hc 2).trans ?_, (hc 3).trans ?_⟩
      · show some c0 = _; rw [e0, str_of x0.symm]
      · show some c1 = _; rw [e1, str_of x1.symm]
      · show some c2 = _; rw [e2, str_of x2.symm]
      · show some c3 = _; rw [e3, str_of x3.symm]
end Go.Proofs.YtcebockdfkjoiaaDoor
