/- A drawn region of Spans' loop. Conditions stand in each theorem. -/
import Derived.Test.YtngaifokkkmmcaaST
import Derived.Lib.MinMax
namespace Go.Proofs.Ytngaifokkkmmcaa
open Go.RowKit Go.Shelf
attribute [local go_sem] Oper.semAt_some
set_option linter.unusedVariables false
set_option maxHeartbeats 4000000
set_option maxRecDepth 100000
/-- The frame of Spans' loop in a round. -/
abbrev T20 (b n0 gw qr q1 fs sc N nn : Nat) (u v x : Value) : Array Value :=
  #[.pointer (some ⟨b, 0, none⟩), .int .u64 (fs : Int), .int .u64 (sc : Int), .int .i64 (nn : Int), undef, undef, undef, undef, .pointer (some ⟨n0, 0, none⟩), .pointer (some ⟨n0 + 1, 0, none⟩), .pointer (some ⟨gw, 0, none⟩), .pointer (some ⟨qr, 0, none⟩), undef, u, undef,
    .func (.func 46) #[] #[.pointer (some ⟨n0, 0, none⟩), .pointer (some ⟨n0 + 1, 0, none⟩)], .pointer (some ⟨b, 0, none⟩), .int .i64 (nn : Int), .tuple #[], .pointer (some ⟨b, 0, none⟩), .int .u64 (fs : Int), .int .u64 (sc : Int), .int .u64 (fs : Int), .int .i64 (nn : Int), .int .i64 (N : Int),
    .agg #[.pointer (some ⟨b, 0, none⟩), .int .u64 (fs : Int), .int .u64 (sc : Int), .int .i64 (N : Int), .int .u64 0], .int .i64 (nn : Int), .pointer (some ⟨gw, 3, none⟩), .int .i64 (N : Int), .func (.func 48) #[.pointer (some ⟨gw, 0, none⟩)] #[],
    .func (.func 63) #[] #[.pointer (some ⟨q1, 0, none⟩), .pointer (some ⟨q1 + 1, 0, none⟩)], v, x, undef, undef, undef, undef, undef, undef, undef, undef, undef, undef, undef, undef, undef, undef, undef, undef, undef, undef, undef, undef, undef, undef, undef]
/-- The operations of the region. -/
abbrev rg7 : Array Oper := #[{ dst := some 33, op := Op.move (Operand.tmp 13), type := 23, pos := "prp.go:40", after := #[], guard := none }, { dst := some 34, op := Op.load 3 (Operand.tmp 11), type := 3, pos := "prp.go:40", after := #[], guard := none }, { dst := some 35, op := Op.move (Operand.tmp 13), type := 23, pos := "prp.go:40", after := #[], guard := none }, { dst := some 36, op := Op.call { callee := Callee.value (Operand.func 49), args := #[Operand.tmp 35], argTypes := #[23] }, type := 3, pos := "prp.go:40", after := #[{ on := 2, ground := Ground.data }], guard := none }, { dst := some 37, op := Op.call { callee := Callee.builtin Builtin.min, args := #[Operand.tmp 34, Operand.tmp 36], argTypes := #[3, 3] }, type := 3, pos := "prp.go:40", after := #[{ on := 1, ground := Ground.data }, { on := 3, ground := Ground.data }], guard := none }, { dst := some 38, op := Op.build 42 #[(0, Operand.tmp 33), (1, Operand.tmp 37)], type := 42, pos := "prp.go:40", after := #[{ on := 0, ground := Ground.data }, { on := 4, ground := Ground.data }], guard := none }, { dst := some 14, op := Op.alloc 42, type := 0, pos := "prp.go:40", after := #[], guard := none }, { dst := none, op := Op.store 42 (Operand.tmp 14) (Operand.tmp 38), type := 0, pos := "prp.go:40", after := #[{ on := 6, ground := Ground.data }, { on := 5, ground := Ground.data }, { on := 3, ground := Ground.chain }, { on := 0, ground := Ground.phase }, { on := 1, ground := Ground.phase }, { on := 2, ground := Ground.phase }, { on := 3, ground := Ground.phase }, { on := 4, ground := Ground.phase }, { on := 5, ground := Ground.phase }, { on := 6, ground := Ground.phase }], guard := none }]
/-- The frame behind it. -/
abbrev T27 (b n0 gw qr q1 fs sc N nn s x r z : Nat) (k : Int) : Array Value :=
  #[.pointer (some ⟨b, 0, none⟩), .int .u64 (fs : Int), .int .u64 (sc : Int), .int .i64 (nn : Int), undef, undef, undef, undef, .pointer (some ⟨n0, 0, none⟩), .pointer (some ⟨n0 + 1, 0, none⟩), .pointer (some ⟨gw, 0, none⟩), .pointer (some ⟨qr, 0, none⟩), undef, .int .u64 (x : Int), .pointer (some ⟨s, 0, none⟩),
    .func (.func 46) #[] #[.pointer (some ⟨n0, 0, none⟩), .pointer (some ⟨n0 + 1, 0, none⟩)], .pointer (some ⟨b, 0, none⟩), .int .i64 (nn : Int), .tuple #[], .pointer (some ⟨b, 0, none⟩), .int .u64 (fs : Int), .int .u64 (sc : Int), .int .u64 (fs : Int), .int .i64 (nn : Int), .int .i64 (N : Int),
    .agg #[.pointer (some ⟨b, 0, none⟩), .int .u64 (fs : Int), .int .u64 (sc : Int), .int .i64 (N : Int), .int .u64 0], .int .i64 (nn : Int), .pointer (some ⟨gw, 3, none⟩), .int .i64 (N : Int), .func (.func 48) #[.pointer (some ⟨gw, 0, none⟩)] #[],
    .func (.func 63) #[] #[.pointer (some ⟨q1, 0, none⟩), .pointer (some ⟨q1 + 1, 0, none⟩)], .int .i64 k, .int .u64 (x : Int), .int .u64 (x : Int), .int .i64 (r : Int), .int .u64 (x : Int), .int .i64 (te x : Int), .int .i64 (z : Int), .agg #[.int .u64 (x : Int), .int .i64 (z : Int), .bool false], undef, undef, undef, undef, undef, undef, undef, undef, undef, undef, undef, undef, undef, undef, undef, undef, undef]
theorem region7 {l : Nat} {b n0 gw qr q1 fs sc N nn x r z k : Nat} {W : World} {K : Act → World → Prop} {Q : Exit → Act → World → Prop} (hr : W.heap[qr]? = some (.cells #[.int .i64 (r : Int)] 3 (0, 0))) (hx : x < 18446744073709551616) (hz : z = min r (te x))
    (hK : K { tmps := T27 b n0 gw qr q1 fs sc N nn W.heap.size x r z (k : Int), defers := [] } (W.alloc (.cells #[.int .u64 (x : Int), .int .i64 (z : Int), .bool false] 42)).drew) :
    (Code.region 7 rg7 true).wpIn (Fence.wide.inRound l) 9 Try.prog (Exit.then K Q) { tmps := T20 b n0 gw qr q1 fs sc N nn (.int .u64 (x : Int)) (.int .i64 (k : Int)) (.int .u64 (x : Int)), defers := [] } W := by
  have hmin : min (r : Int) (te x : Int) = (z : Int) := by omega
  have HK := Lib.hid hK
  have cr := cell_of_row W qr 0 _ 3 (0, 0) hr
  have HT := Lib.hid (fun W' => toEnd_any x W' hx)
  have hmix : Try.prog.follows .mixedOrders = true := by kernel_rfl
  have hci := fun (W' : World) (n : Nat) => (CallsIn.inRound l ((callsIn_wide (n := n)).2 (HT.out W')) : CallsIn (Fence.wide.inRound l) n Try.prog 49 #[.int .u64 (x : Int)] W' _)
  have hql : qr < W.heap.size := (Array.getElem?_eq_some_iff.1 hr).1
  have hqne : qr ≠ W.heap.size := by omega
  have ca := fun (o : Obj) => (Below.cell (p := ⟨qr, 0, none⟩) (((Below.refl W.heap.size W).drew.alloc (Nat.le_refl _) o)) hql).trans cr
  clear hK hz hx hr
  dsimp only [T20, rg7]
  gi_region_with_o (refine ⟨trivial, ?_⟩; gi_at_call 49; (with_reducible refine (hci _ _).mono ?_); rintro e w0 ⟨rfl, rfl⟩)
  all_goals first | exact HK.out | (rw [hmin]; exact HK.out)
end Go.Proofs.Ytngaifokkkmmcaa
