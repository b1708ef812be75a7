/- FlashNone, whatever the call; a call that came in is opened. No condition. -/
import Derived.Test.YtddejcoagcaidaaCC
import Derived.Test.YtddejcoagcaidaaCN
import Derived.Test.YtddejcoagcaidaaCD
import Derived.Test.YtddejcoagcaidaaBG
namespace Go.Proofs.Ytddejcoagcaidaa
open Go.ChangeShapes Go.WideShapes Go.ChangeAt Go.RowKit
set_option linter.unusedVariables false
theorem none_any (wh bl pg : Int) (vd vs : Value) (x y : List UInt8) (z : Bool) (w : World) (hx : Byt w vd x) (hy : Byt w vs y) :
    Calls Try.prog 6 #[.agg #[.int .i64 wh, .int .i64 bl, .int .i64 pg, vd, vs], .bool z] w fun e w' => e = .returned (.bool true) ∧ Below w.heap.size w w' := by
  obtain ⟨Ax, nx, rfl⟩ := byt_form hx
  obtain ⟨Ay, ny, rfl⟩ := byt_form hy
  cases hfb : fewB [⟨wh, bl, pg, .slice Ax x.length nx, .slice Ay y.length ny, x, y⟩] 1
  · exact none_few wh bl pg Ax Ay nx ny x y z w hx hy hfb
  · cases z
    · exact none_nil wh bl pg Ax Ay nx ny x y w hx hy hfb
    · exact none_zero wh bl pg Ax Ay nx ny x y w hx hy hfb
set_option maxRecDepth 100000 in
theorem open_act {H : Type} {enc : TypeId × Value → H} {W : World} {base : Nat} {v : Value} {d : DataW H} {ps : List MemPlace} (hval : Value.okWide Try.prog W .any base 43 v) (h : DataW.Trod enc Try.prog W 0 (fun _ => true) true 43 v d ps) :
    ∃ e : KA, v = .agg #[.int .i64 e.wh, .int .i64 e.bl, .int .i64 e.pg, e.vd, e.vs] ∧ KA.ok W e := by
  obtain ⟨cs, rfl, hsz⟩ := okWide_struct Try.underlying43 hval
  obtain ⟨fuel, hf⟩ := h
  obtain ⟨l⟩ := cs
  match l, hsz.trans cells43 with
  | [c0, c1, c2, c3, c4], _ =>
    obtain ⟨e, e0, e1, e2, e3, e4, hok⟩ := open_act5 (show DataW.trod enc Try.prog W 0 (fun _ => true) true fuel 43 [c0, c1, c2, c3, c4] = some (d, ps) by simpa [Value.cells] using hf)
    subst e0 e1 e2 e3 e4
    exact ⟨e, rfl, hok⟩
end Go.Proofs.Ytddejcoagcaidaa
