/- The contracts of the reference's Seal and Raw. Conditions stand in each theorem. -/
import Derived.Test.YtcebockdfkjoiaaDoorZ
import Derived.Deep.RegionLaw
import Derived.Laws.CopyOwn
namespace Go.Proofs.YtcebockdfkjoiaaDoor
open Go.RowKit
set_option linter.unusedVariables false
set_option maxHeartbeats 4000000
set_option maxRecDepth 100000

theorem byt_chg {w w' : World} {g : Nat} {v : Value} {l : List UInt8} (h : Byt w v l) (hc : Chg (· = g) w w') (hs : 0 < l.length → ∀ b, v.ownBlock = some b → b ≠ g) : Byt w' v l := by
  obtain ⟨A, c, rfl, hcc, hr⟩ := h
  refine ⟨A, c, rfl, hcc, fun h0 => ?_⟩
  obtain ⟨b, o, rfl, hb, hh⟩ := hr h0
  exact ⟨b, o, rfl, Nat.lt_of_lt_of_le hb hc.size, fun j hj => cell_chg hc hb (hs h0 b rfl) (hh j hj)⟩
/-- append, and a call of a Go function, as steps of a region that draws its order. -/
theorem step_app {ops : Array Oper} {o : Oper} {a : Act} {W : World} {K : Act → World → Prop} {Q : Exit → Act → World → Prop} {E : Prop} (hgd : o.guard = none) (s x : Operand) (t : TypeId)
    (ho : o.op = .call { callee := .builtin .append, args := #[s, x], argTypes := #[t, t] }) (v xv v' : Value) (w' : World) (hs : a.eval s = v) (hx : a.eval x = xv)
    (hr : (Builtin.append_ #[t, t] o.type #[v, xv]).run Tryd.prog W = .ok v' w') (h : K (a.put o.dst v') w') :
    if Region.wanted o (yielded ops a.tmps) = true then Oper.wp Tryd.prog o a W K Q else E := by
  have hw : Region.wanted o (yielded ops a.tmps) = true := by simp [Region.wanted, hgd]
  rw [if_pos hw]
  unfold Oper.wp execOp
  simp only [ho, resolve, invoke, builtin, Sem.run_bind, Sem.run_pure, Result.andThen_ok, List.map_toArray, List.map_cons, List.map_nil, hs, hx, hr]
  exact h
theorem step_call {ops : Array Oper} {o : Oper} {a : Act} {W : World} {K : Act → World → Prop} {Q : Exit → Act → World → Prop} {E : Prop} {f : FuncId} {args : Array Value} {R : Ending → World → Prop} (hgd : o.guard = none)
    (xs : Array Operand) (ts : Array TypeId) (ho : o.op = .call { callee := .value (.func f), args := xs, argTypes := ts }) (hc : Calls Tryd.prog f args W R) (hrun : (execOp a.eval o).run Tryd.prog W = .ok (.enter f args) W) (h : ∀ e w', R e w' → ∃ v, e = .returned v ∧ K (a.put o.dst v) w') :
    if Region.wanted o (yielded ops a.tmps) = true then Oper.wp Tryd.prog o a W K Q else E := by
  have hw : Region.wanted o (yielded ops a.tmps) = true := by simp [Region.wanted, hgd]
  rw [if_pos hw]
  unfold Oper.wp
  rw [hrun, Oper.upon_enter]
  refine hc.mono fun e w' hr => ?_
  obtain ⟨v, rfl, hk⟩ := h e w' hr
  exact hk
/-- Seal sets the last four of 64 bytes. -/
theorem Seal_any (g cg : Nat) (l data : List UInt8) (v : Value) (w : World) (h : RowAt w g l) (hg : g < w.heap.size) (hl : l.length = 64) (hcg : 64 ≤ cg) (hd : Byt w v data) (hn : data.length ≤ 300) :
    Calls Tryd.prog 15 #[.slice (some ⟨g, 0, none⟩) 64 cg, v] w fun e w' => e = .returned (.tuple #[]) ∧ RowAt w' g (l.take 60 ++ putB (crc32 (data ++ l.take 60)) 4) ∧ Chg (· = g) w w' := by
  have hbyt := h.byt hg (c := cg) (by rw [hl]; exact hcg)
  obtain ⟨V2, e2, h2⟩ := slice_h (hi := 60) hbyt (by omega) (by omega)
  rw [hl] at e2
  replace e2 : ∀ W : World, (Instr.slice 26 (.slice (some ⟨g, 0, none⟩) 64 cg) none (some (.int .i64 60)) none).run Tryd.prog W = .ok V2 W := e2
  have l60 : (l.take 60).length = 60 := by rw [List.length_take]; omega
  have bd : Below w.heap.size w w.drew := (Below.refl _ _).drew
  obtain ⟨va, wa, vb, wb, hr1, hr2, ho, hbb⟩ := two_appends w.drew v V2 data (l.take 60) (hd.below bd) (h2.below bd) (by omega) (by omega)
  have Hr1 := Lib.hid hr1; have Hr2 := Lib.hid hr2
  have HB := Lib.hid (Byt.of_own ho)
  have hlen : (data ++ l.take 60).length = data.length + 60 := by rw [List.length_append, l60]
  have Hbb := Lib.hid (show Below w.heap.size w wb from bd.trans hbb)
  have hlt := crc32_lt (data ++ l.take 60)
  obtain ⟨q, hq⟩ : ∃ q, q = crc32 (data ++ l.take 60) := ⟨_, rfl⟩
  have HC := Lib.hid (refCRC32 vb _ wb HB.out (by rw [hlen]; unfold maxLen; omega))
  rw [← hq] at HC hlt
  have hp := put_any g cg l 60 q 4 4 wb rfl (h.below hg Hbb.out) (Nat.lt_of_lt_of_le hg Hbb.out.size) (by omega) (by omega) (by omega) (by omega)
  rw [hl] at hp
  have HP := Lib.hid hp
  have He := Lib.hid (show patch l 60 q 4 = l.take 60 ++ putB (crc32 (data ++ l.take 60)) 4 by rw [hq]; unfold patch; rw [List.drop_eq_nil_of_le (by omega), List.append_nil])
  obtain ⟨A0, c0, rfl, -, -⟩ := hd
  obtain ⟨A1, c1, hvb, -, -⟩ := HB.out
  subst hvb
  have Hr1' := Lib.hid (show (Builtin.append_ #[26, 26] 26 #[.slice (some ⟨w.heap.size, 0, none⟩) 0 0, .slice A0 data.length c0]).run Tryd.prog (w.alloc (.cells #[] 5)).drew = .ok va wa from hr1)
  have Hr2' := Lib.hid hr2
  have hwr : IntKind.u64.wrap (q : Int) = (q : Int) := by rw [IntKind.wrap_u64]; omega
  clear hr1 hr2 ho hbb hp hq hlen bd h2 hbyt l60
  go_enter Tryd.func15, Tryd.ntmps15
  go_wp2
  go_region_law (first | (refine step_app rfl (.tmp 5) (.tmp 6) 26 rfl _ _ va wa rfl rfl Hr1'.out ?_) | (refine step_app rfl (.tmp 7) (.tmp 9) 26 rfl _ _ _ wb rfl rfl Hr2'.out ?_) | (refine step_call (f := 26) rfl _ _ rfl HC.out (by go_simp) ?_; rintro e w' ⟨rfl, rfl⟩; refine ⟨_, rfl, ?_⟩) | (refine step_call (f := 25) rfl _ _ rfl (show Calls Tryd.prog 25 _ wb _ from HP.out) (by go_simp) ?_; rintro e w5 ⟨rfl, hrow, hch⟩; refine ⟨_, rfl, ?_⟩))
  go_wp2
  trace_state
  go_end0
  have hb5 : Chg (· = g) w w5 := (Chg.of_below Hbb.out : Chg (· = g) w wb).trans hch (fun i hi _ => hi)
  exact ⟨rfl, by rw [← He.out]; exact hrow, hb5⟩
end Go.Proofs.YtcebockdfkjoiaaDoor
