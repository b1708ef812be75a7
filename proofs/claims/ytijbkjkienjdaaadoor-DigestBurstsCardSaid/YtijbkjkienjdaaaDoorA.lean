/- The contracts of Own and Same, and the words for the tables and for rows of bytes. Conditions stand in each theorem. -/
import Derived.Test.YtijbkjkienjdaaaDoorRows
import Derived.Test.YtijbkjkienjdaaaDoorWords
import Derived.Test.YtijbkjkienjdaaaDoorM
import Derived.WalkKit
import Derived.ProofKit
import Derived.OpenShut
import Derived.Handy
import Derived.Outline
import Derived.Lib.LaidTab
import Derived.WalkSpells
import Derived.Laws.BitsAll
namespace Go.Proofs.YtijbkjkienjdaaaDoor
open Go.RowKit
set_option linter.unusedVariables false
set_option maxHeartbeats 400000
theorem u8_info : (Tryd.prog.info? 5).map (fun i => (i.zero, i.size, i.bytes)) = some (some (.int .u8 0), 1, 1) := by kernel_rfl
theorem ret_int {k : IntKind} {a b : Int} (h : a = b) : Ending.returned (.int k a) = .returned (.int k b) := by rw [h]
theorem run_append_own_src (w : World) (base n : Nat) (v xv : Value) (l m : List UInt8) (ty : TypeId) (hown : w.ownsRow base 5 1 v n (bv l)) (hx : Byt w xv m) (hsz : n + m.length ≤ 1099511627776) (hbase : base ≤ w.heap.size) :
    ∃ v' w', (Builtin.append_ #[22, 22] ty #[v, xv]).run Tryd.prog w = .ok v' w' ∧ w'.ownsRow base 5 1 v' (n + m.length) (bv (l ++ m)) ∧ w.grownBy w' v.ownBlock ∧ (v'.ownBlock = v.ownBlock ∨ v'.ownBlock = some w.heap.size) := by
  obtain ⟨i0, hi0, hz0, hz1, hz2⟩ := info_parts u8_info
  obtain ⟨A, c, rfl, _, hr⟩ := hx
  rcases A with _ | a
  · have h0 : m.length = 0 := by
      rcases Nat.eq_zero_or_pos m.length with h | h
      · exact h
      · obtain ⟨_, _, h, _⟩ := hr h; cases h
    have hm : m = [] := List.eq_nil_of_length_eq_zero h0
    subst hm
    refine ⟨v, w, ?_, by simpa using hown, World.grownBy.refl _ _, .inl rfl⟩
    rcases hown.2 with ⟨rfl, rfl⟩ | ⟨g, cap, cur, rfl, _, _, hnc, _⟩
    · simp [Builtin.append_, run_underlying Tryd.underlying22, sizeOf, typeInfo, hi0, Builtin.lenOf, Builtin.firstCells]
    · simp [Builtin.append_, run_underlying Tryd.underlying22, sizeOf, typeInfo, hi0, Builtin.lenOf, Builtin.firstCells, hnc, storeCells]
  · have hnews : ∀ j u, (bv m)[j]? = some u → w.cell? (a.add j) = some u := by
      intro j u hu
      have hj : j < m.length := by
        rcases Nat.lt_or_ge j m.length with h | h
        · exact h
        · rw [List.getElem?_eq_none (by rw [bv_length]; exact h)] at hu; cases hu
      obtain ⟨g, o, e, _, hc⟩ := hr (by omega)
      cases e
      rw [bv_get hj] at hu
      rw [add_plain, hc j hj, hu]
    obtain ⟨v', w', hrun, h2, h3, _, h5⟩ := run_append_own_at (P := Tryd.prog) w base 22 ty 5 i0 (.int .u8 0) 1 1 Tryd.underlying22 hi0 hz0 hz1 hz2 rfl (by decide) v n (bv l) hown a m.length c (bv m) (by rw [bv_length]; omega) hnews (bv_one m) (by unfold maxLen; omega) (by omega) hbase
    exact ⟨v', w', hrun, by rw [bv_append]; exact h2, h3, h5⟩


theorem wpList_append_run {P : Program} {w : World} {ops : Array Oper} {rest : List Oper} {o : Oper} {a : Act} {Q : Exit → Act → World → Prop} (hgd : o.guard = none) (s x : Operand) (t tx : TypeId)
    (ho : o.op = .call { callee := .builtin .append, args := #[s, x], argTypes := #[t, tx] }) (v xv v' : Value) (w' : World) (hs : a.eval s = v) (hx : a.eval x = xv)
    (hr : (Builtin.append_ #[t, tx] o.type #[v, xv]).run P w = .ok v' w') (h : wpList P ops Q rest (a.put o.dst v') w') : wpList P ops Q (o :: rest) a w := by
  refine wpList_plain hgd fun K hK => ?_
  unfold Oper.wp execOp
  simp only [ho, resolve, invoke, builtin, Sem.run_bind, Sem.run_pure, Result.andThen_ok, List.map_toArray, List.map_cons, List.map_nil, hs, hx, hr]
  exact hK _ _ h

theorem byt_lit (w : World) (l : List UInt8) (fr : Nat × Nat := (0, 0)) : Byt (w.alloc (.cells (bv l).toArray 5 fr)) (.slice (some ⟨w.heap.size, 0, none⟩) l.length l.length) l := by
  refine ⟨_, l.length, rfl, Nat.le_refl _, fun _ => ⟨w.heap.size, 0, rfl, by simp, fun j hj => ?_⟩⟩
  rw [Nat.zero_add, cell_of_row _ w.heap.size j _ 5 fr (heap_alloc_new w _), List.getElem?_toArray, bv_get hj]
theorem Same_eq (v1 v2 : Value) (l : List UInt8) (w : World) (h1 : Byt w v1 l) (h2 : Byt w v2 l) : Calls Tryd.prog 14 #[v1, v2] w fun e w' => e = .returned (.bool true) ∧ w = w' := by
  have r1 := run_string 22 9 5 Tryd.underlying22 Tryd.underlying5 Tryd.underlying9 h1
  have r2 := run_string 22 9 5 Tryd.underlying22 Tryd.underlying5 Tryd.underlying9 h2
  clear h1 h2
  go_enter Tryd.func14, Tryd.ntmps14
  go_wp2
  go_ret
  exact ⟨rfl, rfl⟩
theorem Own_any (v : Value) (l : List UInt8) (w : World) (h : Byt w v l) (hl : l.length ≤ 1099511627776) :
    Calls Tryd.prog 11 #[v] w fun e w' => (∃ r, e = .returned r ∧ w'.ownsRow w.heap.size 5 1 r l.length (bv l)) ∧ Below w.heap.size w w' := by
  obtain ⟨v1, w1, hrun, h2, h3, -⟩ := run_append_own_src w w.heap.size 0 (.slice none 0 0) v [] l 22 (World.ownsRow_nil _ _ _ _) h (by omega) (Nat.le_refl _)
  have Hrun := Lib.hid hrun
  have H2 := Lib.hid (show w1.ownsRow w.heap.size 5 1 v1 l.length (bv l) by simpa using h2)
  have H3 := Lib.hid (show Below w.heap.size w w1 from (Below.refl _ _).grown h3 (Nat.le_refl _) (fun b hb => by simp [Value.ownBlock] at hb))
  clear hrun h2 h3 h
  go_enter Tryd.func11, Tryd.ntmps11
  go_wp2_with (at_builtin; refine wpList_append_run rfl (.const (.slice none 0 0)) (.tmp 3) 22 22 rfl _ _ _ w1 rfl rfl Hrun.out ?_)
  go_ret
  exact ⟨⟨_, rfl, H2.out⟩, H3.out⟩

/-- Both tables lie as the program's text lays them. -/
structure Tabs (w : World) : Prop where
  a : ∀ i : Nat, i < 16 → w.cell? ⟨0, i, none⟩ = some (.int .u32 (it f32 4 i : Nat))
  b : ∀ i : Nat, i < 16 → w.cell? ⟨1, i, none⟩ = some (.int .u16 (it f16 4 (2 ^ 12 * i) : Nat))
  size : 2 ≤ w.heap.size
theorem Tabs.below {w w' : World} (h : Tabs w) (hb : Below w.heap.size w w') : Tabs w' :=
  ⟨fun i hi => (hb.cell (p := ⟨0, i, none⟩) (by have := h.size; show 0 < _; omega)).trans (h.a i hi), fun i hi => (hb.cell (p := ⟨1, i, none⟩) (by have := h.size; show 1 < _; omega)).trans (h.b i hi), Nat.le_trans h.size hb.size⟩
theorem and15_32 (x : Nat) (h : x < 4294967296) : bits .and .u32 (x : Int) 15 = ((x % 16 : Nat) : Int) := by
  rw [show (15 : Int) = ((15 : Nat) : Int) by rfl, u32_and_nat x 15 h (by decide), show (15 : Nat) = 2 ^ 4 - 1 by decide, Nat.and_two_pow_sub_one_eq_mod]
theorem step32_any (s : Nat) (c : UInt8) (w : World) (h : Tabs w) (hs : s < 4294967296) : Calls Tryd.prog 26 #[.int .u32 s, .int .u8 (c.toNat : Int)] w fun e w' => e = .returned (.int .u32 (step32 s c.toNat : Nat)) ∧ w = w' := by
  have hc := byte_lt c
  have HT := Lib.hid (table32 s c.toNat)
  have e1 := u32_xor_nat s c.toNat hs (by omega)
  have hx : s ^^^ c.toNat < 4294967296 := Nat.xor_lt_two_pow (n := 32) hs (by omega)
  generalize s ^^^ c.toNat = x at *
  have t1 := h.a (x % 16) (by omega)
  have e2 := and15_32 x hx
  have ht1 : it f32 4 (x % 16) < 4294967296 := it32_lt (by omega)
  have hr : x % 16 < 16 := by omega
  generalize it f32 4 (x % 16) = t at *
  have e3 : bits .xor .u32 ((x : Int) / 16) (t : Int) = ((x / 16 ^^^ t : Nat) : Int) := u32_xor_nat (x / 16) t (by omega) (by omega)
  have hy : x / 16 ^^^ t < 4294967296 := Nat.xor_lt_two_pow (n := 32) (by omega) (by omega)
  generalize x / 16 ^^^ t = y at *
  have t2 := h.a (y % 16) (by omega)
  have e4 := and15_32 y hy
  have ht2 : it f32 4 (y % 16) < 4294967296 := it32_lt (by omega)
  have hr2 : y % 16 < 16 := by omega
  generalize it f32 4 (y % 16) = u at *
  have e5 : bits .xor .u32 ((y : Int) / 16) (u : Int) = ((y / 16 ^^^ u : Nat) : Int) := u32_xor_nat (y / 16) u (by omega) (by omega)
  rw [HT.out] at e5
  generalize x % 16 = r at *
  generalize y % 16 = r2 at *
  have hr' : (r : Int) < 16 := by omega
  have hr2' : (r2 : Int) < 16 := by omega
  have hr0 : (0 : Int) ≤ r := by omega
  have hr20 : (0 : Int) ≤ r2 := by omega
  clear HT h
  go_enter Tryd.func26, Tryd.ntmps26
  go_wp2
  go_ret
  exact ⟨rfl, rfl⟩
theorem step16_any (s : Nat) (c : UInt8) (w : World) (h : Tabs w) (hs : s < 65536) : Calls Tryd.prog 28 #[.int .u16 s, .int .u8 (c.toNat : Int)] w fun e w' => e = .returned (.int .u16 (step16 s c.toNat : Nat)) ∧ w = w' := by
  have hc := byte_lt c
  have hx : s ^^^ c.toNat * 256 < 65536 := Nat.xor_lt_two_pow (n := 16) hs (by omega)
  have HT := Lib.hid (table16 s c.toNat hx)
  have e1 : bits .xor .u16 (s : Int) ((c.toNat : Int) * 256) = ((s ^^^ c.toNat * 256 : Nat) : Int) := u16_xor_nat s (c.toNat * 256) hs (by omega)
  generalize s ^^^ c.toNat * 256 = x at *
  have t1 := h.b (x / 4096) (by omega)
  have ht1 : it f16 4 (2 ^ 12 * (x / 4096)) < 65536 := it16_lt (by omega)
  generalize it f16 4 (2 ^ 12 * (x / 4096)) = t at *
  have e3 : bits .xor .u16 (IntKind.u16.wrap ((x : Int) * 16)) (t : Int) = ((x * 16 % 65536 ^^^ t : Nat) : Int) := by rw [IntKind.wrap_u16]; exact u16_xor_nat (x * 16 % 65536) t (by omega) (by omega)
  have hy : x * 16 % 65536 ^^^ t < 65536 := Nat.xor_lt_two_pow (n := 16) (by omega) (by omega)
  generalize x * 16 % 65536 ^^^ t = y at *
  have t2 := h.b (y / 4096) (by omega)
  have ht2 : it f16 4 (2 ^ 12 * (y / 4096)) < 65536 := it16_lt (by omega)
  generalize it f16 4 (2 ^ 12 * (y / 4096)) = u at *
  have e5 : bits .xor .u16 (IntKind.u16.wrap ((y : Int) * 16)) (u : Int) = ((y * 16 % 65536 ^^^ u : Nat) : Int) := by rw [IntKind.wrap_u16]; exact u16_xor_nat (y * 16 % 65536) u (by omega) (by omega)
  rw [HT.out] at e5
  have hr' : (x : Int) / 4096 < 16 := by omega
  have hr2' : (y : Int) / 4096 < 16 := by omega
  have hr0 : (0 : Int) ≤ (x : Int) / 4096 := by omega
  have hr20 : (0 : Int) ≤ (y : Int) / 4096 := by omega
  have t1' : w.cell? ⟨1, ((x : Int) / 4096).toNat, none⟩ = some (.int .u16 t) := by rw [show ((x : Int) / 4096).toNat = x / 4096 by omega]; exact t1
  have t2' : w.cell? ⟨1, ((y : Int) / 4096).toNat, none⟩ = some (.int .u16 u) := by rw [show ((y : Int) / 4096).toNat = y / 4096 by omega]; exact t2
  clear HT h
  go_enter Tryd.func28, Tryd.ntmps28
  go_wp2
  go_ret
  exact ⟨rfl, rfl⟩
end Go.Proofs.YtijbkjkienjdaaaDoor
