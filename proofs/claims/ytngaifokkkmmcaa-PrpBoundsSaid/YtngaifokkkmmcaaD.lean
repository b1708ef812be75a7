/- The laws of append at bytes; the contract of slices.Clone. Conditions: the sizes are below 2 to the 40. -/
import Derived.Test.YtngaifokkkmmcaaA
import Derived.Lib.AppendZerosOnto
namespace Go.Proofs.Ytngaifokkkmmcaa
open Go.RowKit
set_option linter.unusedVariables false
set_option maxHeartbeats 400000
set_option maxRecDepth 100000
theorem u8_info : (Try.prog.info? 5).map (fun i => (i.zero, i.size, i.bytes)) = some (some (.int .u8 0), 1, 1) := by kernel_rfl
theorem run_append_own_src (w : World) (base n : Nat) (v xv : Value) (l m : List UInt8) (ty : TypeId) (hown : w.ownsRow base 5 1 v n (bv l)) (hx : Byt w xv m) (hsz : n + m.length ≤ 1099511627776) (hbase : base ≤ w.heap.size) :
    ∃ v' w', (Builtin.append_ #[25, 25] ty #[v, xv]).run Try.prog w = .ok v' w' ∧ w'.ownsRow base 5 1 v' (n + m.length) (bv (l ++ m)) ∧ w.grownBy w' v.ownBlock ∧ (v'.ownBlock = v.ownBlock ∨ v'.ownBlock = some w.heap.size) := by
  obtain ⟨i0, hi0, hz0, hz1, hz2⟩ := info_parts u8_info
  obtain ⟨A, c, rfl, _, hr⟩ := hx
  rcases A with _ | a
  · have h0 : m.length = 0 := by
      rcases Nat.eq_zero_or_pos m.length with h | h
      · exact h
      · obtain ⟨_, _, h, _⟩ := hr h; cases h
    have hm : m = [] := List.eq_nil_of_length_eq_zero h0
    subst hm
    refine ⟨v, w, ?_, by simpa using hown, World.grownBy.refl _ _, .inl rfl⟩
    rcases hown.2 with ⟨rfl, rfl⟩ | ⟨g, cap, cur, rfl, _, _, hnc, _⟩
    · simp [Builtin.append_, run_underlying Try.underlying25, sizeOf, typeInfo, hi0, Builtin.lenOf, Builtin.firstCells]
    · simp [Builtin.append_, run_underlying Try.underlying25, sizeOf, typeInfo, hi0, Builtin.lenOf, Builtin.firstCells, hnc, storeCells]
  · have hnews : ∀ j u, (bv m)[j]? = some u → w.cell? (a.add j) = some u := by
      intro j u hu
      have hj : j < m.length := by
        rcases Nat.lt_or_ge j m.length with h | h
        · exact h
        · rw [List.getElem?_eq_none (by rw [bv_length]; exact h)] at hu; cases hu
      obtain ⟨g, o, e, _, hc⟩ := hr (by omega)
      cases e
      rw [bv_get hj] at hu
      rw [add_plain, hc j hj, hu]
    obtain ⟨v', w', hrun, h2, h3, _, h5⟩ := run_append_own_at (P := Try.prog) w base 25 ty 5 i0 (.int .u8 0) 1 1 Try.underlying25 hi0 hz0 hz1 hz2 rfl (by decide) v n (bv l) hown a m.length c (bv m) (by rw [bv_length]; omega) hnews (bv_one m) (by unfold maxLen; omega) (by omega) hbase
    exact ⟨v', w', hrun, by rw [bv_append]; exact h2, h3, h5⟩


theorem wpList_append_run {P : Program} {w : World} {ops : Array Oper} {rest : List Oper} {o : Oper} {a : Act} {Q : Exit → Act → World → Prop} (hgd : o.guard = none) (s x : Operand) (t tx : TypeId)
    (ho : o.op = .call { callee := .builtin .append, args := #[s, x], argTypes := #[t, tx] }) (v xv v' : Value) (w' : World) (hs : a.eval s = v) (hx : a.eval x = xv)
    (hr : (Builtin.append_ #[t, tx] o.type #[v, xv]).run P w = .ok v' w') (h : wpList P ops Q rest (a.put o.dst v') w') : wpList P ops Q (o :: rest) a w := by
  refine wpList_plain hgd fun K hK => ?_
  unfold Oper.wp execOp
  simp only [ho, resolve, invoke, builtin, Sem.run_bind, Sem.run_pure, Result.andThen_ok, List.map_toArray, List.map_cons, List.map_nil, hs, hx, hr]
  exact hK _ _ h

theorem byt_lit (w : World) (l : List UInt8) (fr : Nat × Nat := (0, 0)) : Byt (w.alloc (.cells (bv l).toArray 5 fr)) (.slice (some ⟨w.heap.size, 0, none⟩) l.length l.length) l := by
  refine ⟨_, l.length, rfl, Nat.le_refl _, fun _ => ⟨w.heap.size, 0, rfl, by simp, fun j hj => ?_⟩⟩
  rw [Nat.zero_add, cell_of_row _ w.heap.size j _ 5 fr (heap_alloc_new w _), List.getElem?_toArray, bv_get hj]
theorem zeroCells_list (k : Nat) : (Builtin.zeroCells (Value.int .u8 0).cells k).toList = bv (List.replicate k 0) := by
  apply List.ext_getElem?
  intro j
  by_cases hj : j < k
  · simp [Builtin.zeroCells, bv, Value.cells, hj, Nat.mod_one]
  · simp [Builtin.zeroCells, bv, Value.cells, hj]

theorem run_append_own_zeros (w : World) (base n k : Nat) (v : Value) (l : List UInt8) (ty : TypeId) (hown : w.ownsRow base 5 1 v n (bv l)) (hsz : n + k ≤ 1099511627776) (hbase : base ≤ w.heap.size) :
    ∃ v' w', (Builtin.append_ #[25, 3] ty #[v, .int .i64 (k : Int)]).run Try.prog w = .ok v' w' ∧ w'.ownsRow base 5 1 v' (n + k) (bv (l ++ List.replicate k 0)) ∧ w.grownBy w' v.ownBlock ∧ (v'.ownBlock = v.ownBlock ∨ v'.ownBlock = some w.heap.size) := by
  obtain ⟨i0, hi0, hz0, hz1, hz2⟩ := info_parts u8_info
  have hw : IntKind.i64.wrap (k : Int) = k := by rw [IntKind.wrap_i64]; omega
  have hneg : ¬ ((k : Int) < 0) := by omega
  have h48 : ¬ (281474976710656 < (k : Int) * (i0.bytes : Int)) := by rw [hz2]; omega
  have hln : (bv l).length = n := by have := hown.1; omega
  have hlen : (bv (l ++ List.replicate k 0)).length = (n + k) * 1 := by rw [bv_append, List.length_append, hln, bv_length]; simp
  have hgrow : ∀ (A : Option Addr) (cap : Nat), n ≤ cap → cap < n + k → 0 < k → (Builtin.firstCells i0.size n (.slice A n cap)).run Try.prog w.drew = .ok (bv l).toArray w.drew →
      ∃ v' w', (Builtin.append_ #[25, 3] ty #[.slice A n cap, .int .i64 (k : Int)]).run Try.prog w = .ok v' w' ∧ w'.ownsRow base 5 1 v' (n + k) (bv (l ++ List.replicate k 0)) ∧ (∀ row, w.grownBy w' row) ∧ v'.ownBlock = some w.heap.size := by
    intro A cap hnc hlt hk hold
    have hrun := Lib.run_append_grow_zeros (P := Try.prog) w 25 3 ty 5 i0 (.int .u8 0) .i64 .i64 Try.underlying25 Try.underlying3 hi0 hz0 A n cap (bv l) hold k hk (by omega) hlt (by omega) (by rw [hz2]; omega) (growslice_fits (by omega) (by rw [hz2]; omega))
    have hge := grownCap_ge w (n + k) cap 5
    have hcm : grownCap w (n + k) cap 5 ≤ maxLen := grownCap_le_maxLen w (n + k) cap 5 (by unfold maxLen; omega)
    refine ⟨_, _, hrun, ⟨hlen, .inr ⟨w.heap.size, _, _, rfl, hbase, heap_alloc_new w.drew _, hge, hcm, ?_, ?_⟩⟩, fun row => ⟨rfl, rfl, rfl, by simp, fun j hj _ => Below.heap_alloc w.drew _ j hj⟩, rfl⟩
    · simp only [Array.size_append, List.size_toArray, size_zeroCells, hln]
      simp [Value.cells]; omega
    · simp only [Array.toList_append]
      rw [zeroCells_list, ← bv_append, ← hlen]
      exact List.take_left
  rcases Nat.eq_zero_or_pos k with rfl | hk
  · refine ⟨v, w, ?_, by simpa using hown, World.grownBy.refl _ _, .inl rfl⟩
    rcases hown.2 with ⟨rfl, rfl⟩ | ⟨g, cap, cur, rfl, _, _, hnc, _⟩
    · simp [Builtin.append_, run_underlying Try.underlying25, run_underlying Try.underlying3, sizeOf, typeInfo, hi0, asInt, asIntOf, IntKind.wrap_i64]
    · simp [Builtin.append_, run_underlying Try.underlying25, run_underlying Try.underlying3, sizeOf, typeInfo, hi0, asInt, asIntOf, IntKind.wrap_i64, hnc, storeCells]
  · rcases hown.2 with ⟨rfl, rfl⟩ | ⟨g, cap, cur, rfl, hbg, hg, hnc, hcm, hcs, htake⟩
    · have hl0 : l = [] := List.eq_nil_of_length_eq_zero (by rw [bv_length] at hln; exact hln)
      subst hl0
      obtain ⟨v', w', h1, h2, h3, h4⟩ := hgrow none 0 (Nat.le_refl _) (by omega) hk (by simp [Builtin.firstCells, bv])
      exact ⟨v', w', h1, h2, h3 _, .inr h4⟩
    · by_cases hroom : n + k ≤ cap
      · have hst := run_storeCells_at Try.prog g n 5 (bv (List.replicate k 0)) 0 cur w hg (by rw [bv_length]; simp; omega) (bv_one _)
        simp only [Nat.add_zero] at hst
        have hkk : ¬ k = 0 := by omega
        refine ⟨.slice (some ⟨g, 0, none⟩) (n + k) cap, w.setRow g (cur.toList.take n ++ bv (List.replicate k 0) ++ cur.toList.drop (n + (bv (List.replicate k 0)).length)).toArray, ?_, ⟨hlen, .inr ⟨g, cap, _, rfl, hbg, setRow_heap w g cur _ 5 _ hg, hroom, hcm, ?_, ?_⟩⟩, ⟨rfl, rfl, rfl, by simp, fun j _ hj => setRow_other w g j _ (fun e => hj (by simp [Value.ownBlock, e]))⟩, .inl rfl⟩
        · simp [Builtin.append_, run_underlying Try.underlying25, run_underlying Try.underlying3, sizeOf, typeInfo, zeroValue, hi0, hz0, hz1, asInt, asIntOf, hw, hneg, h48, hkk, hroom, Addr.add_lit, zeroCells_list, hst]
        · simp only [List.size_toArray, List.length_append, List.length_take, List.length_drop, Array.length_toList, bv_length, List.length_replicate]
          omega
        · rw [Nat.mul_one] at htake
          rw [htake, ← bv_append, ← hlen]
          exact List.take_left
      · have hold : (Builtin.firstCells i0.size n (.slice (some ⟨g, 0, none⟩) n cap)).run Try.prog w.drew = .ok (bv l).toArray w.drew := by
          rw [hz1]
          exact run_firstCells_some w.drew 1 n _ n cap (bv l) (by omega) (fun j u hu => hown.cells (g := g) rfl j u hu)
        obtain ⟨v', w', h1, h2, h3, h4⟩ := hgrow (some ⟨g, 0, none⟩) cap hnc (by omega) hk hold
        exact ⟨v', w', h1, h2, h3 _, .inr h4⟩

/-- append of bytes onto a row of the call's own, at the list of a plain region. -/
theorem wpList_app {w : World} {ops : Array Oper} {rest : List Oper} {o : Oper} {a : Act} {Q : Exit → Act → World → Prop} (hgd : o.guard = none) (s x : Operand)
    (ho : o.op = .call { callee := .builtin .append, args := #[s, x], argTypes := #[25, 25] }) (base n : Nat) (v xv : Value) (l m : List UInt8) (hs : a.eval s = v) (hx : a.eval x = xv)
    (hown : w.ownsRow base 5 1 v n (bv l)) (hb : Byt w xv m) (hsz : n + m.length ≤ 1099511627776) (hbase : base ≤ w.heap.size)
    (h : ∀ A c w', Hid (w'.ownsRow base 5 1 (.slice A (n + m.length) c) (n + m.length) (bv (l ++ m))) → Hid (w.grownBy w' v.ownBlock) → wpList Try.prog ops Q rest (a.put o.dst (.slice A (n + m.length) c)) w') : wpList Try.prog ops Q (o :: rest) a w := by
  obtain ⟨v', w', hrun, h2, h3, _⟩ := run_append_own_src w base n v xv l m o.type hown hb hsz hbase
  obtain ⟨A, c, rfl⟩ := own_form h2
  exact wpList_append_run hgd s x 25 25 ho v xv _ w' hs hx hrun (h A c w' (Lib.hid h2) (Lib.hid h3))
theorem Clone_any (g o c0 : Nat) (l : List UInt8) (w : World) (h : Byt w (.slice (some ⟨g, o, none⟩) l.length c0) l) (hl : l.length ≤ 1099511627776) :
    Calls Try.prog 42 #[.slice (some ⟨g, o, none⟩) l.length c0] w fun e w' => (∃ A c, e = .returned (.slice A l.length c) ∧ w'.ownsRow w.heap.size 5 1 (.slice A l.length c) l.length (bv l)) ∧ Below w.heap.size w w' := by
  have hq : ∀ (w : World) (a : Option Addr) (n c n' c' : Nat), (binOp .eql 25 (.slice a n c) (.slice none n' c')).run Try.prog w = .ok (.bool a.isNone) w := fun w a n c n' c' => Lib.run_eql_slice_nil w _ _ a n c n' c' Try.underlying25
  have hb := h.below (below_alloc w (.cells #[] 5))
  have HB := Lib.hid hb
  clear hb h
  go_enter Try.func42, Try.ntmps42
  go_wp2_with (at_builtin; refine wpList_app rfl (.tmp 5) (.tmp 6) rfl w.heap.size 0 _ _ [] l rfl rfl ?q1 HB.out ?q2 ?q3 ?_)
  case q1 => exact World.ownsRow_made w #[] 0 (Nat.le_refl _) (Nat.zero_le _) (by simp)
  case q2 => omega
  case q3 => simp
  intro A c w1 H1 H2
  have H3 : Hid (w1.ownsRow w.heap.size 5 1 (.slice A l.length c) l.length (bv l)) := Lib.hid (by simpa using H1.out)
  clear H1
  go_wp2
  go_ret
  exact ⟨⟨_, _, rfl, H3.out⟩, ((Below.refl _ w).alloc (Nat.le_refl _) _).grown H2.out (by simp) (by intro k hk; simp [Value.ownBlock] at hk; omega)⟩
theorem elem29 : Try.prog.elem 25 = 5 := by kernel_rfl
theorem under29e : Try.prog.underlying 25 = some (.slice (Try.prog.elem 25)) := by rw [elem29]; exact Try.underlying25
section
variable {w : World} {base b d cap : Nat} {m : Mm}
theorem part_any (h : Mem w base b d cap m) (a n : Nat) (hn : a + n ≤ m.B.length) (hx : m.B.length ≤ 4194304) : Calls Try.prog 43 #[.pointer (some ⟨b, 0, none⟩), .int .u64 (a : Int), .int .i64 (n : Int)] w fun e w' => (∃ o c, e = .returned (.slice (some ⟨d, o, none⟩) n c) ∧ n ≤ c ∧ (0 < n → o = a)) ∧ w = w' := by
  have c1 := h.dcell
  obtain ⟨_, hcap, _⟩ := h.row
  obtain ⟨N, hN⟩ : ∃ N, N = m.B.length := ⟨_, rfl⟩
  rw [← hN] at c1 hcap hn hx
  clear hN h
  obtain ⟨i0, hi0, hz0, hz1, hz2⟩ := info_parts u8_info
  have hsl : ∃ o c, (∀ W : World, (Instr.slice 25 (.slice (some ⟨d, 0, none⟩) N cap) (some (.int .i64 (a : Int))) (some (.int .i64 ((a : Int) + (n : Int)))) (some (.int .i64 ((a : Int) + (n : Int))))).run Try.prog W = .ok (.slice (some ⟨d, o, none⟩) n c) W) ∧ n ≤ c ∧ (0 < n → o = a) := by
    rcases Nat.eq_zero_or_pos n with h0 | h0
    · refine ⟨0, n, fun W => ?_, Nat.le_refl _, fun h => absurd h (by omega)⟩
      rw [run_slice_lhm (P := Try.prog) (w := W) (t := 25) (a := some ⟨d, 0, none⟩) (len := N) (cap := cap) (ht := under29e) .i64 .i64 .i64 a ((a : Int) + (n : Int)) ((a : Int) + (n : Int)) (by omega) (by omega) (by omega) (by omega)]
      subst h0
      simp [sizeOf, typeInfo, elem29, hi0, hz1, sliced]
    · refine ⟨a, n, fun W => ?_, Nat.le_refl _, fun h => rfl⟩
      rw [run_slice_lhm (P := Try.prog) (w := W) (t := 25) (a := some ⟨d, 0, none⟩) (len := N) (cap := cap) (ht := under29e) .i64 .i64 .i64 a ((a : Int) + (n : Int)) ((a : Int) + (n : Int)) (by omega) (by omega) (by omega) (by omega)]
      have e1 : ((a : Int) + (n : Int)).toNat = a + n := by omega
      have e2 : ¬ a + n = a := by omega
      simp [sizeOf, typeInfo, elem29, hi0, hz1, sliced, e1, add_plain]
      omega
  obtain ⟨o, c, hr, hc, ho⟩ := hsl
  have HO := Lib.hid ho
  have ha : IntKind.i64.wrap (a : Int) = (a : Int) := by rw [IntKind.wrap_i64]; omega
  have hs : IntKind.i64.wrap ((a : Int) + (n : Int)) = (a : Int) + (n : Int) := by rw [IntKind.wrap_i64]; omega
  have hs2 : wrap64 ((a : Int) + (n : Int)) = (a : Int) + (n : Int) := by unfold wrap64; omega
  clear ho
  go_enter Try.func43, Try.ntmps43
  go_wp2
  go_ret
  exact ⟨⟨o, c, rfl, hc, HO.out⟩, rfl⟩
end
end Go.Proofs.Ytngaifokkkmmcaa
