/- The contracts of the Writer's methods Zero, AddAll and Add where they succeed. Condition: the pointer leads to a writer. -/
import Derived.Test.YtajlddgemkkcdaaWC
import Derived.Lib.AppendZerosOnto
import Derived.Deep.RegionWith
import Derived.StillTailTactics
import Derived.Deep.RegionHeld3
namespace Go.Proofs.Ytajlddgemkkcdaa
open Go.RowKit
set_option linter.unusedVariables false
set_option maxRecDepth 100000
set_option maxHeartbeats 400000

theorem zeroCells_list (k : Nat) : (Builtin.zeroCells (Value.int .u8 0).cells k).toList = bv (List.replicate k 0) := by
  apply List.ext_getElem?
  intro j
  by_cases hj : j < k
  · simp [Builtin.zeroCells, bv, Value.cells, hj, Nat.mod_one]
  · simp [Builtin.zeroCells, bv, Value.cells, hj]
theorem run_append_own_zeros (w : World) (base n k : Nat) (v : Value) (l : List UInt8) (ty : TypeId) (hown : w.ownsRow base 5 1 v n (bv l)) (hsz : n + k ≤ 1099511627776) (hbase : base ≤ w.heap.size) :
    ∃ v' w', (Builtin.append_ #[24, 3] ty #[v, .int .i64 (k : Int)]).run Try.prog w = .ok v' w' ∧ w'.ownsRow base 5 1 v' (n + k) (bv (l ++ List.replicate k 0)) ∧ w.grownBy w' v.ownBlock ∧ (v'.ownBlock = v.ownBlock ∨ v'.ownBlock = some w.heap.size) := by
  obtain ⟨i0, hi0, hz0, hz1, hz2⟩ := info_parts u8_info
  have hw : IntKind.i64.wrap (k : Int) = k := by rw [IntKind.wrap_i64]; omega
  have hneg : ¬ ((k : Int) < 0) := by omega
  have h48 : ¬ (281474976710656 < (k : Int) * (i0.bytes : Int)) := by rw [hz2]; omega
  have hln : (bv l).length = n := by have := hown.1; omega
  have hlen : (bv (l ++ List.replicate k 0)).length = (n + k) * 1 := by rw [bv_append, List.length_append, hln, bv_length]; simp
  have hgrow : ∀ (A : Option Addr) (cap : Nat), n ≤ cap → cap < n + k → 0 < k → (Builtin.firstCells i0.size n (.slice A n cap)).run Try.prog w.drew = .ok (bv l).toArray w.drew →
      ∃ v' w', (Builtin.append_ #[24, 3] ty #[.slice A n cap, .int .i64 (k : Int)]).run Try.prog w = .ok v' w' ∧ w'.ownsRow base 5 1 v' (n + k) (bv (l ++ List.replicate k 0)) ∧ (∀ row, w.grownBy w' row) ∧ v'.ownBlock = some w.heap.size := by
    intro A cap hnc hlt hk hold
    have hrun := Lib.run_append_grow_zeros (P := Try.prog) w 24 3 ty 5 i0 (.int .u8 0) .i64 .i64 Try.underlying24 Try.underlying3 hi0 hz0 A n cap (bv l) hold k hk (by omega) hlt (by omega) (by rw [hz2]; omega) (growslice_fits (by omega) (by rw [hz2]; omega))
    have hge := grownCap_ge w (n + k) cap 5
    have hcm : grownCap w (n + k) cap 5 ≤ maxLen := grownCap_le_maxLen w (n + k) cap 5 (by unfold maxLen; omega)
    refine ⟨_, _, hrun, ⟨hlen, .inr ⟨w.heap.size, _, _, rfl, hbase, heap_alloc_new w.drew _, hge, hcm, ?_, ?_⟩⟩, fun row => ⟨rfl, rfl, rfl, by simp, fun j hj _ => Below.heap_alloc w.drew _ j hj⟩, rfl⟩
    · simp only [Array.size_append, List.size_toArray, size_zeroCells, hln]
      simp [Value.cells]; omega
    · simp only [Array.toList_append]
      rw [zeroCells_list, ← bv_append, ← hlen]
      exact List.take_left
  rcases Nat.eq_zero_or_pos k with rfl | hk
  · refine ⟨v, w, ?_, by simpa using hown, World.grownBy.refl _ _, .inl rfl⟩
    rcases hown.2 with ⟨rfl, rfl⟩ | ⟨g, cap, cur, rfl, _, _, hnc, _⟩
    · simp [Builtin.append_, run_underlying Try.underlying24, run_underlying Try.underlying3, sizeOf, typeInfo, hi0, asInt, asIntOf, IntKind.wrap_i64]
    · simp [Builtin.append_, run_underlying Try.underlying24, run_underlying Try.underlying3, sizeOf, typeInfo, hi0, asInt, asIntOf, IntKind.wrap_i64, hnc, storeCells]
  · rcases hown.2 with ⟨rfl, rfl⟩ | ⟨g, cap, cur, rfl, hbg, hg, hnc, hcm, hcs, htake⟩
    · have hl0 : l = [] := List.eq_nil_of_length_eq_zero (by rw [bv_length] at hln; exact hln)
      subst hl0
      obtain ⟨v', w', h1, h2, h3, h4⟩ := hgrow none 0 (Nat.le_refl _) (by omega) hk (by simp [Builtin.firstCells, bv])
      exact ⟨v', w', h1, h2, h3 _, .inr h4⟩
    · by_cases hroom : n + k ≤ cap
      · have hst := run_storeCells_at Try.prog g n 5 (bv (List.replicate k 0)) 0 cur w hg (by rw [bv_length]; simp; omega) (bv_one _)
        simp only [Nat.add_zero] at hst
        have hkk : ¬ k = 0 := by omega
        refine ⟨.slice (some ⟨g, 0, none⟩) (n + k) cap, w.setRow g (cur.toList.take n ++ bv (List.replicate k 0) ++ cur.toList.drop (n + (bv (List.replicate k 0)).length)).toArray, ?_, ⟨hlen, .inr ⟨g, cap, _, rfl, hbg, setRow_heap w g cur _ 5 _ hg, hroom, hcm, ?_, ?_⟩⟩, ⟨rfl, rfl, rfl, by simp, fun j _ hj => setRow_other w g j _ (fun e => hj (by simp [Value.ownBlock, e]))⟩, .inl rfl⟩
        · simp [Builtin.append_, run_underlying Try.underlying24, run_underlying Try.underlying3, sizeOf, typeInfo, zeroValue, hi0, hz0, hz1, asInt, asIntOf, hw, hneg, h48, hkk, hroom, Addr.add_lit, zeroCells_list, hst]
        · simp only [List.size_toArray, List.length_append, List.length_take, List.length_drop, Array.length_toList, bv_length, List.length_replicate]
          omega
        · rw [Nat.mul_one] at htake
          rw [htake, ← bv_append, ← hlen]
          exact List.take_left
      · have hold : (Builtin.firstCells i0.size n (.slice (some ⟨g, 0, none⟩) n cap)).run Try.prog w.drew = .ok (bv l).toArray w.drew := by
          rw [hz1]
          exact run_firstCells_some w.drew 1 n _ n cap (bv l) (by omega) (fun j u hu => hown.cells (g := g) rfl j u hu)
        obtain ⟨v', w', h1, h2, h3, h4⟩ := hgrow (some ⟨g, 0, none⟩) cap hnc (by omega) hk hold
        exact ⟨v', w', h1, h2, h3 _, .inr h4⟩
set_option maxRecDepth 100000 in
theorem Zero_ok (g k : Nat) (v : Value) (l : List UInt8) (w : World) (h : Wr w g v l) (hm : l.length + k ≤ 1048576) :
    Calls Try.prog 47 #[.pointer (some ⟨g, 0, none⟩), .int .i64 (k : Int)] w (WPost w g v (l ++ List.replicate k 0) 0) := by
  have hc := h.cell
  have hf := h.free
  obtain ⟨v1, w1, hrun, h2, h3, h4⟩ := run_append_own_zeros w 0 l.length k v l 24 h.own (by omega) (Nat.zero_le _)
  have hp := wr_store h h3 (m := l ++ List.replicate k 0) (by rw [List.length_append, List.length_replicate]; exact h2) (by rw [List.length_append, List.length_replicate]; exact hm) h4
  obtain ⟨hc1, hf1⟩ := h.after h3
  obtain ⟨A1, c1, rfl, -, -⟩ := Byt.of_own h2
  have HP := Lib.hid hp
  have Hrun := Lib.hid hrun
  have HW := Lib.hid h
  clear hp h2 h3 h4 hrun h
  go_enter Try.func47, Try.ntmps47
  go_wp2_with fail
  refine (room_any g v l _ HW.out).mono ?_
  rintro e w' ⟨rfl, rfl⟩
  go_wp2_with (at_builtin; refine wpList_append_run rfl (.tmp 17) (.tmp 18) 24 3 rfl _ _ _ w1 rfl rfl Hrun.out ?_)
  go_ret
  have hfin := HP.out
  rw [List.length_append, List.length_replicate] at hfin
  exact hfin
/-- A slice of fields. -/
def Fl (w : World) (v : Value) (fs : List (Int × Int)) : Prop :=
  ∃ A c, v = .slice A fs.length c ∧ fs.length ≤ c ∧ (0 < fs.length → ∃ b o, A = some ⟨b, o, none⟩ ∧ b < w.heap.size ∧ ∀ j (hj : j < fs.length), w.cell? ⟨b, o + j * 2, none⟩ = some (.int .u64 fs[j].1) ∧ w.cell? ⟨b, o + j * 2 + 1, none⟩ = some (.int .i64 fs[j].2))
/-- The error of AddAll. -/
def chk (room : Int) : List (Int × Int) → Int
  | [] => 0
  | f :: t => if putE f.1 f.2 ≠ 0 then putE f.1 f.2 else if room < f.2 then 5 else chk (room - f.2) t
/-- The bytes of fields. -/
def flat (fs : List (Int × Int)) : List UInt8 := (fs.map fun f => putB f.1.toNat f.2.toNat).flatten
theorem Wr.below {w w' : World} {g : Nat} {v : Value} {l : List UInt8} (h : Wr w g v l) (hb : Below w.heap.size w w') : Wr w' g v l :=
  ⟨(hb.block g h.lt).trans h.blk, h.own.kept (row := none) ⟨hb.os, hb.tape, hb.output, hb.size, fun k hk _ => hb.block k hk⟩ (by cases v.ownBlock <;> simp), h.le⟩
theorem putE_zero {v n : Int} (h : putE v n = 0) : 1 ≤ n ∧ n ≤ 8 ∧ v ≤ onesZ (8 * n).toNat := by
  unfold putE at h
  split at h
  · omega
  · split at h
    · omega
    · omega
theorem chk_step {r : Int} {f : Int × Int} {t : List (Int × Int)} (h : chk r (f :: t) = 0) : putE f.1 f.2 = 0 ∧ f.2 ≤ r ∧ chk (r - f.2) t = 0 := by
  unfold chk at h
  split at h
  · exact absurd h (by assumption)
  · split at h
    · omega
    · exact ⟨by omega, by omega, h⟩
theorem drop_cons {α : Type} {l : List α} {k : Nat} (h : k < l.length) : l.drop k = l[k] :: l.drop (k + 1) := List.drop_eq_getElem_cons h
/-- What the call of appendField leaves behind, for a writer. -/
def CallF (w : World) (g : Nat) (v' : Value) (l : List UInt8) (e : Ending) (w5 : World) : Prop :=
  ∃ A n c, e = .returned (.slice A n c) ∧ w5.cell? ⟨g, 0, none⟩ = some v' ∧ w5.frozen? ⟨g, 0, none⟩ = false ∧
    Hid (w5.ownsRow 0 5 1 (.slice A n c) l.length (bv l) ∧ w.grownBy w5 v'.ownBlock ∧ ((Value.slice A n c).ownBlock = v'.ownBlock ∨ ∃ b, (Value.slice A n c).ownBlock = some b ∧ w.heap.size ≤ b))
theorem addAll_call {w : World} {g : Nat} {v' : Value} {l : List UInt8} {V n : Int} (HW : Hid (Wr w g v' l)) (hV : 0 ≤ V) (h0 : 0 ≤ n) (hn : n ≤ 8) (o : Obj) :
    Calls Try.prog 94 #[v', .int .u64 V, .int .i64 n] (w.alloc o).drew (CallF w g v' (l ++ putB V.toNat n.toNat)) := by
  have h := HW.out
  have hle := h.le
  have hg1 : w.grownBy (w.alloc o).drew v'.ownBlock := ⟨rfl, rfl, rfl, by simp, fun k hk _ => Below.heap_alloc w o k hk⟩
  refine (appendField_any v' l.length l V n 0 (w.alloc o).drew (h.own.alloc o) hV h0 hn (by omega) (Nat.zero_le _)).mono ?_
  rintro e w5 ⟨v5, rfl, ho, hg, hat⟩
  have hlen : l.length + n.toNat = (l ++ putB V.toNat n.toNat).length := by rw [List.length_append, putB_length]
  rw [hlen] at ho
  obtain ⟨A, c, rfl, -, -⟩ := Byt.of_own ho
  have hgg : w.grownBy w5 v'.ownBlock := hg1.trans hg
  obtain ⟨hc5, hf5⟩ := h.after hgg
  refine ⟨A, _, c, rfl, hc5, hf5, ho, hgg, ?_⟩
  rcases hat with e | ⟨b, e, hb⟩
  · exact .inl e
  · exact .inr ⟨b, e, by simp at hb; omega⟩
theorem flat_take {fs : List (Int × Int)} {k : Nat} (h : k < fs.length) : flat (fs.take (k + 1)) = flat (fs.take k) ++ putB fs[k].1.toNat fs[k].2.toNat := by
  unfold flat
  rw [List.take_succ_eq_append_getElem h, List.map_append, List.flatten_append]
  simp
theorem flat_le (fs : List (Int × Int)) (k : Nat) : (flat (fs.take k)).length ≤ (flat fs).length := by
  have e : flat fs = flat (fs.take k) ++ flat (fs.drop k) := by
    unfold flat; rw [← List.flatten_append, ← List.map_append, List.take_append_drop]
  rw [e, List.length_append]; omega
theorem chk_len : ∀ (fs : List (Int × Int)) (r : Int), 0 ≤ r → chk r fs = 0 → ((flat fs).length : Int) ≤ r
  | [], r, h, _ => by simpa [flat] using h
  | a :: t, r, h, hk => by
    obtain ⟨h1, h2, h3⟩ := chk_step hk
    have h4 := putE_zero h1
    have h5 := chk_len t _ (by omega) h3
    have e : flat (a :: t) = putB a.1.toNat a.2.toNat ++ flat t := by simp [flat]
    rw [e, List.length_append, putB_length]
    omega
theorem addAll_step {w wr w5 : World} {g k : Nat} {v v' : Value} {A : Option Addr} {n c : Nat} {l : List UInt8} {fs : List (Int × Int)} (hlt : k < fs.length) (hle : l.length ≤ 1048576) (Hk : Hid (chk (1048576 - l.length) fs = 0))
    (HW2 : Hid (Wr wr g v' (l ++ flat (fs.take k)))) (HC2 : Hid (Chg (fun b => b = g ∨ v.ownBlock = some b) w wr)) (HA2 : Hid (v'.ownBlock = v.ownBlock ∨ ∃ b, v'.ownBlock = some b ∧ w.heap.size ≤ b))
    (H5 : Hid (w5.ownsRow 0 5 1 (.slice A n c) (l ++ flat (fs.take k) ++ putB fs[k].1.toNat fs[k].2.toNat).length (bv (l ++ flat (fs.take k) ++ putB fs[k].1.toNat fs[k].2.toNat)) ∧ wr.grownBy w5 v'.ownBlock ∧ ((Value.slice A n c).ownBlock = v'.ownBlock ∨ ∃ b, (Value.slice A n c).ownBlock = some b ∧ wr.heap.size ≤ b))) :
    Hid (Wr (w5.setCell ⟨g, 0, none⟩ (.slice A n c)) g (.slice A n c) (l ++ flat (fs.take (k + 1)))) ∧ Hid (Chg (fun b => b = g ∨ v.ownBlock = some b) w (w5.setCell ⟨g, 0, none⟩ (.slice A n c))) ∧
      Hid ((Value.slice A n c).ownBlock = v.ownBlock ∨ ∃ b, (Value.slice A n c).ownBlock = some b ∧ w.heap.size ≤ b) := by
  have h := HW2.out
  obtain ⟨ho, hg, hat⟩ := H5.out
  have hsz := HC2.out.size
  have hlt' := h.lt
  have hb1 : w5.heap[g]? = some (.cells #[v'] 91 (0, 0)) := (hg.block g h.lt (fun e => h.ne e.symm)).trans h.blk
  have hne : (Value.slice A n c).ownBlock ≠ some g := by
    rcases hat with e | ⟨b, e, hb⟩ <;> rw [e]
    · exact h.ne
    · intro e; injection e with e; omega
  have hbound : (l ++ flat (fs.take (k + 1))).length ≤ 1048576 := by
    have h1 := chk_len fs _ (by omega) Hk.out
    have h2 := flat_le fs (k + 1)
    rw [List.length_append]; omega
  rw [List.append_assoc, ← flat_take hlt] at ho
  refine ⟨⟨?_, ?_, hbound⟩, ?_, ?_⟩
  · simp [World.setCell, Array.getElem?_modify, hb1]
  · exact ho.kept (row := some g) ⟨rfl, rfl, rfl, by simp [World.setCell], fun k _ hk => Below.heap_setCell w5 ⟨g, 0, none⟩ _ k (fun e => hk (by rw [e]))⟩ (.inr hne)
  · refine Chg.setCell ?_ (.inl rfl) _
    refine HC2.out.trans (Chg.of_grown hg) (fun i hi hi2 => ?_)
    rcases HA2.out with e | ⟨b, e, hb⟩
    · exact .inr (by rw [← e]; exact hi)
    · rw [e] at hi; injection hi with hi; omega
  · rcases hat with e | ⟨b, e, hb⟩
    · rw [e]; exact HA2.out
    · exact .inr ⟨b, e, by omega⟩
/-- All fields of a list that passes are valid. -/
theorem chk_all : ∀ (fs : List (Int × Int)) (r : Int), chk r fs = 0 → ∀ f ∈ fs, 0 ≤ f.2 ∧ f.2 ≤ 8
  | [], _, _, f, hf => by cases hf
  | a :: t, r, h, f, hf => by
    obtain ⟨h1, _, h3⟩ := chk_step h
    rcases List.mem_cons.1 hf with rfl | hf
    · have := putE_zero h1; omega
    · exact chk_all t _ h3 f hf
set_option maxRecDepth 100000 in
theorem AddAll_ok (g : Nat) (v xv : Value) (l : List UInt8) (fs : List (Int × Int)) (w : World) (h : Wr w g v l) (hx : Fl w xv fs) (hfs : ∀ f ∈ fs, 0 ≤ f.1) (hsep : ∀ b, xv.ownBlock = some b → b ≠ g ∧ v.ownBlock ≠ some b) (hlen : fs.length ≤ 1048576) (hk : chk (1048576 - l.length) fs = 0) :
    Calls Try.prog 62 #[.pointer (some ⟨g, 0, none⟩), xv] w (WPost w g v (l ++ flat fs) 0) := by
  have hc := h.cell
  have hf := h.free
  have hle := h.le
  have HW := Lib.hid h; clear h
  have Hall := Lib.hid (show ∀ f ∈ fs, 0 ≤ f.1 ∧ 0 ≤ f.2 ∧ f.2 ≤ 8 ∧ True from fun f hf => ⟨hfs f hf, (chk_all fs _ hk f hf).1, (chk_all fs _ hk f hf).2, trivial⟩)
  have Hk := Lib.hid hk; clear hk
  clear hfs
  have Hsep := Lib.hid hsep; clear hsep
  obtain ⟨A, c, rfl, hc, hr⟩ := hx
  have Hr := Lib.hid hr; clear hr
  go_enter Try.func62, Try.ntmps62
  go_wp2_with fail
  refine (room_any g v l _ HW.out).mono ?_
  rintro e w' ⟨rfl, rfl⟩
  go_wp2
  go_loopw [5, 17] (fun rm i wr => ∃ (k : Nat) (r : Int), k ≤ fs.length ∧ r ≤ 1048576 ∧ 0 ≤ r ∧ i = .int .i64 k ∧ rm = .int .i64 r ∧ Hid (chk r (fs.drop k) = 0) ∧ Hid (Below w.heap.size w wr)) (fun _ i _ => fs.length - (intOf i).toNat)
  case atStart => exact ⟨0, _, Nat.zero_le _, by omega, by omega, rfl, rfl, Hk, Below.refl _ _⟩
  case round =>
    obtain ⟨k, r, hkl, hr1, hr0, rfl, rfl, HK, HB⟩ := hrel
    by_cases hlt : k < fs.length
    · obtain ⟨b, o, rfl, hb, hcell⟩ := Hr.out (by omega)
      have hck : wr.cell? ⟨b, o + k * 2, none⟩ = some (.int .u64 fs[k].1) := (HB.out.cell (by exact hb)).trans (hcell k hlt).1
      have hck1 : wr.cell? ⟨b, o + k * 2 + 1, none⟩ = some (.int .i64 fs[k].2) := (HB.out.cell (by exact hb)).trans (hcell k hlt).2
      clear hcell
      have hst := HK.out
      rw [drop_cons hlt] at hst
      obtain ⟨hp0, hfr, hrest⟩ := chk_step hst
      obtain ⟨hn1, hn8, hv⟩ := putE_zero hp0
      have HR := Lib.hid hrest
      have HV := Lib.hid hv
      clear hst hrest hv hp0
      go_wp2_with fail
      refine (checkField_ok _ _ _ hn1 hn8 HV.out).mono ?_
      rintro e w' ⟨rfl, rfl⟩
      go_wp2
      go_roundw
      case rel => exact ⟨k + 1, _, by omega, by omega, by omega, by go_num, rfl, HR, HB.out.alloc HB.out.size _⟩
      case measure => simp [intOf]; omega
    · clear HK
      go_wp2
      obtain ⟨w0, rfl⟩ : ∃ w0, w0 = wr := ⟨_, rfl⟩
      have HW0 : Hid (Wr w0 g v l) := HW.out.below HB.out
      clear hlt hkl
      go_loopw [40] (fun i wr => ∃ (k : Nat) (v' : Value), k ≤ fs.length ∧ i = .int .i64 k ∧ Hid (Wr wr g v' (l ++ flat (fs.take k))) ∧ Hid (Chg (fun b => b = g ∨ v.ownBlock = some b) w wr) ∧ Hid (v'.ownBlock = v.ownBlock ∨ ∃ b, v'.ownBlock = some b ∧ w.heap.size ≤ b)) (fun i _ => fs.length - (intOf i).toNat)
      case atStart => exact ⟨0, v, Nat.zero_le _, rfl, by simpa [flat] using HW0, Chg.of_below HB.out, .inl rfl⟩
      case round =>
        clear HW0 HB
        obtain ⟨k, v', hkl, rfl, HW2, HC2, HA2⟩ := hrel
        by_cases hlt : k < fs.length
        · obtain ⟨b, o, rfl, hb, hcell⟩ := Hr.out (by omega)
          have hsep := Hsep.out b rfl
          have hbk := HC2.out.block b hb (fun e => e.elim hsep.1 hsep.2)
          have hck : wr.cell? ⟨b, o + k * 2, none⟩ = some (.int .u64 fs[k].1) := (World.cell?_of_block hbk).trans (hcell k hlt).1
          have hck1 : wr.cell? ⟨b, o + k * 2 + 1, none⟩ = some (.int .i64 fs[k].2) := (World.cell?_of_block hbk).trans (hcell k hlt).2
          have hcg := HW2.out.cell
          have hfg := HW2.out.free
          have hgl := HW2.out.lt
          clear hcell hbk hsep
          have hok := Hall.out fs[k] (List.getElem_mem hlt)
          have hcall := addAll_call (v' := v') (n := fs[k].2) (V := fs[k].1) HW2 hok.1 hok.2.1 hok.2.2.1 (.cells #[.int .u64 fs[k].1, .int .i64 fs[k].2] 110)
          have Hcall := Lib.hid hcall
          clear hcall hok
          go_wp2
          go_region_with (go_at_call 94; refine Hcall.out.mono ?_; rintro e w5 ⟨A5, n5, c5, rfl, hc5, hf5, H5⟩)
          all_goals
            go_wp2
            go_roundw
            case rel => exact ⟨k + 1, _, by omega, by go_num, addAll_step hlt hle Hk HW2 HC2 HA2 H5⟩
            case measure => simp [intOf]; omega
        · have He := Lib.hid (show k = fs.length by omega)
          go_wp2
          go_ret
          have hfin := HW2.out
          rw [He.out, List.take_length] at hfin
          exact ⟨rfl, v', hfin, HC2.out, HA2.out⟩
theorem WPost.alloc {w w' : World} {g : Nat} {v : Value} {l : List UInt8} {k : Int} {e : Ending} (o : Obj) (hv : ∀ b, v.ownBlock = some b → b < w.heap.size) (h : WPost (w.alloc o) g v l k e w') : WPost w g v l k e w' := by
  obtain ⟨he, v', hw, hc, ha⟩ := h
  refine ⟨he, v', hw, ?_, ?_⟩
  · exact (Chg.of_below ((Below.refl _ _).alloc (Nat.le_refl _) o) : Chg _ w (w.alloc o)).trans hc (fun i hi _ => hi)
  · rcases ha with e | ⟨b, e, hb⟩
    · exact .inl e
    · exact .inr ⟨b, e, by simp at hb; omega⟩
theorem own_lt {w : World} {g : Nat} {v : Value} {l : List UInt8} (h : Wr w g v l) : ∀ b, v.ownBlock = some b → b < w.heap.size := fun b hb => (h.own.lt b hb).2
set_option maxRecDepth 100000 in
theorem Add_ok (g : Nat) (v : Value) (V n : Int) (l : List UInt8) (w : World) (h : Wr w g v l) (hV : 0 ≤ V) (hk : chk (1048576 - l.length) [(V, n)] = 0) :
    Calls Try.prog 46 #[.pointer (some ⟨g, 0, none⟩), .int .u64 V, .int .i64 n] w (WPost w g v (l ++ putB V.toNat n.toNat) 0) := by
  have hb := own_lt h
  have hg := h.lt
  have hW1 : Wr (w.alloc (.cells #[.int .u64 V, .int .i64 n] 110)) g v l := h.below ((Below.refl _ _).alloc (Nat.le_refl _) _)
  have hF : Fl (w.alloc (.cells #[.int .u64 V, .int .i64 n] 110)) (.slice (some ⟨w.heap.size, 0, none⟩) 1 1) [(V, n)] := by
    refine ⟨_, 1, rfl, Nat.le_refl _, fun _ => ⟨w.heap.size, 0, rfl, by simp, fun j hj => ?_⟩⟩
    simp at hj
    subst hj
    exact ⟨by simp, by simp⟩
  have hcall := AddAll_ok g v _ l [(V, n)] _ hW1 hF (by simpa using hV) (fun b hb' => by
    simp [Value.ownBlock] at hb'
    subst hb'
    exact ⟨by omega, fun e => by have := hb _ e; omega⟩) (by simp) hk
  have Hcall := Lib.hid hcall
  have Hb := Lib.hid hb
  clear hcall hb hF hW1 h hk
  go_enter Try.func46, Try.ntmps46
  go_wp2_with fail
  refine Hcall.out.mono ?_
  rintro e w' hw
  have hw' := hw.alloc _ Hb.out
  obtain ⟨rfl, hrest⟩ := hw'
  have Hrest := Lib.hid hrest; clear hrest hw
  go_wp2
  go_ret
  exact ⟨rfl, by simpa [flat] using Hrest.out⟩
/-- A new writer. -/
theorem wr_new (w : World) : Wr (w.alloc (.cells #[.slice none 0 0] 91)) w.heap.size (.slice none 0 0) [] := ⟨heap_alloc_new w _, World.ownsRow_nil _ _ _ _, by simp⟩
end Go.Proofs.Ytajlddgemkkcdaa
