/- A map from records to the places of their pages, as locate fills it. Conditions stand in each theorem. -/
import Derived.Test.YtajlddgemkkcdaaK0
import Derived.Maps.AppendAt
import Derived.Maps.RangeRun
namespace Go.Proofs.Ytajlddgemkkcdaa
open Go.RowKit Go.ChangeMaps
set_option linter.unusedVariables false
set_option maxHeartbeats 4000000
set_option maxRecDepth 100000
/-- The cells of a row of places. -/
def iv (l : List Nat) : List Value := l.map fun (n : Nat) => .int .i64 (n : Int)
theorem iv_length (l : List Nat) : (iv l).length = l.length := by simp [iv]
theorem iv_append (a b : List Nat) : iv (a ++ b) = iv a ++ iv b := by simp [iv]
theorem iv_one (l : List Nat) : ∀ u ∈ iv l, u.oneCell' = true := by
  intro u hu
  simp only [iv, List.mem_map] at hu
  obtain ⟨b, _, rfl⟩ := hu
  rfl
theorem iv_get {l : List Nat} {j : Nat} (h : j < l.length) : (iv l)[j]? = some (.int .i64 (l[j] : Int)) := by simp [iv, h]
theorem info3 : (Try.prog.info? 3).map (fun i => (i.zero, i.size, i.bytes)) = some (some (.int .i64 0), 1, 8) := by kernel_rfl
/-- The entries of a map: keys in the order in which they came, each with the row of its places. -/
structure MS (W : World) (b base : Nat) (es : Array MapEntry) (ks : List Rec) (pl : Rec → List Nat) : Prop where
  blk : W.heap[b]? = some (.map es es.size)
  lt : b < base
  len : es.size = ks.length
  ent : ∀ j (h : j < ks.length), ∃ e, es[j]? = some e ∧ e.key = ks[j].v ∧ e.born = j ∧ W.ownsRow base 3 1 e.val (pl ks[j]).length (iv (pl ks[j]))
  apart : ∀ (i j : Nat) (ei ej : MapEntry), i ≠ j → es[i]? = some ei → es[j]? = some ej → ei.val.ownBlock = none ∨ ei.val.ownBlock ≠ ej.val.ownBlock
theorem MS.kept {W W' : World} {b base : Nat} {es : Array MapEntry} {ks : List Rec} {pl : Rec → List Nat} (h : MS W b base es ks pl) (hb : Below W.heap.size W W') : MS W' b base es ks pl := by
  have hg : W.grownBy W' none := ⟨hb.os, hb.tape, hb.output, hb.size, fun k hk _ => hb.block k hk⟩
  refine ⟨(hb.block b (Array.getElem?_eq_some_iff.1 h.blk).1).trans h.blk, h.lt, h.len, fun j hj => ?_, h.apart⟩
  obtain ⟨e, e1, e2, e3, e4⟩ := h.ent j hj
  exact ⟨e, e1, e2, e3, e4.kept hg (by cases he : e.val.ownBlock <;> simp)⟩
theorem Rec.v_inj {a b : Rec} (h : a.v = b.v) : a = b := by
  obtain ⟨k, f, p, n⟩ := a
  obtain ⟨k', f', p', n'⟩ := b
  simp only [Value.agg.injEq, Array.mk.injEq, List.cons.injEq, Value.int.injEq, true_and, and_true] at h
  obtain ⟨h1, h2, h3, h4⟩ := h
  rw [h1, h2, h3, h4]
/-- A key is added. -/
def addK (ks : List Rec) (r : Rec) : List Rec := if r ∈ ks then ks else ks ++ [r]
def addP (pl : Rec → List Nat) (r : Rec) (i : Nat) : Rec → List Nat := fun x => if x = r then pl x ++ [i] else pl x
theorem nodup_at {α : Type} {l : List α} (hn : l.Nodup) {i j : Nat} (hi : i < l.length) (hj : j < l.length) (h : l[i] = l[j]) : i = j := by
  unfold List.Nodup at hn
  rw [List.pairwise_iff_getElem] at hn
  rcases Nat.lt_trichotomy i j with h1 | h1 | h1
  · exact absurd h (hn i j hi hj h1)
  · exact h1
  · exact absurd h.symm (hn j i hj hi h1)
theorem born_nodup {W : World} {b base : Nat} {es : Array MapEntry} {ks : List Rec} {pl : Rec → List Nat} (h : MS W b base es ks pl) : (es.toList.map (·.born)).Nodup := by
  unfold List.Nodup
  rw [List.pairwise_iff_getElem]
  intro i j hi hj hij
  have hj' : j < ks.length := by simpa [h.len] using hj
  obtain ⟨e1, a1, _, a3, _⟩ := h.ent i (by omega)
  obtain ⟨e2, b1, _, b3, _⟩ := h.ent j hj'
  have hi2 : i < es.size := (Array.getElem?_eq_some_iff.1 a1).1
  have hj2 : j < es.size := (Array.getElem?_eq_some_iff.1 b1).1
  rw [Array.getElem?_eq_getElem hi2] at a1
  rw [Array.getElem?_eq_getElem hj2] at b1
  have k1 := Option.some.inj a1
  have k2 := Option.some.inj b1
  simp only [List.getElem_map, Array.getElem_toList, k1, k2, a3, b3]
  omega
theorem find_at {W : World} {b base : Nat} {es : Array MapEntry} {ks : List Rec} {pl : Rec → List Nat} (h : MS W b base es ks pl) (hk : ∀ r ∈ ks, r.ok) (hn : ks.Nodup) {r : Rec} (hr : r.ok) (w : World) :
    (r ∉ ks ∧ (Instr.findKey 76 r.v es.toList).run Try.prog w = .ok none w) ∨ ∃ j e, ∃ hj : j < ks.length, ks[j] = r ∧ es[j]? = some e ∧ (Instr.findKey 76 r.v es.toList).run Try.prog w = .ok (some (j, e.val)) w := by
  obtain ⟨kl, hkl⟩ := key_of r hr
  have hall : ∀ e ∈ es.toList, ∃ l, keyOf Try.prog 76 e.key = some l := by
    intro e he
    obtain ⟨j, hj, rfl⟩ := List.mem_iff_getElem.1 he
    have hj' : j < ks.length := by simpa [h.len] using hj
    obtain ⟨e1, a1, a2, _⟩ := h.ent j hj'
    have : es.toList[j] = e1 := by
      have h2 : es[j]? = some es[j] := by simp
      rw [a1] at h2
      simpa using h2.symm
    rw [this, a2]
    exact key_of _ (hk _ (List.getElem_mem hj'))
  rcases lawR.find w hkl es.toList hall with ⟨h1, h2⟩ | ⟨j, e, h1, h2, h3⟩
  · refine .inl ⟨fun hm => ?_, h1⟩
    obtain ⟨j, hj, rfl⟩ := List.mem_iff_getElem.1 hm
    obtain ⟨e1, a1, a2, _⟩ := h.ent j hj
    exact h2 e1 (List.mem_of_getElem? (by simpa using a1)) a2
  · have hj : j < ks.length := by rw [← h.len]; simpa using (List.getElem?_eq_some_iff.1 h2).1
    obtain ⟨e1, a1, a2, _⟩ := h.ent j hj
    have : e1 = e := by
      have h4 : es[j]? = some e := by simpa using h2
      rw [a1] at h4
      exact Option.some.inj h4
    subst this
    exact .inr ⟨j, e1, hj, Rec.v_inj (a2.symm.trans h3), a1, h1⟩
theorem zero50 (w : World) : (zeroValue 50).run Try.prog w = .ok (.slice none 0 0) w := by kernel_rfl
theorem grown_set {w : World} {b : Nat} {es : Array MapEntry} {c : Nat} (hb : w.heap[b]? = some (.map es c)) (o : Obj) : w.grownBy (setBlock w b o) (some b) :=
  ⟨rfl, rfl, rfl, by simp [setBlock], fun i hi hne => heap_setBlock_other hb o (fun e => hne (by rw [e]))⟩
/-- One place is added to a record. -/
theorem ms_put {W : World} {b base : Nat} {es : Array MapEntry} {ks : List Rec} {pl : Rec → List Nat} (h : MS W b base es ks pl) (hk : ∀ r ∈ ks, r.ok) (hn : ks.Nodup) {r : Rec} (hr : r.ok) (hnew : r ∉ ks → pl r = []) (i g : Nat) (hc : W.cell? ⟨g, 0, none⟩ = some (.int .i64 (i : Int))) (hlen : (pl r).length ≤ 100000) (hbase : base ≤ W.heap.size) :
    ∃ A n c st W1 A1 n1 c1 W2 W3 es', (Instr.mapEntry 96 (.map (some b)) r.v).run Try.prog W = .ok (.tuple #[.slice A n c, .int .i64 st]) W1 ∧
      (appX #[50, 50] 50 #[.slice A n c, .slice (some ⟨g, 0, none⟩) 1 1]).run Try.prog W1 = .ok (.value (.slice A1 n1 c1)) W2 ∧
      (Instr.entryStore 96 (.map (some b)) (.int .i64 st) (.slice A1 n1 c1)).run Try.prog W2 = .ok () W3 ∧
      MS W3 b base es' (addK ks r) (addP pl r i) ∧ (∀ B, B ≤ b → Below B W W3) := by
  obtain ⟨kl, hkl⟩ := key_of r hr
  obtain ⟨i0, hi0, hz0, hz1, hz2⟩ := info_parts8 info3
  have hblt : b < W.heap.size := (Array.getElem?_eq_some_iff.1 h.blk).1
  have hgb : g ≠ b := by
    intro e
    subst e
    simp [World.cell?, h.blk] at hc
  have hcell : ∀ W', W.grownBy W' (some b) → ∀ j u, (iv [i])[j]? = some u → W'.cell? ((⟨g, 0, none⟩ : Addr).add j) = some u := by
    intro W' hg j u hu
    rw [add_plain, Nat.zero_add]
    match j, hu with
    | 0, hu =>
      cases hu
      rw [World.cell?_of_block (w := W) (hg.block g (World.block_lt_of_cell? _ _ hc) (fun e => hgb (Option.some.inj e)))]
      exact hc
    | j + 1, hu => simp [iv] at hu
  have below : ∀ {W1 W2 W3 : World} {v0 : Value} (k1 : W.grownBy W1 (some b)) (k2 : W1.grownBy W2 v0.ownBlock) (k3 : W2.grownBy W3 (some b)) (hv : ∀ k, v0.ownBlock = some k → base ≤ k), ∀ B, B ≤ b → Below B W W3 := by
    intro W1 W2 W3 v0 k1 k2 k3 hv B hB
    refine ⟨k3.os.trans (k2.os.trans k1.os), k3.tape.trans (k2.tape.trans k1.tape), k3.output.trans (k2.output.trans k1.output), Nat.le_trans k1.size (Nat.le_trans k2.size k3.size), fun k hk => ?_⟩
    have hkb : some k ≠ some b := fun e => by have := Option.some.inj e; omega
    have hkv : some k ≠ v0.ownBlock := fun e => by have := hv k e.symm; have := h.lt; omega
    rw [k3.block k (by have := k1.size; have := k2.size; omega) hkb, k2.block k (by have := k1.size; omega) hkv, k1.block k (by omega) hkb]
  rcases find_at h hk hn hr W with ⟨hnot, hf⟩ | ⟨j, e0, hj, hkj, hej, hf⟩
  · -- a new key
    have e1 : addK ks r = ks ++ [r] := if_neg hnot
    have p1 := hnew hnot
    have g1 := grown_set h.blk (.map (es.push ⟨r.v, .slice none 0 0, es.size⟩) (es.size + 1))
    have b1 := heap_setBlock_same h.blk (.map (es.push ⟨r.v, .slice none 0 0, es.size⟩) (es.size + 1))
    obtain ⟨W1, hW1⟩ : ∃ W1, W1 = setBlock W b (.map (es.push ⟨r.v, .slice none 0 0, es.size⟩) (es.size + 1)) := ⟨_, rfl⟩
    have hrun1 : (Instr.mapEntry 96 (.map (some b)) r.v).run Try.prog W = .ok (.tuple #[.slice none 0 0, .int .i64 (es.size : Int)]) W1 := by
      rw [hW1]
      simp [Instr.mapEntry, run_underlying Try.underlying96, MapKept.run_getObj_map h.blk, lawR.check W false hkl, hf, MapKept.run_setObj_map _ h.blk, Result.andThen, setBlock, goInt]
    rw [← hW1] at g1 b1
    obtain ⟨v', W2, hrun2, own2, g2, _, loc2⟩ := run_append_own_at (P := Try.prog) W1 base 50 50 3 i0 _ 1 8 Try.underlying50 hi0 hz0 hz1 hz2 rfl (by decide) (.slice none 0 0) 0 [] (World.ownsRow_nil _ _ _ _) ⟨g, 0, none⟩ 1 1 (iv [i]) (by simp [iv]) (hcell W1 g1) (iv_one _) (by unfold maxLen; omega) (by omega) (by have := g1.size; omega)
    obtain ⟨A1, c1, rfl⟩ := own_form8 own2
    have b2 : W2.heap[b]? = some (.map (es.push ⟨r.v, .slice none 0 0, es.size⟩) (es.size + 1)) := (g2.block b (by have := g1.size; omega) (by simp [Value.ownBlock])).trans b1
    have hidx : (es.push ⟨r.v, .slice none 0 0, es.size⟩).findIdx? (fun e => ((e.born : Nat) : Int) == ((es.size : Nat) : Int)) = some es.size := by
      rw [WideElems.findIdx_arr]
      have := WideElems.findIdx_born (l := (es.push ⟨r.v, .slice none 0 0, es.size⟩).toList) (j := es.size) (e0 := ⟨r.v, .slice none 0 0, es.size⟩) (by
        simp only [Array.toList_push, List.map_append, List.map_cons, List.map_nil]
        refine List.nodup_append.2 ⟨born_nodup h, by simp, fun a ha c hc e9 => ?_⟩
        simp only [List.mem_singleton] at hc
        obtain ⟨x, hx, rfl⟩ := List.mem_map.1 ha
        obtain ⟨j, hj, rfl⟩ := List.mem_iff_getElem.1 hx
        have hj' : j < ks.length := by simpa [h.len] using hj
        obtain ⟨e1, a1, _, a3, _⟩ := h.ent j hj'
        have h2 : es[j]? = some es[j] := by simp
        rw [a1] at h2
        have h3 : es.toList[j] = e1 := by simpa using (Option.some.inj h2).symm
        rw [h3, a3] at e9
        have := h.len
        omega) (by simp)
      exact this
    have hmod : (es.push ⟨r.v, .slice none 0 0, es.size⟩).modify es.size (fun e => { e with val := .slice A1 (0 + 1) c1 }) = es.push ⟨r.v, .slice A1 (0 + 1) c1, es.size⟩ := by
      apply Array.ext'
      rw [Array.toList_modify, Array.toList_push, Array.toList_push, ← Array.length_toList, WideElems.modify_last]
    have g3 := grown_set b2 (.map (es.push ⟨r.v, .slice A1 (0 + 1) c1, es.size⟩) (es.size + 1))
    have b3 := heap_setBlock_same b2 (.map (es.push ⟨r.v, .slice A1 (0 + 1) c1, es.size⟩) (es.size + 1))
    have hrun3 : (Instr.entryStore 96 (.map (some b)) (.int .i64 (es.size : Int)) (.slice A1 (0 + 1) c1)).run Try.prog W2 = .ok () (setBlock W2 b (.map (es.push ⟨r.v, .slice A1 (0 + 1) c1, es.size⟩) (es.size + 1))) := by
      simp [Instr.entryStore, MapKept.run_getObj_map b2, asInt, asIntOf, hidx, hmod, MapKept.run_setObj_map _ b2, Result.andThen, setBlock]
    refine ⟨_, _, _, _, W1, A1, _, c1, W2, _, es.push ⟨r.v, .slice A1 (0 + 1) c1, es.size⟩, hrun1, appX_run hrun2, hrun3, ?_, below g1 g2 g3 (by simp [Value.ownBlock])⟩
    have keep : ∀ {v : Value} {m : Nat} {xs : List Value}, W.ownsRow base 3 1 v m xs → (setBlock W2 b (.map (es.push ⟨r.v, .slice A1 (0 + 1) c1, es.size⟩) (es.size + 1))).ownsRow base 3 1 v m xs := by
      intro v m xs ho
      have nb : v.ownBlock = none ∨ v.ownBlock ≠ some b := by
        cases hv : v.ownBlock with
        | none => exact .inl rfl
        | some k => exact .inr (fun e => by cases e; have := (ho.lt _ hv).1; have := h.lt; omega)
      exact ((ho.kept g1 nb).kept g2 (by cases hv : v.ownBlock <;> simp [Value.ownBlock])).kept g3 nb
    rw [e1]
    refine ⟨by rw [b3]; simp, h.lt, by simp [h.len], fun j hj => ?_, fun x y ex ey hxy hx hy => ?_⟩
    · rcases Nat.lt_or_ge j ks.length with hlt | hge
      · obtain ⟨e, a1, a2, a3, a4⟩ := h.ent j hlt
        have hne : ks[j] ≠ r := fun e => hnot (e ▸ List.getElem_mem hlt)
        refine ⟨e, ?_, ?_, a3, ?_⟩
        · rw [Array.getElem?_push, if_neg (by rw [h.len]; omega)]; exact a1
        · rw [List.getElem_append_left hlt]; exact a2
        · rw [List.getElem_append_left hlt]
          unfold addP
          rw [if_neg hne]
          exact keep a4
      · obtain rfl : j = ks.length := by simp at hj; omega
        refine ⟨_, by rw [← h.len, Array.getElem?_push_size], by simp, h.len, ?_⟩
        have e2 : (ks ++ [r])[ks.length] = r := by simp
        rw [e2]
        unfold addP
        rw [if_pos rfl, p1]
        have := own2.kept g3 (by
          rcases loc2 with h1 | h1
          · exact .inl (h1.trans rfl)
          · refine .inr (fun e => ?_)
            rw [h1] at e
            cases e
            have := g1.size
            omega)
        simpa [iv] using this
    · rw [Array.getElem?_push] at hx hy
      have newb : (Value.slice A1 (0 + 1) c1).ownBlock = none ∨ (Value.slice A1 (0 + 1) c1).ownBlock = some W1.heap.size := loc2.imp (fun h1 => h1.trans rfl) id
      have old : ∀ {k : Nat} {ek : MapEntry}, es[k]? = some ek → ek.val.ownBlock ≠ some W1.heap.size := by
        intro k ek hk' e
        have hkl : k < ks.length := by rw [← h.len]; exact (Array.getElem?_eq_some_iff.1 hk').1
        obtain ⟨e2, a1, _, _, a4⟩ := h.ent k hkl
        rw [hk'] at a1
        cases a1
        have := (a4.lt _ e).2
        have := g1.size
        omega
      split at hx
      · cases hx
        split at hy
        · omega
        · rcases newb with h1 | h1
          · exact .inl h1
          · exact .inr (fun e => old hy (e.symm.trans h1))
      · split at hy
        · cases hy
          rcases newb with h1 | h1
          · cases hv : ex.val.ownBlock with
            | none => exact .inl rfl
            | some k => refine .inr (fun e => ?_); rw [h1] at e; cases e
          · exact .inr (fun e => old hx (e.trans h1))
        · exact h.apart x y ex ey hxy hx hy
  · -- a key that is there
    have hmem : r ∈ ks := hkj ▸ List.getElem_mem hj
    have e1 : addK ks r = ks := if_pos hmem
    obtain ⟨e, a1, a2, a3, a4⟩ := h.ent j hj
    rw [hej] at a1
    obtain rfl : e0 = e := Option.some.inj a1
    rw [hkj] at a2 a4
    obtain ⟨A, c, hval⟩ := own_form8 a4
    have hsame : es.modify j (fun e => { e with key := r.v }) = es := by
      apply Array.ext'
      rw [Array.toList_modify, modify_eq_set _ _ _ _ (by simpa using hej)]
      have : ({ e0 with key := r.v } : MapEntry) = e0 := by rw [← a2]
      rw [this]
      exact WideElems.set_self _ _ _ (by simpa using hej)
    have g1 := grown_set h.blk (.map es es.size)
    have b1 := heap_setBlock_same h.blk (.map es es.size)
    obtain ⟨W1, hW1⟩ : ∃ W1, W1 = setBlock W b (.map es es.size) := ⟨_, rfl⟩
    have hrun1 : (Instr.mapEntry 96 (.map (some b)) r.v).run Try.prog W = .ok (.tuple #[.slice A (pl r).length c, .int .i64 (j : Int)]) W1 := by
      rw [hW1]
      simp [Instr.mapEntry, run_underlying Try.underlying96, MapKept.run_getObj_map h.blk, lawR.check W false hkl, hf, hej, a2, a3, hval, lawR.stays W hkl, hsame, MapKept.run_setObj_map _ h.blk, Result.andThen, setBlock, goInt]
    rw [← hW1] at g1 b1
    have nb : ∀ {v : Value} {m : Nat} {xs : List Value}, W.ownsRow base 3 1 v m xs → v.ownBlock = none ∨ v.ownBlock ≠ some b := by
      intro v m xs ho
      cases hv : v.ownBlock with
      | none => exact .inl rfl
      | some k => exact .inr (fun e => by cases e; have := (ho.lt _ hv).1; have := h.lt; omega)
    have a5 := a4.kept g1 (nb a4)
    rw [hval] at a5
    obtain ⟨v', W2, hrun2, own2, g2, _, loc2⟩ := run_append_own_at (P := Try.prog) W1 base 50 50 3 i0 _ 1 8 Try.underlying50 hi0 hz0 hz1 hz2 rfl (by decide) (.slice A (pl r).length c) (pl r).length (iv (pl r)) a5 ⟨g, 0, none⟩ 1 1 (iv [i]) (by simp [iv]) (hcell W1 g1) (iv_one _) (by unfold maxLen; omega) (by omega) (by have := g1.size; omega)
    obtain ⟨A1, c1, rfl⟩ := own_form8 own2
    have vb : (Value.slice A (pl r).length c).ownBlock = none ∨ (Value.slice A (pl r).length c).ownBlock ≠ some b := by rw [← hval]; exact nb a4
    have b2 : W2.heap[b]? = some (.map es es.size) := (g2.block b (by have := g1.size; omega) (fun e => by rcases vb with h1 | h1; rw [h1] at e; cases e; exact h1 e.symm)).trans b1
    have hidx : es.findIdx? (fun e => ((e.born : Nat) : Int) == ((j : Nat) : Int)) = some j := by
      rw [WideElems.findIdx_arr]
      have := WideElems.findIdx_born (born_nodup h) (j := j) (e0 := e0) (by simpa using hej)
      rwa [a3] at this
    have g3 := grown_set b2 (.map (es.modify j fun e => { e with val := .slice A1 ((pl r).length + 1) c1 }) es.size)
    have b3 := heap_setBlock_same b2 (.map (es.modify j fun e => { e with val := .slice A1 ((pl r).length + 1) c1 }) es.size)
    have hrun3 : (Instr.entryStore 96 (.map (some b)) (.int .i64 (j : Int)) (.slice A1 ((pl r).length + 1) c1)).run Try.prog W2 = .ok () (setBlock W2 b (.map (es.modify j fun e => { e with val := .slice A1 ((pl r).length + 1) c1 }) es.size)) := by
      simp [Instr.entryStore, MapKept.run_getObj_map b2, asInt, asIntOf, hidx, MapKept.run_setObj_map _ b2, Result.andThen, setBlock]
    have hv0 : ∀ k, (Value.slice A (pl r).length c).ownBlock = some k → base ≤ k ∧ k < W.heap.size := by rw [← hval]; exact fun k hk => a4.lt k hk
    refine ⟨_, _, _, _, W1, A1, _, c1, W2, _, es.modify j fun e => { e with val := .slice A1 ((pl r).length + 1) c1 }, hrun1, appX_run hrun2, hrun3, ?_, below g1 g2 g3 (fun k hk => (hv0 k hk).1)⟩
    have keep : ∀ {v : Value} {m : Nat} {xs : List Value}, W.ownsRow base 3 1 v m xs → (v.ownBlock = none ∨ v.ownBlock ≠ (Value.slice A (pl r).length c).ownBlock) → (setBlock W2 b (.map (es.modify j fun e => { e with val := .slice A1 ((pl r).length + 1) c1 }) es.size)).ownsRow base 3 1 v m xs := by
      intro v m xs ho hne
      exact ((ho.kept g1 (nb ho)).kept g2 hne).kept g3 (nb ho)
    have hjs : j < es.size := (Array.getElem?_eq_some_iff.1 hej).1
    have hget : ∀ k, (es.modify j fun e => { e with val := .slice A1 ((pl r).length + 1) c1 })[k]? = if j = k then some { e0 with val := .slice A1 ((pl r).length + 1) c1 } else es[k]? := by
      intro k
      rw [Array.getElem?_modify]
      by_cases e : j = k
      · subst e; rw [if_pos rfl, if_pos rfl, hej]; rfl
      · rw [if_neg e, if_neg e]
    rw [e1]
    have locb : (Value.slice A1 ((pl r).length + 1) c1).ownBlock = e0.val.ownBlock ∨ (Value.slice A1 ((pl r).length + 1) c1).ownBlock = some W1.heap.size := by rw [hval]; exact loc2
    have old : ∀ {k : Nat} {ek : MapEntry}, es[k]? = some ek → ek.val.ownBlock ≠ some W1.heap.size := by
      intro k ek hk' e
      have hkl : k < ks.length := by rw [← h.len]; exact (Array.getElem?_eq_some_iff.1 hk').1
      obtain ⟨e2, a1, _, _, a4⟩ := h.ent k hkl
      rw [hk'] at a1
      cases a1
      have := (a4.lt _ e).2
      have := g1.size
      omega
    refine ⟨by rw [b3]; simp, h.lt, by simp [h.len], fun k hk' => ?_, fun x y ex ey hxy hx hy => ?_⟩
    · obtain ⟨ek, c1', c2', c3', c4'⟩ := h.ent k hk'
      by_cases e : j = k
      · subst e
        refine ⟨{ e0 with val := .slice A1 ((pl r).length + 1) c1 }, by rw [hget, if_pos rfl], by rw [hkj]; exact a2, a3, ?_⟩
        rw [hkj]
        unfold addP
        rw [if_pos rfl, List.length_append, iv_append]
        exact own2.kept g3 (by
          rcases loc2 with h1 | h1
          · rw [h1]; exact vb
          · refine .inr (fun e => ?_)
            rw [h1] at e
            cases e
            have := g1.size
            omega)
      · have hne : ks[k] ≠ r := fun e' => e (nodup_at hn hj hk' (hkj.trans e'.symm))
        refine ⟨ek, by rw [hget, if_neg e]; exact c1', c2', c3', ?_⟩
        unfold addP
        rw [if_neg hne]
        refine keep c4' ?_
        rw [← hval]
        exact h.apart k j ek e0 (Ne.symm e) c1' hej
    · rw [hget] at hx hy
      split at hx
      · cases hx
        split at hy
        · omega
        · rcases locb with h1 | h1
          · show (Value.slice A1 _ c1).ownBlock = none ∨ (Value.slice A1 _ c1).ownBlock ≠ _
            rw [h1]
            exact h.apart j y e0 ey (by assumption) hej hy
          · exact .inr (fun e => old hy (e.symm.trans h1))
      · split at hy
        · cases hy
          rcases locb with h1 | h1
          · show _ ∨ _ ≠ (Value.slice A1 _ c1).ownBlock
            rw [h1]
            exact h.apart x j ex e0 (by omega) hx hej
          · exact .inr (fun e => old hx (e.trans h1))
        · exact h.apart x y ex ey hxy hx hy
end Go.Proofs.Ytajlddgemkkcdaa
