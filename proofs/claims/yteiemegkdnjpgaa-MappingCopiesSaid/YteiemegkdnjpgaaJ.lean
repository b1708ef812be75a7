/- Slices of numbers; the contracts of sortedKeys, inOrder, pagesOf. Conditions stand in each theorem. -/
import Derived.Test.YteiemegkdnjpgaaI
import Derived.Test.YteiemegkdnjpgaaLay
namespace Go.Proofs.Yteiemegkdnjpgaa
open Go.RowKit Go.Shelf
set_option linter.unusedVariables false
set_option maxHeartbeats 2000000
set_option maxRecDepth 100000
/-- A slice value that reads as numbers. -/
def Itz (W : World) (v : Value) (l : List Int) : Prop :=
  ∃ A c, v = .slice A l.length c ∧ l.length ≤ c ∧ (0 < l.length → ∃ g o cs ty fr, A = some ⟨g, o, none⟩ ∧ W.heap[g]? = some (.cells cs ty fr) ∧ ∀ j (hj : j < l.length), cs[o + j]? = some (.int .i64 l[j]))
section
variable {W W' : World} {v : Value} {l : List Int}
theorem Itz.below (h : Itz W v l) (hb : Below W.heap.size W W') : Itz W' v l := by
  obtain ⟨A, c, rfl, hc, hr⟩ := h
  refine ⟨A, c, rfl, hc, fun h0 => ?_⟩
  obtain ⟨g, o, cs, ty, fr, rfl, hg, hj⟩ := hr h0
  exact ⟨g, o, cs, ty, fr, rfl, (hb.block g (Array.getElem?_eq_some_iff.1 hg).1).trans hg, hj⟩
theorem Itz.at (h : Itz W v l) {j : Nat} (hj : j < l.length) : ∃ g o c, v = .slice (some ⟨g, o, none⟩) l.length c ∧ W.cell? ⟨g, o + j, none⟩ = some (.int .i64 l[j]) := by
  obtain ⟨A, c, rfl, hc, hr⟩ := h
  obtain ⟨g, o, cs, ty, fr, rfl, hg, hj'⟩ := hr (by omega)
  exact ⟨g, o, c, rfl, (cell_of_row W g _ cs ty fr hg).trans (hj' j hj)⟩
theorem Itz.form (h : Itz W v l) : ∃ A c, v = .slice A l.length c ∧ l.length ≤ c := by
  obtain ⟨A, c, h1, h2, _⟩ := h
  exact ⟨A, c, h1, h2⟩
theorem itz_of_own {base n : Nat} (ho : W.ownsRow base 3 1 v n (l.map encZ)) : Itz W v l := by
  have hn : n = l.length := by have := ho.1; simp at this; omega
  subst hn
  rcases ho.2 with ⟨rfl, h0⟩ | ⟨g, cap, cur, rfl, hbg, hg, hnc, _, hsz, htk⟩
  · exact ⟨none, 0, by rw [h0], by omega, fun h => absurd h (by omega)⟩
  · refine ⟨_, cap, rfl, hnc, fun h0 => ⟨g, 0, cur, 3, (0, 0), rfl, hg, fun j hj => ?_⟩⟩
    rw [Nat.zero_add]
    have hx : (l.map encZ)[j]? = some (.int .i64 l[j]) := by simp [encZ, hj]
    rw [← htk, List.getElem?_take_of_lt (by omega)] at hx
    simpa using hx
end
theorem sortsA (m : Nat) : AnyZI.SortsIn Try.prog sortedA_ren Fence.wide m :=
  ⟨fun blk off cap ss W hH hblk hsz => callsIn_wide.2 (AnyM.slices_Sort_int sortA blk off cap ss W hH hblk hsz),
   fun p cap W => callsIn_wide.2 (AnyM.slices_Sort_int_none sortA p cap W)⟩
theorem keys_L {w : World} {m n : Nat} {D : DataW Unit} {L : List (Int × Int)} (hown : w.ownsMap Try.prog 3 (plainElem Try.prog 3) m n D) (hs : Nd L) (hq : ∀ q : Int, Maps.has D (.int .i64 q) = (look L q).isSome) : (L.map (·.1)).Perm (intKeys D) := by
  refine CollectedI.perm (left := fun _ => false) ⟨?_, fun x => ?_⟩ hown law Try.underlying3 (fun _ => rfl)
  · exact List.pairwise_map.2 hs
  · rw [hq x, List.mem_map]
    constructor
    · rintro ⟨p, hp, rfl⟩
      refine ⟨?_, rfl⟩
      have e : look L p.1 = some p.2 := look_of_mem hs (by exact hp)
      rw [e]; rfl
    · rintro ⟨h, _⟩
      cases e : look L x with
      | none => rw [e] at h; cases h
      | some c => exact ⟨_, look_mem e, rfl⟩
theorem sort_L {L : List (Int × Int)} (hs : L.Pairwise (fun x y => x.1 < y.1)) {ss : List Int} (h : ss.Perm (L.map (·.1))) : ss.mergeSort (fun x y => decide (x ≤ y)) = L.map (·.1) := by
  rw [mergeSort_of_perm_i h]
  refine List.mergeSort_of_pairwise ?_
  exact List.pairwise_map.2 (hs.imp fun {a b} h => by simp [leI]; omega)
theorem cKeys (mb : Option Nat) (W : World) : CallsIn Fence.wide 7 Try.prog 52 #[.map mb] W fun e w' => e = .returned (.func (.func 57) #[] #[.pointer (some ⟨W.heap.size, 0, none⟩)]) ∧ w' = W.alloc (.cells #[.map mb] 53) := AnyZI.keys_in keysA Fence.wide 7 trivial rfl mb W
theorem cSorted (W : World) (mc : Nat) (L : List (Int × Int)) (hm : Mp W mc L.length (look L)) (hs : L.Pairwise (fun x y => x.1 < y.1)) (hlen : L.length ≤ 16777216) : CallsIn Fence.wide 7 Try.prog 51 #[.func (.func 57) #[] #[.pointer (some ⟨W.heap.size, 0, none⟩)]] (W.alloc (.cells #[.map (some mc)] 53)) fun e w' =>
    ∃ v, e = .returned v ∧ w'.ownsRow (W.heap.size + 1) 3 1 v L.length ((L.map (·.1)).map encZ) ∧ Below (W.heap.size + 1) (W.alloc (.cells #[.map (some mc)] 53)) w' := by
  obtain ⟨D, hown, hsz0, hq⟩ := hm
  have hbl := hown.lt
  have hnd := srt_nd hs
  have hp0 := keys_L hown hnd (fun q => (hq q).1)
  have hsz := hown.size_le
  have hown2 : (W.alloc (.cells #[.map (some mc)] 53)).ownsMap Try.prog 3 (plainElem Try.prog 3) mc L.length D := hown.alloc _
  have hkl : Maps.size D ≤ 16777216 := by omega
  have hseq : SeqGives Fence.wide 4 Try.prog 57 #[.pointer (some ⟨W.heap.size, 0, none⟩)] encZ (fun ss => ss.Perm (intKeys D)) (Maps.size D) (W.alloc (.cells #[.map (some mc)] 53)) :=
    AnyZI.keys_gives (ρ := keysA_ren) { keysA with } Fence.wide _ trivial rfl (by omega) W.heap.size mc L.length D _ (by simp) (by simp) hown2
  have cS := AnyZI.sorted_in sortedA Fence.wide 7 trivial trivial trivial trivial rfl (by omega) (sortsA _) (enters_of Try.func56 (by kernel_rfl) rfl) 57 #[.pointer (some ⟨W.heap.size, 0, none⟩)] trivial (enters_of Try.func57 (by kernel_rfl) rfl) _ _ (by unfold maxLen; omega) (by omega) _ hseq
  change CallsIn _ _ Try.prog 51 _ _ _ at cS
  refine cS.mono ?_
  rintro e w' ⟨v, ss, rfl, hp, hrow, hnil, hb⟩
  have hp2 := hp.trans hp0.symm
  rw [sort_L hs hp2] at hrow
  have hl : ss.length = L.length := by rw [hp2.length_eq]; simp
  rw [hl] at hrow
  rw [World.size_alloc] at hrow hb
  exact ⟨v, rfl, hrow, hb⟩
theorem own_form {w : World} {base e sz n : Nat} {v : Value} {xs : List Value} (h : w.ownsRow base e sz v n xs) : ∃ A c, v = .slice A n c := by
  rcases h.2 with ⟨rfl, e⟩ | ⟨g, cap, cur, rfl, _⟩
  · exact ⟨none, 0, by rw [e]⟩
  · exact ⟨_, _, rfl⟩
theorem sortedKeys_any {w : World} {mc : Nat} {L : List (Int × Int)} (hm : Mp w mc L.length (look L)) (hs : L.Pairwise (fun x y => x.1 < y.1)) (hlen : L.length ≤ 16777216) : Calls Try.prog 40 #[.map (some mc)] w fun e w' => ∃ v, e = .returned v ∧ Itz w' v (L.map (·.1)) ∧ Below w.heap.size w w' := by
  refine (callsIn_wide (n := 8)).1 ?_
  have HSO := Lib.hid (cSorted w mc L hm hs hlen)
  have f52 : Fence.wide.fn 52 := trivial
  have f51 : Fence.wide.fn 51 := trivial
  refine callsIn_of_wp Try.func40 rfl trivial ?_ rfl
  simp only [Try.ntmps40, List.size_toArray, List.length_cons, List.length_nil, Nat.reduceAdd, Nat.reduceSub, Array.replicate_succ, Array.replicate_zero, List.push_toArray, List.append_toArray, List.nil_append, List.cons_append]
  gi_wp2_with (first
    | (gi_at_call 52; refine (cKeys _ _).mono ?_; rintro e w' ⟨rfl, rfl⟩)
    | ((gi_at_call 51; with_reducible refine HSO.out.mono ?_); rintro e w5 ⟨v, rfl, hrow, hb⟩; have HROW := Lib.hid hrow; have HB := Lib.hid hb; obtain ⟨A9, c9, x9⟩ := own_form hrow; subst x9; clear hrow hb))
  go_ret
  have h0 : Below w.heap.size w w5 := (below_alloc w _).trans (HB.out.mono (by omega))
  exact ⟨_, rfl, itz_of_own HROW.out, h0⟩
/-- The cells of pairs, as a row. -/
def pv (l : List (Int × Int)) : List Value := l.flatMap fun x => [.int .i64 x.1, .int .i64 x.2]
theorem pv_length (l : List (Int × Int)) : (pv l).length = l.length * 2 := by
  unfold pv
  induction l with
  | nil => rfl
  | cons e r ih => rw [List.flatMap_cons, List.length_append, ih]; simp; omega
theorem pv_snoc (l : List (Int × Int)) (x : Int × Int) : pv (l ++ [x]) = pv l ++ [.int .i64 x.1, .int .i64 x.2] := by simp [pv]
theorem pv_at (l : List (Int × Int)) (j : Nat) (h : j < l.length) : (pv l)[j * 2]? = some (.int .i64 l[j].1) ∧ (pv l)[j * 2 + 1]? = some (.int .i64 l[j].2) := by
  induction l generalizing j with
  | nil => cases h
  | cons e r ih =>
    cases j with
    | zero => exact ⟨rfl, rfl⟩
    | succ j =>
      have h2 := ih j (by simpa using h)
      have key : ∀ t, (pv (e :: r))[(j + 1) * 2 + t]? = (pv r)[j * 2 + t]? := fun t => by
        show ([Value.int .i64 e.1, Value.int .i64 e.2] ++ pv r)[(j + 1) * 2 + t]? = _
        rw [List.getElem?_append_right (by simp; omega)]
        congr 1
        simp; omega
      exact ⟨(key 0).trans h2.1, (key 1).trans h2.2⟩
theorem ent_of_own {w : World} {base n ty : Nat} {v : Value} {l : List (Int × Int)} (h : w.ownsRow base ty 2 v n (pv l)) : n = l.length ∧ Ent w v l ∧ ∀ b, v.ownBlock = some b → base ≤ b ∧ b < w.heap.size := by
  have hn : n = l.length := by have := h.1; rw [pv_length] at this; omega
  subst hn
  refine ⟨rfl, ?_, fun b hb => ⟨(h.lt b hb).1, (h.lt b hb).2⟩⟩
  rcases h.2 with ⟨rfl, e⟩ | ⟨g, cap, cur, rfl, hb, hg, hnc, hcm, hcs, ht⟩
  · exact ⟨none, 0, by rw [e], by omega, fun h => absurd h (by omega)⟩
  · refine ⟨_, cap, rfl, hnc, fun h0 => ⟨g, 0, cur, ty, (0, 0), rfl, hg, fun j hj => ?_⟩⟩
    obtain ⟨e1, e2⟩ := pv_at l j hj
    have key : ∀ t u, t < l.length * 2 → (pv l)[t]? = some u → cur[t]? = some u := fun t u htn hu => by
      rw [← ht, List.getElem?_take_of_lt htn] at hu
      simpa using hu
    rw [Nat.zero_add]
    exact ⟨key _ _ (by omega) e1, key _ _ (by omega) e2⟩
/-- The keys that are assigned, with what they have. -/
def prs (f : Int → Option Int) (ks : List Int) : List (Int × Int) := ks.filterMap fun k => (f k).map fun c => (k, c)
theorem prs_length (f : Int → Option Int) (ks : List Int) : (prs f ks).length ≤ ks.length := List.length_filterMap_le _ _
theorem prs_some {f : Int → Option Int} {ks : List Int} {k : Nat} (hk : k < ks.length) {c : Int} (h : f ks[k] = some c) : prs f (ks.take (k + 1)) = prs f (ks.take k) ++ [(ks[k], c)] := by
  unfold prs
  rw [List.take_succ_eq_append_getElem hk, List.filterMap_append]
  simp [h]
theorem prs_none {f : Int → Option Int} {ks : List Int} {k : Nat} (hk : k < ks.length) (h : f ks[k] = none) : prs f (ks.take (k + 1)) = prs f (ks.take k) := by
  unfold prs
  rw [List.take_succ_eq_append_getElem hk, List.filterMap_append]
  simp [h]
theorem prs_of {f : Int → Option Int} : ∀ (l : List (Int × Int)), (∀ x ∈ l, f x.1 = some x.2) → prs f (l.map (·.1)) = l
  | [], _ => rfl
  | x :: r, h => by
    have h1 := h x List.mem_cons_self
    have h2 := prs_of r fun y hy => h y (List.mem_cons_of_mem _ hy)
    unfold prs at h2 ⊢
    rw [List.map_cons, List.filterMap_cons]
    simp only [h1, Option.map_some, h2]
theorem prs_self {L : List (Int × Int)} (hs : Nd L) : prs (look L) (L.map (·.1)) = L := prs_of L fun x hx => look_of_mem (q := x.1) (c := x.2) hs hx
/-- The state of inOrder behind some keys. -/
def InI (w : World) (ty : Nat) (l : List (Int × Int)) (wr : World) : Prop :=
  ∃ v, Bx1 wr w.heap.size ty v ∧ wr.ownsRow (w.heap.size + 1) (ty + 1) 2 v l.length (pv l) ∧ v.ownBlock ≠ some w.heap.size ∧ Below w.heap.size w wr
theorem InI.start (w : World) (ty : Nat) : InI w ty [] (w.alloc (.cells #[.slice none 0 0] ty)) :=
  ⟨_, heap_alloc_new w _, World.ownsRow_nil _ _ _ _, by simp [Value.ownBlock], below_alloc w _⟩
theorem InI.step {w wr w2 : World} {ty ga capa : Nat} {l : List (Int × Int)} {a c : Int} {v : Value} {o : Obj} (hv : Bx1 wr w.heap.size ty v) (ho' : wr.ownsRow (w.heap.size + 1) (ty + 1) 2 v l.length (pv l)) (hvo : v.ownBlock ≠ some w.heap.size) (hbe : Below w.heap.size w wr)
    (ho : w2.ownsRow (w.heap.size + 1) (ty + 1) 2 (.slice (some ⟨ga, 0, none⟩) (l.length + 1) capa) (l.length + 1) (pv l ++ [.int .i64 a, .int .i64 c])) (hg : (wr.alloc o).grownBy w2 v.ownBlock) :
    InI w ty (l ++ [(a, c)]) (w2.setCell ⟨w.heap.size, 0, none⟩ (.slice (some ⟨ga, 0, none⟩) (l.length + 1) capa)) ∧ Bx1 w2 w.heap.size ty v := by
  have hlt0 : w.heap.size < wr.heap.size := hv.lt
  have hw2 : Bx1 w2 w.heap.size ty v := (hg.block _ (by simp; omega) (fun e => hvo e.symm)).trans ((Below.heap_alloc wr _ _ hlt0).trans hv)
  have hga : w.heap.size + 1 ≤ ga := (ho.lt ga rfl).1
  have hgr : Chg (fun k => v.ownBlock = some k) wr w2 := (Chg.of_below (below_alloc wr _)).also (Chg.of_grown hg)
  have hvb : ∀ k, v.ownBlock = some k → w.heap.size + 1 ≤ k := fun k hk => (ho'.lt k hk).1
  have hb2 : Below w.heap.size w w2 := hbe.trans (hgr.below hbe.size (fun i hi => by have := hvb i hi; omega))
  refine ⟨⟨_, heap_setCell_same w2 w.heap.size 0 _ ty _ hw2, ?_, by simp [Value.ownBlock]; omega, hb2.setCell (Nat.le_refl _) _⟩, hw2⟩
  rw [pv_snoc, List.length_append]
  refine ho.kept (row := some w.heap.size) ⟨rfl, rfl, rfl, by simp [World.setCell], fun j hj hne => Below.heap_setCell w2 _ _ j (fun e => hne (by rw [e]))⟩ (.inr ?_)
  simp [Value.ownBlock]; omega
theorem info80 : (Try.prog.info? 80).map (fun i => (i.zero, i.size, i.bytes)) = some (some (.agg #[.int .i64 0, .int .i64 0]), 2, 16) := by kernel_rfl
theorem info_parts80 : ∃ i, Try.prog.info? 80 = some i ∧ i.zero = some (.agg #[.int .i64 0, .int .i64 0]) ∧ i.size = 2 ∧ i.bytes = 16 := by
  have h := info80
  cases e : Try.prog.info? 80 with
  | none => rw [e] at h; cases h
  | some i => rw [e] at h; simp at h; exact ⟨i, rfl, h.1, h.2.1, h.2.2⟩
theorem wpList_append_run {P : Program} {w : World} {ops : Array Oper} {rest : List Oper} {o : Oper} {a : Act} {Q : Exit → Act → World → Prop} (hgd : o.guard = none) (s x : Operand) (t tx : TypeId)
    (ho : o.op = .call { callee := .builtin .append, args := #[s, x], argTypes := #[t, tx] }) (v xv v' : Value) (w' : World) (hs : a.eval s = v) (hx : a.eval x = xv)
    (hr : (Builtin.append_ #[t, tx] o.type #[v, xv]).run P w = .ok v' w') (h : wpList P ops Q rest (a.put o.dst v') w') : wpList P ops Q (o :: rest) a w := by
  refine wpList_plain hgd fun K hK => ?_
  unfold Oper.wp execOp
  simp only [ho, resolve, invoke, builtin, Sem.run_bind, Sem.run_pure, Result.andThen_ok, List.map_toArray, List.map_cons, List.map_nil, hs, hx, hr]
  exact hK _ _ h
/-- What inOrder leaves: an iterator over pairs. -/
def SeqP (w : World) (l : List (Int × Int)) (e : Ending) (w' : World) : Prop :=
  ∃ B v, e = .returned (.func (.func 50) #[] #[.pointer (some ⟨B, 0, none⟩)]) ∧ w.heap.size ≤ B ∧ Bx1 w' B 79 v ∧ Ent w' v l ∧ (∀ b, v.ownBlock = some b → w.heap.size ≤ b ∧ b < w'.heap.size) ∧ Below w.heap.size w w'
theorem inOrder_any {w : World} {v mv : Value} {ks : List Int} {f : Int → Option Int} (hk : Itz w v ks) (hl : ks.length ≤ 16777216) (hR : ∀ x ∈ ks, I64 x)
    (hlook : ∀ W, Below w.heap.size w W → ∀ q, I64 q → (Instr.lookup 53 mv (.int .i64 q) true).run Try.prog W = .ok (.tuple #[.int .i64 ((f q).getD 0), .bool (f q).isSome]) W) : Calls Try.prog 39 #[v, mv] w (SeqP w (prs f ks)) := by
  obtain ⟨i80, hi80, hz0, hz1, hz2⟩ := info_parts80
  obtain ⟨A, c, rfl, _⟩ := hk.form
  have HK := Lib.hid hk
  have HR := Lib.hid hR
  have HLK := Lib.hid hlook
  have hl2 : (ks.length : Int) ≤ 16777216 := by omega
  clear hk hR hlook
  go_enter Try.func39, Try.ntmps39
  go_wp2
  go_loopw [12] (fun i wr => ∃ k : Nat, k ≤ ks.length ∧ i = .int .i64 k ∧ Hid (InI w 79 (prs f (ks.take k)) wr)) (fun i _ => ks.length - (RowKit.intOf i).toNat)
  case atStart => exact ⟨0, Nat.zero_le _, rfl, Lib.hid (InI.start w 79)⟩
  case round =>
    obtain ⟨k, hk, rfl, HI⟩ := hrel
    obtain ⟨v, hv, ho, hvo, hbe⟩ := HI.out
    by_cases hlt : k < ks.length
    · obtain ⟨gx, o, cc, hvg, e0⟩ := (HK.out.below hbe).at hlt
      simp only [Value.slice.injEq] at hvg
      obtain ⟨hA, -, -⟩ := hvg
      subst hA
      have hRk := HR.out _ (List.getElem_mem hlt)
      have lk := HLK.out wr hbe _ hRk
      have HPS := Lib.hid (fun c h => prs_some (f := f) hlt (c := c) h)
      have HPN := Lib.hid (fun h => prs_none (f := f) hlt h)
      have hpl : (prs f (ks.take k)).length ≤ k := by have := prs_length f (ks.take k); simp at this; omega
      generalize ks[k] = q at *
      cases hf : f q with
      | none =>
        rw [hf] at lk
        have HST := Lib.hid (show InI w 79 (prs f (ks.take (k + 1))) wr by rw [HPN.out hf]; exact HI.out)
        clear hv ho hvo hbe hRk hf HI
        go_wp2
        go_roundw
        case rel => exact ⟨k + 1, by omega, by go_num, HST⟩
        case measure => simp [RowKit.intOf]; omega
      | some cq =>
        rw [hf] at lk
        have HE := Lib.hid (HPS.out cq hf)
        generalize prs f (ks.take k) = pl at *
        have hvl := hv.lt
        obtain ⟨ga, capa, w2, hrun, hown2, hgrow, hlies, _⟩ := run_append_lies (P := Try.prog) (wr.alloc (.cells #[.int .i64 q, .int .i64 cq] 80)) 79 79 (w.heap.size + 1) 80 i80 _ 2 16 Try.underlying79 hi80 hz0 hz1 hz2 rfl (by decide) v pl.length (pv pl) (ho.alloc _) ⟨wr.heap.size, 0, none⟩ 1 1 [.int .i64 q, .int .i64 cq] rfl (World.news_of_block (heap_alloc_new wr _)) (by intro u hu; simp at hu; rcases hu with rfl | rfl <;> rfl) (by omega) (by unfold maxLen; omega) (by omega) (by simp; omega) wr.heap.size.succ (by simp)
        obtain ⟨hst, hw2⟩ := InI.step hv ho hvo hbe hown2 hgrow
        have k0 := hv.cell
        have k1 := hw2.cell
        have f1 := hw2.free
        have Hrun := Lib.hid hrun
        have HST := Lib.hid hst
        clear hv ho hvo hbe hrun hown2 hgrow hlies hst hw2 hRk hf HI
        go_wp2_with (at_builtin; refine wpList_append_run rfl (.tmp 23) (.tmp 27) 79 79 rfl _ _ _ w2 rfl rfl Hrun.out ?_)
        go_roundw
        case rel => exact ⟨k + 1, by omega, by go_num, Lib.hid (by rw [HE.out]; exact HST.out)⟩
        case measure => simp [RowKit.intOf]; omega
    · have hkl : k = ks.length := by omega
      subst hkl
      have HI2 := HI.out
      rw [List.take_length] at HI2
      obtain ⟨v', hv', ho', hvo', hbe'⟩ := HI2
      obtain ⟨_, h2, h3⟩ := ent_of_own ho'
      have HF := Lib.hid (show SeqP w (prs f ks) (.returned (.func (.func 50) #[] #[.pointer (some ⟨w.heap.size, 0, none⟩)])) wr from ⟨_, _, rfl, Nat.le_refl _, hv', h2, fun b hb => by have := h3 b hb; omega, hbe'⟩)
      clear hv ho hvo hbe hv' ho' hvo' hbe' h2 h3 HI
      go_wp2
      go_ret
      exact HF.out
end Go.Proofs.Yteiemegkdnjpgaa
