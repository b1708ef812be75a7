/- Rows of unsigned integers; the contract of fieldsOf. Conditions stand in each theorem. -/
import Derived.Test.YtajlddgemkkcdaaWD
namespace Go.Proofs.Ytajlddgemkkcdaa
open Go.RowKit
set_option linter.unusedVariables false
set_option maxHeartbeats 4000000
set_option maxRecDepth 100000
/-- append as an operation, not laid open by the walk. -/
def appX (ats : Array TypeId) (ty : TypeId) (args : Array Value) : Sem Next := do pure (.value (← Builtin.append_ ats ty args))
theorem builtin_appX (ats : Array TypeId) (ty : TypeId) (cs : Array Bool) (args : Array Value) : builtin .append ats ty cs args = appX ats ty args := rfl
theorem appX_run {ats : Array TypeId} {ty : TypeId} {args : Array Value} {W W' : World} {r : Value} (h : (Builtin.append_ ats ty args).run Try.prog W = .ok r W') : (appX ats ty args).run Try.prog W = .ok (.value r) W' := by
  unfold appX
  simp only [Sem.run_bind, Sem.run_pure, Result.andThen_ok, h]
theorem info34 : (Try.prog.info? 34).map (fun i => (i.zero, i.size, i.bytes)) = some (some (.int .u64 0), 1, 8) := by kernel_rfl
theorem info_parts8 {o : Option TypeInfo} {z : Option Value} {s b : Nat} (h : o.map (fun i => (i.zero, i.size, i.bytes)) = some (z, s, b)) : ∃ i, o = some i ∧ i.zero = z ∧ i.size = s ∧ i.bytes = b := by
  cases o with
  | none => cases h
  | some i => simp at h; exact ⟨i, rfl, h.1, h.2.1, h.2.2⟩
/-- The cells of unsigned integers. -/
def uv (l : List Int) : List Value := l.map fun n => .int .u64 n
theorem uv_length (l : List Int) : (uv l).length = l.length := by simp [uv]
theorem uv_append (a b : List Int) : uv (a ++ b) = uv a ++ uv b := by simp [uv]
theorem uv_one (l : List Int) : ∀ u ∈ uv l, u.oneCell' = true := by
  intro u hu
  simp only [uv, List.mem_map] at hu
  obtain ⟨b, _, rfl⟩ := hu
  rfl
theorem uv_get {l : List Int} {j : Nat} (h : j < l.length) : (uv l)[j]? = some (.int .u64 l[j]) := by simp [uv, h]
theorem own_form8 {w : World} {base e sz n : Nat} {v : Value} {xs : List Value} (h : w.ownsRow base e sz v n xs) : ∃ A c, v = .slice A n c := by
  rcases h.2 with ⟨rfl, h0⟩ | ⟨g, cap, cur, rfl, _⟩
  · exact ⟨none, 0, by rw [h0]⟩
  · exact ⟨_, _, rfl⟩
theorem own_below8 {w w' : World} {base e sz n : Nat} {v : Value} {xs : List Value} (h : w.ownsRow base e sz v n xs) (hb : Below w.heap.size w w') : w'.ownsRow base e sz v n xs :=
  ⟨h.1, h.2.imp id fun ⟨g, cap, cur, e1, e2, e3, r⟩ => ⟨g, cap, cur, e1, e2, (hb.block g (Array.getElem?_eq_some_iff.1 e3).1).trans e3, r⟩⟩
/-- Two numbers are appended. -/
theorem app_u2 (w : World) (base : Nat) (v : Value) (l : List Int) (a b : Int) (hown : w.ownsRow base 34 1 v l.length (uv l)) (g : Nat) (h0 : w.cell? ⟨g, 0, none⟩ = some (.int .u64 a)) (h1 : w.cell? ⟨g, 1, none⟩ = some (.int .u64 b)) (hsz : l.length ≤ 1000000) (hbase : base ≤ w.heap.size) :
    ∃ A c w', (appX #[66, 66] 66 #[v, .slice (some ⟨g, 0, none⟩) 2 2]).run Try.prog w = .ok (.value (.slice A (l.length + 2) c)) w' ∧ w'.ownsRow base 34 1 (.slice A (l.length + 2) c) (l ++ [a, b]).length (uv (l ++ [a, b])) ∧ w.grownBy w' v.ownBlock := by
  obtain ⟨i0, hi0, hz0, hz1, hz2⟩ := info_parts8 info34
  have hnews : ∀ j u, (uv [a, b])[j]? = some u → w.cell? ((⟨g, 0, none⟩ : Addr).add j) = some u := by
    intro j u hu
    rw [add_plain, Nat.zero_add]
    match j, hu with
    | 0, hu => cases hu; exact h0
    | 1, hu => cases hu; exact h1
    | j + 2, hu => simp [uv] at hu
  obtain ⟨v', w', hrun, h2, h3, _⟩ := run_append_own (P := Try.prog) w base 66 66 34 i0 _ 1 8 Try.underlying66 hi0 hz0 hz1 hz2 rfl (by decide) v l.length (uv l) hown ⟨g, 0, none⟩ 2 2 (uv [a, b]) (by rw [uv_length]; rfl) hnews (uv_one _) (by unfold maxLen; omega) (by omega) hbase
  obtain ⟨B, k, rfl⟩ := own_form8 h2
  rw [← uv_append] at h2
  exact ⟨B, k, w', appX_run hrun, by rw [List.length_append]; exact h2, h3⟩
/-- The numbers that encode entries. -/
def numsF (l : List (Int × Int)) : List Int := l.flatMap fun p => [p.1, p.2 + 1]
theorem numsF_snoc (l : List (Int × Int)) (k : Nat) (h : k < l.length) : numsF (l.take (k + 1)) = numsF (l.take k) ++ [l[k].1, l[k].2 + 1] := by
  unfold numsF
  rw [List.take_succ_eq_append_getElem h, List.flatMap_append]
  simp
theorem numsF_length (l : List (Int × Int)) : (numsF l).length = 2 * l.length := by
  unfold numsF
  induction l with
  | nil => rfl
  | cons p r ih => rw [List.flatMap_cons, List.length_append, ih]; simp; omega
attribute [local go_sem ↓ 100000] builtin_appX
def FldPost (w : World) (l : List Int) (e : Ending) (w' : World) : Prop := (∃ A c, e = .returned (.slice A l.length c) ∧ w'.ownsRow w.heap.size 34 1 (.slice A l.length c) l.length (uv l)) ∧ Below w.heap.size w w'
theorem fields_any (v : Value) (l : List (Int × Int)) (w : World) (h : Ent w v l) (hm : l.length ≤ 2000) (hv : ∀ j (hj : j < l.length), vldB l[j] = true) :
    Calls Try.prog 25 #[v] w (FldPost w ((l.length : Int) :: numsF l)) := by
  obtain ⟨A, c, rfl, hc, hr⟩ := h
  have HR := Lib.hid hr
  have HV := Lib.hid hv
  have hli : (l.length : Int) ≤ 2000 := by omega
  clear hr hv
  go_enter Try.func25, Try.ntmps25
  go_upto_region 3 with fail
  have hb0 : Below w.heap.size w (w.alloc (.cells #[.int .u64 (l.length : Int)] 34)) := (Below.refl _ _).alloc (Nat.le_refl _) _
  have how : (w.alloc (.cells #[.int .u64 (l.length : Int)] 34)).ownsRow w.heap.size 34 1 (.slice (some ⟨w.heap.size, 0, none⟩) 1 1) ([(l.length : Int)] ++ numsF (l.take 0)).length (uv ([(l.length : Int)] ++ numsF (l.take 0))) := by
    exact ⟨rfl, .inr ⟨w.heap.size, 1, _, rfl, Nat.le_refl _, heap_alloc_new w _, Nat.le_refl _, by unfold maxLen; omega, rfl, rfl⟩⟩
  obtain ⟨W0, hW0⟩ : ∃ W0, W0 = w.alloc (.cells #[.int .u64 (l.length : Int)] 34) := ⟨_, rfl⟩
  rw [← hW0] at hb0 how ⊢
  clear hW0
  go_loopw [3, 12] (fun u i wr => ∃ (k : Nat) (B : Option Addr) (d : Nat), k ≤ l.length ∧ i = .int .i64 k ∧ u = .slice B ([(l.length : Int)] ++ numsF (l.take k)).length d ∧ Hid (wr.ownsRow w.heap.size 34 1 (.slice B ([(l.length : Int)] ++ numsF (l.take k)).length d) ([(l.length : Int)] ++ numsF (l.take k)).length (uv ([(l.length : Int)] ++ numsF (l.take k)))) ∧ Hid (Below w.heap.size w wr)) (fun _ i _ => l.length - (RowKit.intOf i).toNat)
  case atStart => exact ⟨0, _, 1, Nat.zero_le _, rfl, rfl, how, hb0⟩
  case round =>
    obtain ⟨k, B, d, hk, rfl, rfl, HO, HB⟩ := hrel
    by_cases hlt : k < l.length
    · obtain ⟨g, o, rfl, hg, hcell⟩ := HR.out (by omega)
      have c1 := (HB.out.cell (p := ⟨g, o + k * 2, none⟩) hg).trans (hcell k hlt).1
      have c2 := (HB.out.cell (p := ⟨g, o + k * 2 + 1, none⟩) hg).trans (hcell k hlt).2
      obtain ⟨y1, y2, y3, y4⟩ := (vldB_iff l[k]).1 (HV.out k hlt)
      have hsn := numsF_snoc l k hlt
      have HSN : Hid ([(l.length : Int)] ++ numsF (l.take (k + 1)) = ([(l.length : Int)] ++ numsF (l.take k)) ++ [l[k].1, l[k].2 + 1]) := Lib.hid (by rw [hsn, List.append_assoc])
      have HLN : Hid (([(l.length : Int)] ++ numsF (l.take k)).length ≤ 1000000) := Lib.hid (by rw [List.length_append, numsF_length, List.length_take, List.length_singleton]; omega)
      clear hsn hcell
      generalize ([(l.length : Int)] ++ numsF (l.take k)) = ns at *
      generalize l[k].1 = x1 at *
      generalize l[k].2 = x2 at *
      have hk0 : (0 : Int) ≤ (k : Int) := by omega
      have hk1 : (k : Int) < (l.length : Int) := by omega
      obtain ⟨W1, hW1⟩ : ∃ W1, W1 = (wr.alloc (.cells #[.int .i64 x1, .int .i64 x2] 40)).alloc (.cells #[.int .u64 x1, .int .u64 (x2 + 1)] 34) := ⟨_, rfl⟩
      have hb1 : Below wr.heap.size wr W1 := by rw [hW1]; exact ((Below.refl _ _).alloc (Nat.le_refl _) _).alloc (by simp) _
      have hn1 : W1.heap[wr.heap.size + 1]? = some (.cells #[.int .u64 x1, .int .u64 (x2 + 1)] 34 (0, 0)) := by
        rw [hW1]
        have := heap_alloc_new (wr.alloc (.cells #[.int .i64 x1, .int .i64 x2] 40)) (.cells #[.int .u64 x1, .int .u64 (x2 + 1)] 34)
        rw [World.size_alloc] at this
        exact this
      have e0 : W1.cell? ⟨wr.heap.size + 1, 0, none⟩ = some (.int .u64 x1) := (cell_of_row _ _ 0 _ 34 (0, 0) hn1).trans rfl
      have e1 : W1.cell? ⟨wr.heap.size + 1, 1, none⟩ = some (.int .u64 (x2 + 1)) := (cell_of_row _ _ 1 _ 34 (0, 0) hn1).trans rfl
      have hown1 : W1.ownsRow w.heap.size 34 1 (.slice B ns.length d) ns.length (uv ns) := own_below8 HO.out hb1
      obtain ⟨B2, d2, W2, hrun, hown2, hgr⟩ := app_u2 W1 w.heap.size _ ns x1 (x2 + 1) hown1 (wr.heap.size + 1) e0 e1 HLN.out (Nat.le_trans HB.out.size hb1.size)
      have HO2 := Lib.hid hown2
      have HB2 : Hid (Below w.heap.size w W2) := Lib.hid ((HB.out.trans (hb1.mono HB.out.size)).grown hgr (Nat.le_trans HB.out.size hb1.size) (fun b hb => (hown1.lt b hb).1))
      rw [hW1] at hrun
      clear hW1 hb1 hn1 e0 e1 hown1 hown2 hgr
      go_wp2
      go_roundw
      case rel =>
        have hl2 : ns.length + 2 = (ns ++ [x1, x2 + 1]).length := by simp
        refine ⟨k + 1, B2, d2, by omega, by go_num, ?_, ?_, HB2⟩
        · rw [HSN.out, hl2]
        · rw [HSN.out, ← hl2]
          have := HO2.out
          rw [← hl2] at this
          exact this
      case measure => simp [RowKit.intOf]; omega
    · obtain rfl : k = l.length := by omega
      have HO2 := HO.out
      have HE : Hid ([(l.length : Int)] ++ numsF (l.take l.length) = (l.length : Int) :: numsF l) := Lib.hid (by rw [List.take_length]; rfl)
      rw [HE.out] at HO2 ⊢
      go_wp2
      go_ret
      exact ⟨⟨B, d, rfl, HO2⟩, HB.out⟩
end Go.Proofs.Ytajlddgemkkcdaa
