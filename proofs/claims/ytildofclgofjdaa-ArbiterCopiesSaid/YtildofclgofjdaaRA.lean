/- The reference: the value of an arbiter; New, Configure, at. Conditions stand in each theorem. -/
import Derived.Test.YtildofclgofjdaaY
namespace Go.Proofs.Ytildofclgofjdaa
open Go.RowKit
set_option linter.unusedVariables false
set_option maxHeartbeats 400000
set_option maxRecDepth 100000
/-- The cells of the reference's arbiter in the state s, its list in the slice v. -/
def RC (s : St) (v : Value) : Array Value := #[.bool s.wt, .int .i64 s.bu, .int .i64 s.hi, .int .i64 s.me, .int .i64 s.lo, v, .int .i64 (s.last 0), .int .i64 (s.last 1), .int .i64 (s.last 2), .int .i64 (s.last 3), .int .i64 (s.cr 0), .int .i64 (s.cr 1), .int .i64 (s.cr 2), .int .i64 (s.cr 3)]
/-- Another configuration: the credits anew. -/
def St.conf (s : St) (wt : Bool) (bu hi me lo : Int) : St := { s with wt := wt, bu := bu, hi := hi, me := me, lo := lo, cr := wts hi me lo }
def RPost (w : World) (s : St) (v : Value) (e : Ending) (w' : World) : Prop := e = .returned (.agg (RC s v)) ∧ Below w.heap.size w w'
/-- A result variable that is a row of memory, alone, with one and with three other results. -/
theorem results_row {P : Program} {fn : Func} {a : Tmp} {ty : TypeId} (h : fn.results = #[.cell a ty]) (tmps : Array Value) (w : World) (g : Nat) (t : TypeId) (cs : Array Value) (fr : Nat × Nat) (d : TypeDesc) (ha : tmps.getD a undef = .pointer (some ⟨g, 0, none⟩)) (hg : w.heap[g]? = some (.cells cs t fr))
    (hu : P.underlying ty = some d) (hd : (match d with | .struct _ | .array _ _ => true | _ => false) = true) (hi : (P.info? ty).map (·.size) = some cs.size) : (results fn tmps).run P w = .ok (.agg cs) w := by
  have e := run_loadVar_row (P := P) w g t ty cs fr d hg hu hd hi
  have ha2 : tmps[a]?.getD undef = .pointer (some ⟨g, 0, none⟩) := by simpa using ha
  simp [results, h, ha2, asAddr, e]
theorem results_row1 {P : Program} {fn : Func} {a b : Tmp} {ty : TypeId} (h : fn.results = #[.cell a ty, .tmp b]) (tmps : Array Value) (w : World) (g : Nat) (t : TypeId) (cs : Array Value) (fr : Nat × Nat) (d : TypeDesc) (ha : tmps.getD a undef = .pointer (some ⟨g, 0, none⟩)) (hg : w.heap[g]? = some (.cells cs t fr))
    (hu : P.underlying ty = some d) (hd : (match d with | .struct _ | .array _ _ => true | _ => false) = true) (hi : (P.info? ty).map (·.size) = some cs.size) : (results fn tmps).run P w = .ok (.tuple #[.agg cs, tmps.getD b undef]) w := by
  have e := run_loadVar_row (P := P) w g t ty cs fr d hg hu hd hi
  have ha2 : tmps[a]?.getD undef = .pointer (some ⟨g, 0, none⟩) := by simpa using ha
  simp [results, h, ha2, asAddr, e]
theorem results_row3 {P : Program} {fn : Func} {a b b' b'' : Tmp} {ty : TypeId} (h : fn.results = #[.cell a ty, .tmp b, .tmp b', .tmp b'']) (tmps : Array Value) (w : World) (g : Nat) (t : TypeId) (cs : Array Value) (fr : Nat × Nat) (d : TypeDesc) (ha : tmps.getD a undef = .pointer (some ⟨g, 0, none⟩)) (hg : w.heap[g]? = some (.cells cs t fr))
    (hu : P.underlying ty = some d) (hd : (match d with | .struct _ | .array _ _ => true | _ => false) = true) (hi : (P.info? ty).map (·.size) = some cs.size) : (results fn tmps).run P w = .ok (.tuple #[.agg cs, tmps.getD b undef, tmps.getD b' undef, tmps.getD b'' undef]) w := by
  have e := run_loadVar_row (P := P) w g t ty cs fr d hg hu hd hi
  have ha2 : tmps[a]?.getD undef = .pointer (some ⟨g, 0, none⟩) := by simpa using ha
  simp [results, h, ha2, asAddr, e]
theorem info35 : (Try.prog.info? 35).map (·.size) = some 14 := by kernel_rfl
theorem rconf_any (s : St) (A : Option Addr) (n c : Nat) (wt : Bool) (bu hi me lo : Int) (w : World) :
    Calls Try.prog 27 #[.agg (RC s (.slice A n c)), .agg #[.bool wt, .int .i64 bu, .int .i64 hi, .int .i64 me, .int .i64 lo]] w (RPost w (s.conf wt bu hi me lo) (.slice A n c)) := by
  unfold RC
  go_enter Try.func27, Try.ntmps27
  go_wp2
  (try simp only [Exit.inBlock, Exit.then])
  refine bodyPost_ret (results_row (a := 4) (ty := 35) rfl _ _ (w.heap.size + 1 + 1) 35 (RC (s.conf wt bu hi me lo) (.slice A n c)) (0, 0) _ rfl ?_ Try.underlying35 rfl info35) rfl ?_
  · have := heap_alloc_new ((w.alloc (.cells (RC (s.conf wt bu hi me lo) (.slice A n c)) 35)).alloc (.cells #[.bool wt, .int .i64 bu, .int .i64 hi, .int .i64 me, .int .i64 lo] 23)) (.cells (RC (s.conf wt bu hi me lo) (.slice A n c)) 35)
    rw [World.size_alloc, World.size_alloc] at this
    exact this
  · exact ⟨rfl, (((Below.refl _ _).alloc (Nat.le_refl _) _).alloc (by simp) _).alloc (by simp; omega) _⟩
/-- Where the queue stands, or -1. -/
def AtPost (w : World) (L : List (Int × Int)) (q : Int) (e : Ending) (w' : World) : Prop :=
  ∃ i : Int, e = .returned (.int .i64 i) ∧ Below w.heap.size w w' ∧ ((i = -1 ∧ ∀ p ∈ L, p.1 ≠ q) ∨ ∃ (k : Nat) (h : k < L.length), i = (k : Int) ∧ L[k].1 = q)
theorem at_any (s : St) (v : Value) (q : Int) (w : World) (hl : Lds w v s.L) (hm : s.L.length ≤ 100000) :
    Calls Try.prog 39 #[.agg (RC s v), .int .i64 q] w (AtPost w s.L q) := by
  obtain ⟨A, c, rfl, hcc, hr⟩ := hl
  have HR := Lib.hid hr
  clear hr
  generalize s.L = L at *
  unfold RC
  go_enter Try.func39, Try.ntmps39
  go_wp2
  go_loop [5] (fun i => ∃ (k : Nat), k ≤ L.length ∧ i = .int .i64 k ∧ Hid (∀ j (hj : j < L.length), j < k → L[j].1 ≠ q)) (fun i => L.length - (RowKit.intOf i).toNat)
  case atStart => exact ⟨0, Nat.zero_le _, rfl, fun j hj h => absurd h (by omega)⟩
  case round =>
    obtain ⟨k, hk, rfl, HN⟩ := hrel
    by_cases hlt : k < L.length
    · obtain ⟨g, o, rfl, hg, hcell⟩ := HR.out (by omega)
      have hng : g ≠ w.heap.size := by omega
      have c1 := (hcell k hlt).1
      have HB := Lib.hid (below_alloc w (.cells #[.bool s.wt, .int .i64 s.bu, .int .i64 s.hi, .int .i64 s.me, .int .i64 s.lo, .slice (some ⟨g, o, none⟩) L.length c, .int .i64 (s.last 0), .int .i64 (s.last 1), .int .i64 (s.last 2), .int .i64 (s.last 3), .int .i64 (s.cr 0), .int .i64 (s.cr 1), .int .i64 (s.cr 2), .int .i64 (s.cr 3)] 35))
      have c2 := (HB.out.cell (p := ⟨g, o + k * 2, none⟩) (by exact hg)).trans c1
      have HX := Lib.hid (rfl : L[k].1 = L[k].1)
      have HK : Hid (∀ x, x = L[k].1 → x ≠ q → ∀ j (hj : j < L.length), j < k + 1 → L[j].1 ≠ q) := Lib.hid (fun x hx hne j hj hjk => by
        rcases Nat.lt_or_ge j k with h | h
        · exact HN.out j hj h
        · have : j = k := by omega
          subst this
          rw [← hx]
          exact hne)
      have HK2 : Hid (∀ x, x = L[k].1 → x = q → ∃ (k' : Nat) (h : k' < L.length), (k : Int) = (k' : Int) ∧ L[k'].1 = q) := Lib.hid (fun x hx he => ⟨k, hlt, rfl, by rw [← hx]; exact he⟩)
      obtain ⟨x, hx⟩ : ∃ x, x = L[k].1 := ⟨_, rfl⟩
      have HXX := Lib.hid hx
      rw [← hx] at c2
      clear HX hx c1 hcell
      by_cases he : x = q
      · subst he
        go_wp2
        go_ret
        exact ⟨_, rfl, HB.out, .inr (HK2.out x HXX.out rfl)⟩
      · go_wp2
        go_round
        case rel => exact ⟨k + 1, by omega, by go_num, HK.out x HXX.out he⟩
        case measure => simp [RowKit.intOf]; omega
    · go_wp2
      go_ret
      refine ⟨_, rfl, below_alloc _ _, .inl ⟨rfl, fun p hp => ?_⟩⟩
      obtain ⟨j, hj, rfl⟩ := List.mem_iff_getElem.1 hp
      exact HN.out j hj (by omega)
end Go.Proofs.Ytildofclgofjdaa
