/- The sort family of package slices: stableCmpFunc and SortStableFunc over fewer than 40 elements. Conditions stand in each theorem. -/
import Derived.Test.YtajlddgemkkcdaaQB
import Derived.Test.YtajlddgemkkcdaaQN
import Derived.Shelf.SlGeneric
import Derived.LoopN
namespace Go.Proofs.Ytajlddgemkkcdaa
open Go.Shelf Go.RowKit Go.Lib Go.Sort
set_option linter.unusedVariables false
/-- The numbers under which this program holds the insertion sort. -/
def l34_ren : Go.Shelf.Ren := ⟨fun | 20 => 106 | n => n, fun | 22 => 50 | 24 => 3 | 25 => 32 | n => n, fun | n => n⟩
theorem l34 : Go.Proofs.SlLaysF.n20 Try.prog l34_ren := {
  mixed := by kernel_rfl
  f20 := ⟨Try.f106.name, by decide, Try.func106.trans (congrArg some (by kernel_rfl))⟩
  t0 := Try.underlying0
  a0 := Try.isAgg0
  z0 := Try.sizeOf0
  v0 := Try.zeroValue0
  t3 := Try.underlying3
  a3 := Try.isAgg3
  z3 := Try.sizeOf3
  v3 := Try.zeroValue3
  t4 := Try.underlying4
  a4 := Try.isAgg4
  z4 := Try.sizeOf4
  v4 := Try.zeroValue4
  t22 := Try.underlying50
  a22 := Try.isAgg50
  z22 := Try.sizeOf50
  v22 := Try.zeroValue50
  a24 := Try.isAgg3
  z24 := Try.sizeOf3
  t25 := Try.underlying32
  a25 := Try.isAgg32
  z25 := Try.sizeOf32
  v25 := Try.zeroValue32
  }
variable {α : Type} [Inhabited α]
/-- What a stable sort leaves. -/
def SPost (R : α → α → Prop) (enc : α → Value) (w0 : World) (blk off : Nat) (d : Array α) (e : Ending) (w' : World) : Prop :=
  e = .returned (.tuple #[]) ∧ ∃ d', PermIn 0 d.size d d' ∧ Ord R d' 0 d.size ∧ SW enc w0 blk off d' w'
theorem insSort_any (enc : α → Value) (cf : α → α → Int) (g : Nat) (cb : Array Value) (blk off cap a b : Nat) (d0 d : Array α) (w0 w : World) (Q : α → α → Prop) (hT : ∀ x y z, Q x y → Q y z → Q x z)
    (eg : ∀ args w, (callFunc g args).run Try.prog w = .ok (.enter g args) w) (hcmp : CmpLays1 Try.prog g cb enc cf blk off d0.size w0) (R : Row1 enc w0 blk off d0) (hs : d0.size = d.size) (S : SW enc w0 blk off d w) (hab : a ≤ b) (hb : b ≤ d.size) (hsz : d.size < 4611686018427387904) (ht : Tie Q (ltOf cf) d a b) :
    Calls Try.prog 106 #[.slice (some ⟨blk, off, none⟩) d.size cap, .int .i64 a, .int .i64 b, .func (.func g) #[] cb] w fun e w' => e = .returned (.tuple #[]) ∧ ∃ d', Aside (PermIn a b d d') ∧ Aside (Ord Q d' a b) ∧ Aside (SW enc w0 blk off d' w') := by
  obtain ⟨h1, h2⟩ := insertion_ord hT (ltOf cf) d a b hab hb ht
  refine (Any.insertionSortCmpFunc_s l34 enc cf g cb blk off cap a b d0 d w0 w eg hcmp R hs S hab hb hsz).mono ?_
  rintro e w' ⟨rfl, hS⟩
  exact ⟨rfl, _, h2, h1, hS⟩
set_option maxHeartbeats 4000000 in
set_option maxRecDepth 1000000 in
theorem stable_any (enc : α → Value) (cf : α → α → Int) (g : Nat) (cb : Array Value) (blk off cap : Nat) (d : Array α) (w : World) (Q : α → α → Prop) (hT : ∀ x y z, Q x y → Q y z → Q x z)
    (eg : ∀ args w, (callFunc g args).run Try.prog w = .ok (.enter g args) w) (hcmp : CmpLays1 Try.prog g cb enc cf blk off d.size w) (R : Row1 enc w blk off d) (hsz : d.size < 40) (ht : Tie Q (ltOf cf) d 0 d.size) :
    Calls Try.prog 95 #[.slice (some ⟨blk, off, none⟩) d.size cap, .int .i64 d.size, .func (.func g) #[] cb] w (SPost Q enc w blk off d) := by
  have HI : Aside (∀ (a b : Nat) (dk : Array α) (wk : World), dk.size = d.size → Aside (SW enc w blk off dk wk) → a ≤ b → b ≤ d.size → Aside (Tie Q (ltOf cf) dk a b) →
      Calls Try.prog 106 #[.slice (some ⟨blk, off, none⟩) d.size cap, .int .i64 a, .int .i64 b, .func (.func g) #[] cb] wk fun e w' => e = .returned (.tuple #[]) ∧ ∃ d', Aside (PermIn a b dk d') ∧ Aside (Ord Q d' a b) ∧ Aside (SW enc w blk off d' w')) := fun a b dk wk h1 h2 h3 h4 h5 => by
    have := insSort_any enc cf g cb blk off cap a b d dk w wk Q hT eg hcmp R h1.symm h2.out h3 (by omega) (by omega) h5.out
    rw [h1] at this
    exact this
  have HM : Aside (∀ (a m b : Nat) (dk : Array α) (wk : World), dk.size = d.size → Aside (SW enc w blk off dk wk) → a < m → m < b → b ≤ d.size → Aside (Pre Q (ltOf cf) dk a m b) →
      Calls Try.prog 107 #[.slice (some ⟨blk, off, none⟩) d.size cap, .int .i64 a, .int .i64 m, .int .i64 b, .func (.func g) #[] cb] wk fun e w' => e = .returned (.tuple #[]) ∧ ∃ d', Aside (PermIn a b dk d') ∧ Aside (Ord Q d' a b) ∧ Aside (SW enc w blk off d' w')) := fun a m b dk wk h1 h2 h3 h4 h5 h6 => by
    have := symMerge_any slay enc cf g cb blk off cap d w Q hT eg hcmp R (by omega) (b - a) a m b dk wk (Nat.le_refl _) h1.symm h2.out h3 h4 (by omega) h6.out
    rw [h1] at this
    exact this
  have S0 : Aside (SW enc w blk off d w) := SW.start R.hH
  have HT : Aside _ := ht
  clear hcmp R hT ht eg
  obtain ⟨n, hn⟩ : ∃ n : Nat, n = d.size := ⟨_, rfl⟩
  by_cases h20 : d.size < 20
  · have hc := HI.out 0 d.size d w rfl S0 (Nat.zero_le _) (Nat.le_refl _) HT.out
    have h20z : (d.size : Int) < 20 := by omega
    clear hn
    go_enter Try.func95, Try.ntmps95
    go_wp2
    refine wp_loop_rounds 1 ?_
    rw [rounds_succ]
    go_wp2_with (go_at_call 106; refine hc.mono ?_; rintro e w1 ⟨rfl, d1, P1, O1, S1⟩)
    refine wp_loop_rounds 1 ?_
    rw [rounds_succ]
    go_wp2
    go_end0
    exact ⟨rfl, d1, P1.out, O1.out, S1.out⟩
  · have hc := HI.out 0 20 d w rfl S0 (Nat.zero_le _) (by omega) (fun i j a b c => HT.out i j a b (by omega))
    have h20z : (20 : Int) ≤ (d.size : Int) := by omega
    have h40z : (d.size : Int) < 40 := by omega
    go_enter Try.func95, Try.ntmps95
    go_wp2
    refine wp_loop_rounds 2 ?_
    rw [rounds_succ]
    go_wp2_with (go_at_call 106; refine hc.mono ?_; rintro e w1 ⟨rfl, d1, P1, O1, S1⟩)
    rw [rounds_succ]
    have hs1 : d1.size = d.size := P1.out.1
    have hc2 := HI.out 20 d.size d1 w1 hs1 S1 (by omega) (Nat.le_refl _) (tie_later HT.out P1.out)
    clear hc S0
    go_wp2_with (go_at_call 106; refine hc2.mono ?_; rintro e w2 ⟨rfl, d2, P2, O2, S2⟩)
    have hs2 : d2.size = d.size := P2.out.1.trans hs1
    refine wp_loop_rounds 2 ?_
    rw [rounds_succ]
    by_cases heq : d.size = 20
    · have heqz : (d.size : Int) = 20 := by omega
      go_wp2
      go_end0
      refine ⟨rfl, d2, ?_, ?_, S2.out⟩
      · have h1 := P1.out; have h2 := P2.out
        rw [← heq] at h1 h2
        exact permIn_trans _ _ _ _ _ h1 (permIn_mono _ _ _ _ _ _ (by omega) (Nat.le_refl _) (by omega) h2)
      · intro i j a b c
        rw [P2.out.2.1 i (.inl (by omega)), P2.out.2.1 j (.inl (by omega))]
        exact O1.out i j a b (by omega)
    · have hgtz : (20 : Int) < (d.size : Int) := by omega
      have hc3 := HM.out 0 20 d.size d2 w2 hs2 S2 (by omega) (by omega) (Nat.le_refl _) (pre_blocks HT.out (by omega) (Nat.le_refl _) O1.out P1.out O2.out P2.out)
      go_wp2
      refine wp_loop_rounds 1 ?_
      rw [rounds_succ]
      go_wp2_with (go_at_call 107; refine hc3.mono ?_; rintro e w3 ⟨rfl, d3, P3, O3, S3⟩)
      rw [rounds_succ]
      go_wp2
      go_end0
      refine ⟨rfl, d3, ?_, O3.out, S3.out⟩
      exact permIn_trans _ _ _ _ _ (permIn_mono _ _ _ _ _ _ (Nat.le_refl _) (by omega) (Nat.le_refl _) P1.out) (permIn_trans _ _ _ _ _ (permIn_mono _ _ _ _ _ _ (Nat.zero_le _) (Nat.le_refl _) (by omega) P2.out) P3.out)
set_option maxRecDepth 1000000 in
theorem sortStable_any (enc : α → Value) (cf : α → α → Int) (g : Nat) (cb : Array Value) (blk off cap : Nat) (d : Array α) (w : World) (Q : α → α → Prop) (hT : ∀ x y z, Q x y → Q y z → Q x z)
    (eg : ∀ args w, (callFunc g args).run Try.prog w = .ok (.enter g args) w) (hcmp : CmpLays1 Try.prog g cb enc cf blk off d.size w) (R : Row1 enc w blk off d) (hsz : d.size < 40) (ht : Tie Q (ltOf cf) d 0 d.size) :
    Calls Try.prog 67 #[.slice (some ⟨blk, off, none⟩) d.size cap, .func (.func g) #[] cb] w (SPost Q enc w blk off d) := by
  have hc := stable_any enc cf g cb blk off cap d w Q hT eg hcmp R hsz ht
  clear hcmp R hT ht eg
  go_enter Try.func67, Try.ntmps67
  go_wp2_with (go_at_call 95; refine hc.mono ?_; rintro e w1 ⟨rfl, h1⟩)
  go_end0
  exact ⟨rfl, h1⟩
end Go.Proofs.Ytajlddgemkkcdaa
