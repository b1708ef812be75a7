/- The numbers of a device stay in their bounds; the contract of the law's filled. Conditions stand in each theorem. -/
import Derived.Test.YtddejcoagcaidaaX
namespace Go.Proofs.Ytddejcoagcaidaa
open Go.RowKit
set_option linter.unusedVariables false
set_option maxHeartbeats 2000000
set_option maxRecDepth 100000
theorem wr_lens (x y : List UInt8) (n : Nat) : ((wr x y n).st = 2 ∨ (wr x y n).st = 3) ∧ (wr x y n).d.length = x.length ∧ (wr x y n).s.length = y.length := by
  unfold wr
  refine ⟨?_, ?_, ?_⟩
  · show (if n < (x ++ y).length then (3 : Int) else 2) = 2 ∨ (if n < (x ++ y).length then (3 : Int) else 2) = 3
    split
    · exact .inr rfl
    · exact .inl rfl
  · show ((ffAll (x ++ y) n).take x.length).length = x.length
    rw [List.length_take, ffAll_length, List.length_append]
    omega
  · show ((ffAll (x ++ y) n).drop x.length).length = y.length
    rw [List.length_drop, ffAll_length, List.length_append]
    omega
theorem gd_snoc {s s1 : Dev} (h : Gd s1) (i : Nat) (k : Bk) (p : Pg) (e1 : s1.np = s.np) (e2 : s1.sz = s.sz) (hk : k.pg = (s1.bk i).pg ++ [p]) (hr : k.er = (s1.bk i).er) (hi : i < s1.nb) (hl : (s1.bk i).pg.length < s1.np)
    (hp : (p.st = 2 ∨ p.st = 3) ∧ p.d.length = s1.sz ∧ p.s.length = 64 ∨ (p.st = 4 ∨ p.st = 5)) : Gd (s1.put i k) := by
  refine h.put i k (by rw [hr]; exact h.er i hi) (by rw [hk, List.length_append]; exact hl) (fun q hq => ?_)
  rw [hk, List.mem_append] at hq
  rcases hq with hq | hq
  · exact h.ln i hi q hq
  · rw [List.mem_singleton] at hq
    rw [hq]
    exact hp
theorem gd_pr {s : Dev} (h : Gd s) (q p : Int) (x y : List UInt8) : Gd (s.prS q p x y) := by
  unfold Dev.prS
  split
  · rename_i hc
    obtain ⟨h1, h2, h3⟩ := okB_parts hc.1
    obtain ⟨k, j, rfl, rfl, hk, hj⟩ := hasP_nat h1
    have hnx := hc.2.2
    rw [nx_nat hk] at hnx
    have hl : (s.bk k).pg.length < s.np := by omega
    rw [show ((k : Int)).toNat = k from rfl]
    have w1 := wr_lens x y s.pb.toNat
    have w2 := wr_lens x y (x.length + y.length)
    unfold Dev.exS
    split
    · exact gd_snoc h.cut k _ (wr x y s.pb.toNat) (s := s) rfl rfl rfl rfl hk hl (.inl ⟨w1.1, by rw [w1.2.1, h2]; rfl, by rw [w1.2.2, h3]⟩)
    · split
      · exact gd_snoc h.go k _ ⟨4, [], []⟩ (s := s) rfl rfl rfl rfl hk hl (.inr (.inl rfl))
      · exact gd_snoc h.go k _ (wr x y (x.length + y.length)) (s := s) rfl rfl rfl rfl hk hl (.inl ⟨w2.1, by rw [w2.2.1, h2]; rfl, by rw [w2.2.2, h3]⟩)
  · exact h
theorem gd_er {s : Dev} (h : Gd s) (q : Int) : Gd (s.erS q) := by
  unfold Dev.erS
  split
  · rename_i hc
    obtain ⟨k, rfl, hk⟩ := hasB_nat hc.1
    have he := hc.2.2
    rw [ers_nat hk] at he
    have h1 := h.er k hk
    have hg := h.e1 hk (by omega)
    rw [show ((k : Int)).toNat = k from rfl]
    have hU : ∀ s1 : Dev, Gd s1 → s1.np = s.np → s1.nb = s.nb → s1.bk k = (s.e1 k).bk k → Gd (s1.put k ((s.e1 k).eU k)) := fun s1 g1 e1 e2 e3 => by
      refine g1.put k _ (by have := g1.er k (by omega); rw [e3] at this; exact this) (by show (List.replicate s.np _).length ≤ s1.np; rw [List.length_replicate, e1]; exact Nat.le_refl _) (fun q hq => ?_)
      rw [(List.mem_replicate.1 hq).2]
      exact .inr (.inr rfl)
    unfold Dev.exS
    split
    · exact hU _ hg.cut rfl rfl rfl
    · split
      · exact hU _ hg.go rfl rfl rfl
      · exact hg.go.put k _ (by have := hg.go.er k hk; exact this) (Nat.zero_le _) (fun q hq => by cases hq)
  · exact h
theorem gd_cu {s : Dev} (h : Gd s) (o n : Int) : Gd (s.cuS o n) := by
  unfold Dev.cuS
  split
  · rename_i hc
    have h1 := hc.1
    unfold Dev.cuB wiB at h1
    rw [Bool.and_eq_true] at h1
    have h2 := of_decide_eq_true h1.2
    exact h.ctl (by omega) h.n
  · exact h
theorem gd_rs {s : Dev} (h : Gd s) : Gd (s.ctl (-1) 0 s.n false) := h.ctl (by omega) h.n
/-- The number of operations rises by at most 1. -/
theorem n_ex (s : Dev) (i : Nat) (a b c : Bk) : (s.exS i a b c).n = s.n + 1 := by
  unfold Dev.exS
  split
  · rfl
  · split <;> rfl
theorem n_pr (s : Dev) (q p : Int) (x y : List UInt8) : (s.prS q p x y).n ≤ s.n + 1 := by
  unfold Dev.prS
  split
  · rw [n_ex]; omega
  · omega
theorem n_er (s : Dev) (q : Int) : (s.erS q).n ≤ s.n + 1 := by
  unfold Dev.erS
  split
  · rw [n_ex]
    show s.n + 1 ≤ s.n + 1
    omega
  · omega
theorem n_cu (s : Dev) (o n : Int) : (s.cuS o n).n = s.n := by
  unfold Dev.cuS
  split <;> rfl
theorem make_bytes (w : World) (n : Nat) (h : n ≤ 1000) : (Instr.makeSlice 41 (.int .i64 (n : Int)) (.int .i64 (n : Int))).run Try.prog w = .ok (.slice (some ⟨w.heap.size, 0, none⟩) n n) (w.alloc (.cells (madeCells #[.int .u8 0] n) 5)) := by
  obtain ⟨i0, hi0, hz0, hz1, hz2⟩ := info_parts u8_info
  have hr := run_makeSlice (P := Try.prog) w 41 5 i0 _ Try.underlying41 hi0 hz0 .i64 .i64 n n (by omega) (Int.le_refl _) (by rw [hz1]; omega) (by rw [hz2]; omega) (by omega)
  simp only [Int.toNat_natCast] at hr
  rw [hr, hz1, Nat.mul_one]
  rfl
theorem made_own (w : World) (n : Nat) (h : n ≤ 1000) : (w.alloc (.cells (madeCells #[.int .u8 0] n) 5)).ownsRow w.heap.size 5 1 (.slice (some ⟨w.heap.size, 0, none⟩) n n) n (bv (List.replicate n 0)) := by
  refine ⟨by rw [bv_length, List.length_replicate]; omega, .inr ⟨_, n, _, rfl, Nat.le_refl _, heap_alloc_new w _, Nat.le_refl _, by unfold maxLen; omega, by rw [size_madeCells]; omega, ?_⟩⟩
  rw [List.take_of_length_le (by rw [Array.length_toList, size_madeCells]; omega)]
  apply List.ext_getElem?
  intro j
  by_cases hj : j < n
  · simp [madeCells, bv, hj, Nat.mod_one]
  · simp [madeCells, bv, hj]
theorem fill_step (n k : Nat) (b : UInt8) (h : k < n) : (List.replicate k b ++ List.replicate (n - k) 0).set k b = List.replicate (k + 1) b ++ List.replicate (n - (k + 1)) 0 := by
  rw [List.set_append_right _ _ (by simp)]
  simp only [List.length_replicate, Nat.sub_self]
  rw [show n - k = (n - (k + 1)) + 1 by omega, List.replicate_succ, List.set_cons_zero, List.replicate_succ', List.append_assoc]
  rfl
theorem filled_any (n : Nat) (b : UInt8) (w : World) (h : n ≤ 1000) : Calls Try.prog 32 #[.int .i64 (n : Int), .int .u8 (b.toNat : Int)] w (NewBytes w (List.replicate n b)) := by
  have hmk := make_bytes w n h
  have HO := Lib.hid (made_own w n h)
  have HB := Lib.hid (below_alloc w (.cells (madeCells #[.int .u8 0] n) 5))
  generalize w.alloc (.cells (madeCells #[.int .u8 0] n) 5) = w1 at *
  obtain ⟨g, hg⟩ : ∃ g, g = w.heap.size := ⟨_, rfl⟩
  rw [← hg] at hmk
  have HGE := Lib.hid hg
  rw [← hg] at HO
  clear hg
  have hn0 : (0 : Int) ≤ n := by omega
  have hn1 : (n : Int) ≤ 1000 := by omega
  go_enter Try.func32, Try.ntmps32
  go_wp2
  clear hmk
  go_loopw [6] (fun i wr => ∃ k : Nat, k ≤ n ∧ i = .int .i64 k ∧ Hid (wr.ownsRow g 5 1 (.slice (some ⟨g, 0, none⟩) n n) n (bv (List.replicate k b ++ List.replicate (n - k) 0))) ∧ Hid (Chg (· = g) w1 wr)) (fun i _ => n - (RowKit.intOf i).toNat)
  case atStart => exact ⟨0, Nat.zero_le _, rfl, Lib.hid (by simpa using HO.out), Lib.hid (Chg.refl _ _)⟩
  case round =>
    obtain ⟨k, hk, rfl, HR, HC⟩ := hrel
    by_cases hlt : k < n
    · have f1 := HR.out.frozenAt k
      have c1 : ∃ u, wr.cell? ⟨g, k, none⟩ = some u := by
        rw [HR.out.cellAt k (by omega)]
        exact ⟨_, List.getElem?_eq_getElem (by rw [bv_length]; simp; omega)⟩
      obtain ⟨u, c1⟩ := c1
      go_wp2
      go_roundw
      case rel =>
        refine ⟨k + 1, by omega, by go_num, Lib.hid ?_, Lib.hid (HC.out.setCell rfl _)⟩
        have h2 := HR.out.stored k (.int .u8 (b.toNat : Int))
        rw [bv_set, fill_step n k b hlt] at h2
        exact h2.1
      case measure => simp [RowKit.intOf]; omega
    · have hkn : k = n := by omega
      subst hkn
      have hr := HR.out
      rw [Nat.sub_self, List.replicate_zero, List.append_nil] at hr
      have HR2 := Lib.hid hr
      clear hr
      go_wp2
      go_ret
      refine ⟨⟨some ⟨g, 0, none⟩, k, ?_, ?_⟩, HB.out.trans (HC.out.below HB.out.size (fun i hi => by rw [hi, HGE.out]; exact Nat.le_refl _))⟩
      · rw [List.length_replicate]; rfl
      · rw [List.length_replicate, ← HGE.out]; exact HR2.out
end Go.Proofs.Ytddejcoagcaidaa
