/- The walk of PrpHolds. Conditions stand in each theorem. -/
import Derived.Test.YtngaifokkkmmcaaHB
namespace Go.Proofs.Ytngaifokkkmmcaa
open Go.RowKit Go.Shelf
set_option linter.unusedVariables false
set_option maxHeartbeats 4000000
set_option maxRecDepth 100000
/-- The pages that the bytes name. -/
def pgs (l : List UInt8) : List Nat := l.map fun x => x.toNat % 16 * 4096
theorem pgs_length (l : List UInt8) : (pgs l).length = l.length := by simp [pgs]
theorem pgs_at (l : List UInt8) (k : Nat) (h : k < l.length) : (pgs l)[k]'(by rw [pgs_length]; exact h) = l[k].toNat % 16 * 4096 := by simp [pgs]
theorem pgs_mem (l : List UInt8) : ∀ x ∈ pgs l, x % 4096 = 0 ∧ x + 4096 ≤ 65536 := fun x hx => by
  obtain ⟨y, -, rfl⟩ := List.mem_map.1 hx
  omega
theorem pgs_snoc (l : List UInt8) (k : Nat) (h : k < l.length) : (pgs l).take (k + 1) = (pgs l).take k ++ [l[k].toNat % 16 * 4096] := by
  rw [List.take_succ_eq_append_getElem (by rw [pgs_length]; exact h), pgs_at l k h]
/-- The number that a byte names. -/
theorem page_of (x : Nat) (h : x < 256) : ∃ P : Nat, P = x % 16 * 4096 ∧ ∃ Y : Int, IntKind.u64.wrap (x : Int) = (x : Int) ∧ (x : Int).tmod 16 = Y ∧ IntKind.u64.wrap Y = Y ∧ IntKind.u64.wrap (Y * 4096) = (P : Int) := by
  refine ⟨_, rfl, ((x % 16 : Nat) : Int), u64_nat x (by omega), tmod_nat x 16, u64_nat _ (by omega), ?_⟩
  rw [show ((x % 16 : Nat) : Int) * 4096 = ((x % 16 * 4096 : Nat) : Int) by omega]
  exact u64_nat _ (by omega)
/-- What was added up behind k spans. -/
def smf (nn o : Nat) (l : List UInt8) (k : Nat) : Nat := nn - rst nn ((offs o (pgs l)).take k)
theorem tdiv_nat (x y : Nat) : (x : Int).tdiv (y : Int) = ((x / y : Nat) : Int) := by rw [Int.tdiv_eq_ediv_of_nonneg (by omega)]; rfl
/-- The sums at a span. -/
theorem span_ints (x z p o' s s1 : Nat) (hx : x = p + o') (hb : x + z ≤ 65536) (hz : 1 ≤ z) (hm : x % 4096 + z ≤ 4096) (hs : s + z = s1) (hs1 : s1 ≤ 1000000) :
    ∃ Q XZ XZ1 : Int, IntKind.u64.wrap ((p : Int) + (o' : Int)) = (x : Int) ∧ decide ((z : Int) < 1) = false ∧ (x : Int).tdiv 4096 = Q ∧ IntKind.u64.wrap Q = Q ∧ IntKind.u64.wrap (z : Int) = (z : Int) ∧ IntKind.u64.wrap ((x : Int) + (z : Int)) = XZ ∧ IntKind.u64.wrap (XZ - 1) = XZ1 ∧ XZ1.tdiv 4096 = Q ∧ IntKind.i64.wrap ((s : Int) + (z : Int)) = (s1 : Int) ∧ wrap64 ((s : Int) + (z : Int)) = (s1 : Int) := by
  have e1 : (p : Int) + (o' : Int) = (x : Int) := by omega
  have e2 : (x : Int) + (z : Int) = ((x + z : Nat) : Int) := by omega
  have e3 : ((x + z : Nat) : Int) - 1 = ((x + z - 1 : Nat) : Int) := by omega
  have e4 : (x + z - 1) / 4096 = x / 4096 := by omega
  have e5 : (s : Int) + (z : Int) = (s1 : Int) := by omega
  refine ⟨((x / 4096 : Nat) : Int), ((x + z : Nat) : Int), ((x + z - 1 : Nat) : Int), by rw [e1]; exact u64_nat x (by omega), decide_eq_false (by omega), tdiv_nat x 4096, u64_nat _ (by omega), u64_nat z (by omega), by rw [e2]; exact u64_nat _ (by omega), by rw [e3]; exact u64_nat _ (by omega), ?_, by rw [e5]; exact i64_nat _ (by omega), by rw [e5]; exact wrap64_nat _ (by omega)⟩
  rw [← e4]
  exact tdiv_nat (x + z - 1) 4096
section
attribute [local go_sem ↓ 100000] builtin_appX
theorem holds_main (v : Value) (l : List UInt8) (of st nn : Nat) (w : World) (hv : Byt w v l) (hof : of < 65536) (hst : st < 65536) (h1 : l.length ≤ 30) (hn : nn ≤ 200000) (hc : l.length = cnt (of % 1024 * 4) (nn : Int)) : Calls Try.prog 7 #[v, .int .u16 (of : Int), .int .u16 (st : Int), .int .i64 (nn : Int)] w (OkB w) := by
  obtain ⟨A0, c0, rfl, hcc, hrr⟩ := hv
  obtain ⟨X1, o, hO, ho, ho4, AB⟩ := sums_of of hof
  obtain ⟨X2, at', hAt, hat, hat8, BB⟩ := sums_st st hst
  have HAB := Lib.hid AB
  have HBB := Lib.hid BB
  clear AB BB
  have HN := Lib.hid (new20 w)
  have HWk := Lib.hid works_any
  have HM := Lib.hid (fun (W : World) (q : Int) => num_any q W)
  rw [← hO] at hc
  have HC := Lib.hid (fun W => Count_any o (nn : Int) W (by omega))
  rw [← hc] at HC
  have d1 : decide ((l.length : Int) > 30) = false := decide_eq_false (by omega)
  have d1b : decide ((30 : Int) < (l.length : Int)) = false := decide_eq_false (by omega)
  have d1c : decide (30 < l.length) = false := decide_eq_false (by omega)
  have d2 : decide ((nn : Int) < 0) = false := decide_eq_false (by omega)
  have d3 : decide ((nn : Int) > 200000) = false := decide_eq_false (by omega)
  have d3b : decide (200000 < (nn : Int)) = false := decide_eq_false (by omega)
  have d3c : decide (200000 < nn) = false := decide_eq_false (by omega)
  obtain ⟨l0, hl0⟩ : ∃ l0, l0 = 69632 + at' := ⟨_, rfl⟩
  have e5 : (69632 : Int) + (at' : Int) = (l0 : Int) := by omega
  have b5 : IntKind.u64.wrap ((69632 : Int) + (at' : Int)) = (l0 : Int) := by rw [e5]; exact u64_nat l0 (by clear HAB HBB; omega)
  have HB5 := Lib.hid b5
  clear b5
  have hpl : (pgs l).length = cnt o (nn : Int) := by rw [pgs_length, hc]
  have HBd := Lib.hid (fun (W : World) (b d cap : Nat) (vp : Value) (hk : Kp w b d cap m20 W) (hp : W.ownsRow w.heap.size 23 1 vp (pgs l).length (uv (pgs l))) =>
    kp_bld hk m20_gm (by show (0 : Nat) < 999999; decide) vp l0 73728 o nn (pgs l) (l0 : Int) 73728 rfl rfl ho ho4 (by omega) hp (fun x hx => (pgs_mem l x hx).1) hpl (fun x hx => by have := (pgs_mem l x hx).2; rw [m20_len]; omega) (by rw [hl0]; unfold te; omega) (by omega) (by rw [m20_len]; omega))
  have HF := Lib.hid (And.intro ho (And.intro hpl (And.intro hn h1)))
  have HX := Lib.hid (And.intro hcc hrr)
  have hli : (l.length : Int) ≤ 30 := by omega
  obtain ⟨a1, a2, a3, a4, a5, a6, a7, a8⟩ := HAB.out
  obtain ⟨b1, b2, b3, b4⟩ := HBB.out
  have b5 := HB5.out
  clear hcc hrr hO hAt hof hst ho ho4 hat hat8 HAB HBB hn h1 hc hpl hl0 e5 HB5
  generalize (of : Int) = OF at *
  generalize (st : Int) = ST at *
  generalize (X1 : Int) = x1 at *
  generalize (X2 : Int) = x2 at *
  generalize (at' : Int) = AT at *
  generalize hoo : (o : Int) = oo at *
  generalize hll : (l0 : Int) = ll at *
  have HOO := Lib.hid hoo
  clear hoo hll
  go_enter Try.func7, Try.ntmps7
  go_wp2_with fail
  with_reducible refine HN.out.mono ?_
  rintro e w1 ⟨b, d, cap, rfl, hk⟩
  have HK := Lib.hid hk
  clear hk
  go_wp2_with (first
    | ((go_at_call 21; with_reducible refine (HC.out _).mono ?_); rintro e w' ⟨rfl, rfl⟩))
  go_loopw [13, 14] (fun v i wr => ∃ k : Nat, k ≤ l.length ∧ i = .int .i64 (k : Int) ∧ Hid (∃ A c, v = .slice A k c) ∧ Hid (wr.ownsRow w.heap.size 23 1 v k (uv ((pgs l).take k))) ∧ Hid (Kp w b d cap m20 wr)) (fun _ i _ => l.length - (RowKit.intOf i).toNat)
  case atStart => exact ⟨0, Nat.zero_le _, rfl, Lib.hid ⟨none, 0, rfl⟩, Lib.hid (World.ownsRow_nil _ _ _ _), HK⟩
  case round =>
    obtain ⟨k, hk, rfl, HV, HO, HKr⟩ := hrel
    obtain ⟨A2, c2, rfl⟩ := HV.out
    by_cases hlt : k < l.length
    · obtain ⟨g, o', rfl, hg, hcell⟩ := HX.out.2 (by omega)
      have c1 := (HKr.out.2.cell (p := ⟨g, o' + k, none⟩) hg).trans (hcell k hlt)
      have hxl : l[k].toNat < 256 := l[k].toNat_lt
      have hsn := pgs_snoc l k hlt
      obtain ⟨x, hx⟩ : ∃ x, x = l[k].toNat := ⟨_, rfl⟩
      rw [← hx] at c1 hsn hxl
      obtain ⟨P, hP, Y, y1, y2, y3, y4⟩ := page_of x hxl
      rw [← hP] at hsn
      have hki : (k : Int) < (l.length : Int) := by clear y1 y2 y3 y4 a1 a2 a3 a4 a5 a6 a7 a8 b1 b2 b3 b4 b5; omega
      have hkm : k ≤ 1000000 := by have := HF.out.2.2.2; clear y1 y2 y3 y4 a1 a2 a3 a4 a5 a6 a7 a8 b1 b2 b3 b4 b5; omega
      have hbA := below_alloc wr (.cells #[.int .u64 (P : Int)] 23)
      obtain ⟨A3, c3, W3, hap, hown, hgr⟩ := app_u64 (wr.alloc (.cells #[.int .u64 (P : Int)] 23)) w.heap.size k (.slice A2 k c2) ((pgs l).take k) P ⟨wr.heap.size, 0, none⟩ (own_below HO.out hbA)
        (fun j u hu => by
          have hj : j = 0 := by
            have := (List.getElem?_eq_some_iff.1 hu).1
            simpa [uv] using this
          subst hj
          simp only [uv, List.map_cons, List.map_nil, List.getElem?_cons_zero, Option.some.injEq] at hu
          subst hu
          rw [add_plain]
          exact box_cell wr _ 23) hkm (Nat.le_trans HKr.out.2.size hbA.size)
      have hrun := appX_run hap
      rw [← hsn] at hown
      have HO3 := Lib.hid hown
      have HK3 := Lib.hid (kp_grow HKr.out hbA HO.out hgr)
      clear hx hP hxl hcell hap hown hgr hbA hsn hkm
      generalize (P : Int) = Pi at *
      generalize (x : Int) = xi at *
      go_wp2
      go_roundw
      case rel => exact ⟨k + 1, by clear y1 y2 y3 y4 a1 a2 a3 a4 a5 a6 a7 a8 b1 b2 b3 b4 b5; omega, by go_num, Lib.hid ⟨_, _, rfl⟩, HO3, HK3⟩
      case measure => clear y1 y2 y3 y4 a1 a2 a3 a4 a5 a6 a7 a8 b1 b2 b3 b4 b5; simp [RowKit.intOf]; omega
    · obtain rfl : k = l.length := by clear a1 a2 a3 a4 a5 a6 a7 a8 b1 b2 b3 b4 b5; omega
      have hown := HO.out
      rw [List.take_of_length_le (by rw [pgs_length]; exact Nat.le_refl _), ← pgs_length] at hown
      have HBX := Lib.hid (HBd.out wr b d cap _ HKr.out hown)
      rw [pgs_length] at HBX
      have HOW := Lib.hid hown
      clear hown a1 a2 a3 a4 a5 a6 a7 b1 b2 b3 b4 HBd HC HN
      go_wp2_with fail
      with_reducible refine HBX.out.mono ?_
      rintro e w2 ⟨m', a, s, rfl, hk2, hG2, hm2, ha, hs, hE, hU⟩
      have HSP := Lib.hid (Spans_any hk2.1 hG2 a s (nn : Int) ha hs)
      rw [hE] at HSP
      have HK2 := Lib.hid (And.intro hk2 (And.intro hG2 (And.intro hm2 hU)))
      have hsl : (spl nn (offs o (pgs l))).length = l.length := by rw [spl_length, offs_length, pgs_length]
      clear hk2 hG2 hm2 ha hs hE hU HBX b5
      go_wp2_with fail
      with_reducible refine HSP.out.mono ?_
      rintro e w3 ⟨⟨A5, c5, rfl, ho5⟩, hb3⟩
      have e1 : lstO (.ok (spl nn (offs o (pgs l))) : Except Int (List (Nat × Nat))) = spl nn (offs o (pgs l)) := rfl
      have e2 : numO (.ok (spl nn (offs o (pgs l))) : Except Int (List (Nat × Nat))) = 0 := rfl
      rw [e1] at ho5 ⊢
      rw [e2]
      have hSp := spn_of_own ho5
      rw [hsl] at ho5 ⊢
      have HSN := Lib.hid hSp
      have HUP := Lib.hid (HK2.out.2.2.2.below hb3)
      have HK3 := Lib.hid (HK2.out.1.later hb3)
      clear ho5 hb3 hSp
      go_wp2_with (first
        | ((go_at_call 12; with_reducible refine (HM.out _ _).mono ?_); rintro e w' ⟨rfl, rfl⟩))
      have HA8 := Lib.hid a8
      clear a8
      go_loopw [20, 21] (fun v i wr => ∃ k : Nat, k ≤ l.length ∧ i = .int .i64 (k : Int) ∧ v = .int .i64 ((smf nn o l k : Nat) : Int) ∧ Hid (Below w3.heap.size w3 wr)) (fun _ i _ => l.length - (RowKit.intOf i).toNat)
      case atStart => exact ⟨0, Nat.zero_le _, rfl, by unfold smf; simp [rst], Lib.hid (Below.refl _ _)⟩
      case round =>
        obtain ⟨k, hk, rfl, rfl, HB⟩ := hrel
        by_cases hlt : k < l.length
        · obtain ⟨ho, hpl, hn, h1⟩ := HF.out
          have hpm : ∀ x ∈ pgs l, x % 4096 = 0 := fun x hx => (pgs_mem l x hx).1
          have hkp : k < (pgs l).length := by rw [pgs_length]; exact hlt
          have hn1 : 1 ≤ nn := by
            rcases Nat.eq_zero_or_pos nn with h0 | h0
            · rw [h0] at hpl
              unfold cnt at hpl
              rw [if_pos (.inl (by omega))] at hpl
              omega
            · exact h0
          obtain ⟨x, z, r, f1, f2, f3, f4, f5, f6, f7, f8, f9⟩ := span_facts ho hpm hn1 (by omega) hpl k hkp
          have hpb := (pgs_mem l _ (List.getElem_mem hkp)).2
          obtain ⟨p, hp⟩ : ∃ p, p = (pgs l)[k] := ⟨_, rfl⟩
          rw [← hp] at f2 f9 hpb
          have hpx : k ≠ 0 → p = x := fun h => by rw [f2, if_neg h]; rfl
          have hsm : smf nn o l k + z = smf nn o l (k + 1) := by unfold smf; rw [f3, f7]; omega
          have hsm1 : smf nn o l (k + 1) ≤ 1000000 := by unfold smf; omega
          obtain ⟨Q, XZ, XZ1, g1, g2, g3, g4, g5, g6, g7, g8, g9, g10⟩ := span_ints x z p (if k = 0 then o else 0) _ _ f2 (by omega) f4 f8 hsm hsm1
          obtain ⟨Au, cu, eu, -, -, hru⟩ := HUP.out
          obtain ⟨g, o', rfl, hg, hcell⟩ := hru (by omega)
          have c1 := (HB.out.cell (p := ⟨g, o' + k, none⟩) hg).trans (hcell k hkp)
          rw [← hp] at c1
          simp only [Value.slice.injEq] at eu
          obtain ⟨rfl, -, rfl⟩ := eu
          obtain ⟨As, cs, es, -, hrs⟩ := HSN.out
          obtain ⟨gs, os, rfl, hgs, hcs⟩ := hrs (by rw [hsl]; omega)
          obtain ⟨k1, k2, k3⟩ := hcs k (by rw [hsl]; exact hlt)
          simp only [f1] at k1 k2
          simp only [Value.slice.injEq] at es
          obtain ⟨rfl, -, rfl⟩ := es
          have q1 := (HB.out.cell (p := ⟨gs, os + k * 3, none⟩) hgs).trans k1
          have q2 := (HB.out.cell (p := ⟨gs, os + k * 3 + 1, none⟩) hgs).trans k2
          have q3 := (HB.out.cell (p := ⟨gs, os + k * 3 + 2, none⟩) hgs).trans k3
          have hck0 : m'.chk x ((z : Nat) : Int) = 0 := Mm.chk_of (by rw [HK2.out.2.2.1, m20_len]; omega)
          have HCK := Lib.hid (fun W (hb : Below w3.heap.size w3 W) => Check_any (HK3.out.later hb).1 HK2.out.2.1 x (z : Int) (by omega) (by omega))
          rw [hck0] at HCK
          have hki : (k : Int) < (l.length : Int) := by omega
          have hbA := below_alloc wr (.cells #[.int .u64 (x : Int), .int .i64 (z : Int), .bool false] 42)
          have c1a := (hbA.cell (p := ⟨g, o' + k, none⟩) (World.block_lt_of_cell? wr _ c1)).trans c1
          have mm := fun j => cell_of_row _ wr.heap.size j _ 42 (0, 0) (heap_alloc_new wr (.cells #[.int .u64 (x : Int), .int .i64 (z : Int), .bool false] 42))
          have m0 := mm 0
          have m1 := mm 1
          have m2 := mm 2
          simp only [List.getElem?_toArray, List.getElem?_cons_zero, List.getElem?_cons_succ] at m0 m1 m2
          have HBA := Lib.hid (HB.out.trans (hbA.mono HB.out.size))
          have a8 := HA8.out
          clear mm hbA
          clear f1 f2 f3 f4 f5 f6 f7 f8 f9 hp hsm hsm1 hcell hru hrs hcs k1 k2 k3 hck0 hpb hn1 hpm hpl ho hn h1 hkp hg hgs
          by_cases hk0 : k = 0
          · subst hk0
            rw [if_pos rfl, HOO.out] at g1
            rw [Nat.zero_mul, Nat.add_zero] at q1 q2 q3
            rw [Nat.add_zero] at c1 c1a
            generalize ((smf nn o l 0 : Nat) : Int) = sk at *
            generalize hs1 : ((smf nn o l (0 + 1) : Nat) : Int) = sk1 at *
            have HS1 := Lib.hid hs1
            clear hs1
            generalize (x : Int) = xi at *
            generalize (z : Int) = zi at *
            generalize (p : Int) = pi at *
            go_wp2_with fail
            with_reducible refine (HCK.out _ HBA.out).mono ?_
            rintro e w5 ⟨rfl, hb⟩
            have m1' := (hb.cell (p := ⟨wr.heap.size, 1, none⟩) (World.block_lt_of_cell? _ _ m1)).trans m1
            have HB5 := Lib.hid (HBA.out.trans (hb.mono HBA.out.size))
            clear hb
            go_wp2_with (first
              | ((go_at_call 12; with_reducible refine (HM.out _ _).mono ?_); rintro e w' ⟨rfl, rfl⟩))
            go_roundw
            case rel => exact ⟨0 + 1, by clear g1 g2 g3 g4 g5 g6 g7 g8 g9 g10 a8; omega, by go_num, by rw [HS1.out], HB5⟩
            case measure => clear g1 g2 g3 g4 g5 g6 g7 g8 g9 g10 a8; simp [RowKit.intOf]; omega
          · have hpx' := hpx hk0
            subst hpx'
            have hz1 : ((k : Int) == 0) = false := beq_eq_false_iff_ne.2 (by omega)
            have hz2 : decide ((k : Int) = 0) = false := decide_eq_false (by omega)
            clear g1 hpx
            generalize ((smf nn o l k : Nat) : Int) = sk at *
            generalize hs1 : ((smf nn o l (k + 1) : Nat) : Int) = sk1 at *
            have HS1 := Lib.hid hs1
            clear hs1
            generalize (p : Int) = xi at *
            generalize (z : Int) = zi at *
            go_wp2_with fail
            with_reducible refine (HCK.out _ HBA.out).mono ?_
            rintro e w5 ⟨rfl, hb⟩
            have m1' := (hb.cell (p := ⟨wr.heap.size, 1, none⟩) (World.block_lt_of_cell? _ _ m1)).trans m1
            have HB5 := Lib.hid (HBA.out.trans (hb.mono HBA.out.size))
            clear hb
            go_wp2_with (first
              | ((go_at_call 12; with_reducible refine (HM.out _ _).mono ?_); rintro e w' ⟨rfl, rfl⟩))
            go_roundw
            case rel => exact ⟨k + 1, by clear g2 g3 g4 g5 g6 g7 g8 g9 g10 a8; omega, by go_num, by rw [HS1.out], HB5⟩
            case measure => clear g2 g3 g4 g5 g6 g7 g8 g9 g10 a8; simp [RowKit.intOf]; omega
        · obtain rfl : k = l.length := by omega
          have he : smf nn o l l.length = nn := by
            obtain ⟨ho, hpl, hn, h1⟩ := HF.out
            have hpm : ∀ x ∈ pgs l, x % 4096 = 0 := fun x hx => (pgs_mem l x hx).1
            unfold smf
            rcases Nat.eq_zero_or_pos nn with h0 | h0
            · omega
            · have := rst_end ho hpm h0 (by omega) hpl
              rw [pgs_length] at this
              rw [this]
              exact Nat.sub_zero nn
          rw [he]
          clear he
          go_wp2_with fail
          with_reducible refine (HWk.out _).mono ?_
          rintro e w6 ⟨rfl, hb⟩
          have HB6 := Lib.hid (HK3.out.2.trans ((HB.out.trans (hb.mono HB.out.size)).mono HK3.out.2.size))
          clear hb
          go_wp2
          go_ret
          exact ⟨rfl, HB6.out⟩
end
theorem holds_any (v : Value) (l : List UInt8) (of st : Nat) (n : Int) (w : World) (hv : Byt w v l) (hof : of < 65536) (hst : st < 65536) : Calls Try.prog 7 #[v, .int .u16 (of : Int), .int .u16 (st : Int), .int .i64 n] w (OkB w) := by
  by_cases h1 : 30 < l.length
  · exact holds_skip_a v l of st n w hv hof hst h1
  by_cases h2 : n < 0
  · exact holds_skip_b v l of st n w hv hof hst (by omega) h2
  by_cases h3 : 200000 < n
  · exact holds_skip_c v l of st n w hv hof hst (by omega) (by omega) h3
  by_cases h4 : l.length = cnt (of % 1024 * 4) n
  · obtain ⟨nn, rfl⟩ : ∃ nn : Nat, n = (nn : Int) := ⟨n.toNat, by omega⟩
    exact holds_main v l of st nn w hv hof hst (by omega) (by omega) h4
  · exact holds_skip_d v l of st n w hv hof hst (by omega) (by omega) (by omega) h4
end Go.Proofs.Ytngaifokkkmmcaa
