/- The first loop of locate. Conditions stand in each theorem. -/
import Derived.Test.YtajlddgemkkcdaaLC
namespace Go.Proofs.Ytajlddgemkkcdaa
open Go.RowKit
set_option linter.unusedVariables false
set_option maxHeartbeats 4000000
set_option maxRecDepth 100000
attribute [local go_sem ↓ 100000] builtin_appX
/-- How many entries are still to come. -/
def leftN (ri n : Nat) (W : World) : Nat := match W.heap[ri]? with | some (.mapIter _ _ seen _) => n - seen.size | _ => 0
/-- The complete records of the entries that came, in that order. -/
def recsOf (l : List Pg) (ks : List Rec) (D : List Nat) : List Cr := D.filterMap fun d => (ks[d]?).bind (crF l)
/-- What locate leaves: the complete records in some order. -/
def LocPost (w : World) (l : List Pg) (e : Ending) (w' : World) : Prop :=
  (∃ (D : List Nat) (L : List Loc) (A : Option Addr) (c : Nat), e = .returned (.slice A L.length c) ∧ D.Perm (List.range (keysF l).length) ∧ Own6 w' w.heap.size (.slice A L.length c) L ∧ LocsOf w' L (recsOf l (keysF l) D)) ∧ Below w.heap.size w w'
theorem locate_any (v : Value) (l : List Pg) (w : World) (h : Pgs w v l) (hl : Okl l) (hm : l.length ≤ 10000)
    (hbi : ∀ r ∈ keysF l, ∀ (W : World) (base : Nat) (u : Value), Below w.heap.size w W → W.ownsRow base 3 1 u (plK l l.length r).length (iv (plK l l.length r)) → Calls Try.prog 52 #[u, v] W (BiPost W (ordF l r.n.toNat (plK l l.length r)))) :
    Calls Try.prog 31 #[v] w (LocPost w l) := by
  have HBI := Lib.hid hbi
  have HKL := Lib.hid (keysF_ok hl l.length (Nat.le_refl _))
  rw [List.take_length] at HKL
  clear hbi
  obtain ⟨A, c, rfl, hc, hr⟩ := h
  have HR := Lib.hid hr
  have HOK := Lib.hid hl
  have hli : (l.length : Int) ≤ 10000 := by omega
  clear hr hl
  have hmm := @run_makeMap Try.prog
  obtain ⟨b, hb⟩ : ∃ b, b = w.heap.size := ⟨_, rfl⟩
  have hm0 : MS (w.alloc (.map #[] 0)) b (b + 1) #[] (keysF (l.take 0)) (plK l 0) := by
    refine ⟨by rw [hb]; exact heap_alloc_new w _, Nat.lt_succ_self _, rfl, fun j hj => absurd hj (by simp [keysF]), fun i j ei ej _ hi => by simp at hi⟩
  have hb0 : Below w.heap.size w (w.alloc (.map #[] 0)) := (Below.refl _ _).alloc (Nat.le_refl _) _
  have HM0 := Lib.hid hm0
  have HB0 := Lib.hid hb0
  have HBS := Lib.hid hb
  clear hm0 hb0
  go_enter Try.func31, Try.ntmps31
  go_upto_region 3 with fail
  rw [← HBS.out]
  obtain ⟨W0, hW0⟩ : ∃ W0, W0 = w.alloc (.map #[] 0) := ⟨_, rfl⟩
  rw [← hW0] at HM0 HB0 ⊢
  have HS0 : Hid (W0.heap.size = b + 1) := Lib.hid (by rw [hW0, HBS.out]; simp)
  clear hW0 hmm hb
  go_loopw [14] (fun i wr => ∃ (k : Nat), k ≤ l.length ∧ i = .int .i64 k ∧ Hid (∃ es, MS wr b (b + 1) es (keysF (l.take k)) (plK l k)) ∧ Hid (Below w.heap.size w wr) ∧ Hid (b + 1 ≤ wr.heap.size)) (fun i _ => l.length - (RowKit.intOf i).toNat)
  case atStart => exact ⟨0, Nat.zero_le _, rfl, Lib.hid ⟨_, HM0.out⟩, HB0, Lib.hid (by rw [HS0.out]; exact Nat.le_refl _)⟩
  case round =>
    obtain ⟨k, hk, rfl, HM, HB, HZ⟩ := hrel
    by_cases hlt : k < l.length
    · obtain ⟨g, o, rfl, hg, hcell⟩ := HR.out (by omega)
      have hp := (hcell k hlt).keep (W' := wr) (fun i => HB.out.cell (p := ⟨g, i, none⟩) hg)
      have hpn : ∀ W : World, PgAt (W.alloc (.cells l[k].row 46)) W.heap.size 0 l[k] := fun W => PgAt.new W l[k] 46
      have hok := HOK.out _ (List.getElem_mem hlt)
      have HJC := Lib.hid (fun W => isJournal_any l[k].s hok W)
      have HKS := Lib.hid (keysF_snoc l k hlt)
      have HPY := Lib.hid (plK_yes hlt)
      have HPN := Lib.hid (plK_no hlt)
      have HKO := Lib.hid (fun hj => key_ok hok hj)
      have HKR := Lib.hid (fun (hj : jnB l[k].s = true) W => recordOf_any l[k].s hok (jn_facts hj).2.2.2.2.1 (by have := jn_facts hj; have := hok.p0; omega) W)
      clear hcell hok
      obtain ⟨x, hx⟩ : ∃ x, x = l[k] := ⟨_, rfl⟩
      rw [← hx] at hp hpn HJC HKS HPY HPN HKO HKR
      clear hx
      have c0 := hp.c0
      have c1 := hp.c1
      have c2 := hp.c2
      have c3 := hp.c3
      have c4 := hp.c4
      have c5 := hp.c5
      have c6 := hp.c6
      have HPW := Lib.hid (hpn wr)
      clear hp hpn
      have hk0 : (0 : Int) ≤ (k : Int) := by omega
      have hk1 : (k : Int) < (l.length : Int) := by omega
      cases hj : jnB x.s with
      | false =>
        rw [hj] at HJC
        obtain ⟨⟨sk, ss, sq, sp, si, sn⟩, ea, ec, es⟩ := x
        simp only [Spr.v, Spr.row, Pg.row, Pg.ev] at *
        have HPN2 := Lib.hid (HPN.out hj)
        have HKS2 : Hid (keysF (l.take (k + 1)) = keysF (l.take k)) := Lib.hid (by rw [HKS.out]; unfold stepK; rw [hj]; rfl)
        clear HKS HPY HPN HKO HKR hj
        go_wp2_with ((go_at_call 50; with_reducible refine (HJC.out _).mono ?_); rintro e w1 ⟨rfl, hg1⟩; have HG1 := Lib.hid hg1.below; clear hg1)
        go_roundw
        case rel =>
          have hbw : Below wr.heap.size wr w1 := ((Below.refl wr.heap.size wr).alloc (Nat.le_refl _) _).trans (HG1.out.mono (by simp))
          refine ⟨k + 1, by omega, by go_num, ?_, ?_, ?_⟩
          · rw [HKS2.out, HPN2.out]
            obtain ⟨es', h'⟩ := HM.out
            exact ⟨es', h'.kept hbw⟩
          · exact HB.out.trans (hbw.mono HB.out.size)
          · exact Nat.le_trans HZ.out hbw.size
        case measure => simp [RowKit.intOf]; omega
      | true =>
        rw [hj] at HJC
        have HPY2 := Lib.hid (HPY.out hj)
        have HKS2 : Hid (keysF (l.take (k + 1)) = addK (keysF (l.take k)) x.s.key) := Lib.hid (by rw [HKS.out]; unfold stepK; rw [hj]; rfl)
        have HKR2 := Lib.hid (HKR.out hj)
        have HKO2 := Lib.hid (HKO.out hj)
        obtain ⟨r, hr0⟩ : ∃ r, r = x.s.key := ⟨_, rfl⟩
        rw [← hr0] at HPY2 HKS2 HKO2
        have HR0 := Lib.hid hr0
        obtain ⟨⟨sk, ss, sq, sp, si, sn⟩, ea, ec, es⟩ := x
        simp only [Spr.v, Spr.row, Pg.row, Pg.ev, Spr.key, Rec.v, Rec.row] at *
        clear HKS HPY HPN HKO HKR hj hr0
        go_upto_region 7 with (first
          | ((go_at_call 50; with_reducible refine (HJC.out _).mono ?_); rintro e w1 ⟨rfl, hg1⟩; have y0 := hg1.cell HPW.out.c0; have y1 := hg1.cell HPW.out.c1; have y2 := hg1.cell HPW.out.c2; have y3 := hg1.cell HPW.out.c3; have y4 := hg1.cell HPW.out.c4; have y5 := hg1.cell HPW.out.c5; simp only [Nat.zero_add] at y1 y2 y3 y4 y5; have HG1 := Lib.hid hg1.below; clear hg1)
          | ((go_at_call 51; with_reducible refine (HKR2.out _).mono ?_); rintro e w2 ⟨rfl, hg2⟩; have HG2 := Lib.hid hg2.below; clear hg2))
        clear y0 y1 y2 y3 y4 y5
        have hbw : Below wr.heap.size wr ((w2.alloc (.cells #[.int .u8 sk, .int .u64 (sq - si), .int .u64 sp, .int .i64 sn] 76)).alloc (.cells #[.int .i64 (k : Int)] 3)) := by
          have h1 : Below wr.heap.size wr w1 := ((Below.refl wr.heap.size wr).alloc (Nat.le_refl _) _).trans (HG1.out.mono (by simp))
          have h2 : Below wr.heap.size wr w2 := h1.trans (HG2.out.mono h1.size)
          exact (h2.alloc h2.size _).alloc (by simp; have := h2.size; omega) _
        obtain ⟨es0, hms0⟩ := HM.out
        obtain ⟨A0, n0, d0, st, W1, A1, n1, d1, W2, W3, es', hr1, hr2, hr3, hms, hbl⟩ := ms_put (hms0.kept hbw) (keysF_ok HOK.out k hk) (keysF_nodup l k hk) HKO2.out (fun hno => plK_nil hk hno) k (w2.heap.size + 1) (by
          have := heap_alloc_new (w2.alloc (.cells #[.int .u8 sk, .int .u64 (sq - si), .int .u64 sp, .int .i64 sn] 76)) (.cells #[.int .i64 (k : Int)] 3)
          rw [World.size_alloc] at this
          exact (cell_of_row _ _ 0 _ 3 (0, 0) this).trans rfl) (by have := plK_len l k r; omega) (by have := HZ.out; have := hbw.size; omega)
        rw [HR0.out] at hr1
        simp only [Rec.v, Rec.row] at hr1
        have HMS : Hid (∃ es, MS W3 b (b + 1) es (keysF (l.take (k + 1))) (plK l (k + 1))) := Lib.hid (by rw [HKS2.out, HPY2.out]; exact ⟨_, hms⟩)
        have hb3 := hbl b (Nat.le_refl _)
        have HB3 : Hid (Below w.heap.size w W3) := Lib.hid ((HB.out.trans (hbw.mono HB.out.size)).trans (hb3.mono (by rw [HBS.out]; exact Nat.le_refl _)))
        have HZ3 : Hid (b + 1 ≤ W3.heap.size) := Lib.hid (Nat.le_trans HZ.out (Nat.le_trans hbw.size hb3.size))
        clear hms hbl hb3 hms0 hbw
        go_wp2
        go_roundw
        case rel => exact ⟨k + 1, by omega, by go_num, HMS, HB3, HZ3⟩
        case measure => simp [RowKit.intOf]; omega
    · obtain rfl : k = l.length := by omega
      obtain ⟨es, hms0⟩ := HM.out
      rw [List.take_length] at hms0
      have hrg := run_range_map (P := Try.prog) wr 96 76 50 b es es.size Try.underlying96 hms0.blk
      clear HM
      obtain ⟨ri, hri⟩ : ∃ ri, ri = wr.heap.size := ⟨_, rfl⟩
      have hbri : b + 1 ≤ ri := by rw [hri]; exact HZ.out
      have hit0 : (wr.alloc (.mapIter (some b) es.size #[] es.size)).heap[ri]? = some (.mapIter (some b) es.size #[] es.size) := by rw [hri]; exact heap_alloc_new wr _
      have hms1 : MS (wr.alloc (.mapIter (some b) es.size #[] es.size)) b (b + 1) es (keysF l) (plK l l.length) := hms0.kept ((Below.refl _ _).alloc (Nat.le_refl _) _)
      have hb1 : Below w.heap.size w (wr.alloc (.mapIter (some b) es.size #[] es.size)) := HB.out.alloc HB.out.size _
      have HMS1 := Lib.hid hms1
      have HIT0 := Lib.hid hit0
      have HB1 := Lib.hid hb1
      have HRI := Lib.hid hri
      have HBRI := Lib.hid hbri
      have HSZ1 : Hid ((wr.alloc (.mapIter (some b) es.size #[] es.size)).heap.size = ri + 1) := Lib.hid (by rw [hri]; simp)
      clear hms0 hms1 hit0 hb1 hri hbri
      go_upto_region 11 with fail
      rw [← HRI.out]
      obtain ⟨W1, hW1⟩ : ∃ W1, W1 = wr.alloc (.mapIter (some b) es.size #[] es.size) := ⟨_, rfl⟩
      rw [← hW1] at HMS1 HIT0 HB1 HSZ1 ⊢
      clear hW1 hrg
      go_loopw [7] (fun rv wq => ∃ (D : List Nat) (L : List Loc) (A2 : Option Addr) (c2 : Nat), rv = .slice A2 L.length c2 ∧ Hid (D.Nodup ∧ ∀ d ∈ D, d < (keysF l).length) ∧ Hid (MS wq b (b + 1) es (keysF l) (plK l l.length)) ∧ Hid (wq.heap[ri]? = some (.mapIter (some b) es.size D.toArray es.size)) ∧
        Hid (Own6 wq (ri + 1) (.slice A2 L.length c2) L) ∧ Hid (LocsOf wq L (recsOf l (keysF l) D)) ∧ Hid (Below w.heap.size w wq) ∧ Hid (ri + 1 ≤ wq.heap.size)) (fun _ wq => leftN ri (keysF l).length wq)
      case atStart => exact ⟨[], [], none, 0, rfl, Lib.hid ⟨List.nodup_nil, fun d hd => by cases hd⟩, HMS1, HIT0, Lib.hid (.inl ⟨rfl, rfl⟩), Lib.hid ⟨rfl, fun i h => absurd h (by simp)⟩, HB1, Lib.hid (by rw [HSZ1.out]; exact Nat.le_refl _)⟩
      case round =>
        obtain ⟨D, L, A2, c2, rfl, HD, HMQ, HIT, HO, HF, HBQ, HZQ⟩ := hrel
        rcases run_next_at (P := Try.prog) wr 0 ri b es.size es.size D.toArray es es.size HIT.out HMQ.out.blk (fun x hx => by
            obtain ⟨j, hj, rfl⟩ := List.mem_iff_getElem.1 hx
            have hj' : j < (keysF l).length := by have := HMQ.out.len; simp at hj; omega
            obtain ⟨e1, a1, _, a3, _⟩ := HMQ.out.ent j hj'
            have h2 : es[j]? = some es[j] := by simp
            rw [a1] at h2
            have h3 : es.toList[j] = e1 := by simpa using (Option.some.inj h2).symm
            rw [h3, a3]
            have := HMQ.out.len
            omega) (Nat.le_refl _) with ⟨h0, hnx⟩ | ⟨e, he, w1, hw1, hnx⟩
        · have hfin : D.Perm (List.range (keysF l).length) := by
            refine nodup_perm _ _ HD.out.1 HD.out.2 (fun x hx => ?_)
            obtain ⟨e1, a1, _, a3, _⟩ := HMQ.out.ent x hx
            have := all_seen es D.toArray h0 e1 (by simpa using Array.mem_of_getElem? a1)
            rw [a3] at this
            simpa using this
          have HFIN := Lib.hid hfin
          clear h0 hfin
          go_wp2
          go_ret
          exact ⟨⟨D, L, A2, c2, rfl, HFIN.out, (by
            rcases HO.out with h1 | ⟨h1, h2⟩
            · exact .inl h1
            · exact .inr ⟨h1, h2.1, h2.2.imp id fun ⟨g, cap, cur, e1, e2, r⟩ => ⟨g, cap, cur, e1, by have := HBRI.out; have := HBS.out; omega, r⟩⟩), HF.out⟩, HBQ.out⟩
        · obtain ⟨hem, hes⟩ := mem_left he
          obtain ⟨d, r, hd, hdr, hdk, hdb, hdo⟩ : ∃ (d : Nat) (r : Rec), d < (keysF l).length ∧ (keysF l)[d]? = some r ∧ e.key = r.v ∧ e.born = d ∧ wr.ownsRow (b + 1) 3 1 e.val (plK l l.length r).length (iv (plK l l.length r)) := by
            obtain ⟨j, hj, rfl⟩ := List.mem_iff_getElem.1 hem
            have hj' : j < (keysF l).length := by have := HMQ.out.len; simp at hj; omega
            obtain ⟨e1, a1, a2, a3, a4⟩ := HMQ.out.ent j hj'
            have h2 : es[j]? = some es[j] := by simp
            rw [a1] at h2
            have h3 : es.toList[j] = e1 := by simpa using (Option.some.inj h2).symm
            rw [h3]
            exact ⟨j, (keysF l)[j], hj', List.getElem?_eq_getElem hj', a2, a3, a4⟩
          have hdD : d ∉ D := by
            rw [hdb] at hes
            simpa using hes
          -- the world behind the step
          rw [hdb] at hnx
          have hit1 : w1.heap[ri]? = some (.mapIter (some b) es.size D.toArray es.size) := by rcases hw1 with rfl | rfl <;> exact HIT.out
          have hset := MapKept.heap_set (o' := .mapIter (some b) es.size (D.toArray.push d) es.size) hit1
          have hgv : wr.grownBy (ChangeMaps.setBlock w1 ri (.mapIter (some b) es.size (D.toArray.push d) es.size)) (some ri) := by
            rcases hw1 with rfl | rfl <;> exact ⟨rfl, rfl, rfl, by simp [ChangeMaps.setBlock], fun i _ hi => hset.2 i (fun e1 => hi (by rw [e1]))⟩
          obtain ⟨V, hV⟩ : ∃ V, V = ChangeMaps.setBlock w1 ri (.mapIter (some b) es.size (D.toArray.push d) es.size) := ⟨_, rfl⟩
          rw [← hV] at hnx hgv
          have hitv : V.heap[ri]? = some (.mapIter (some b) es.size (D.toArray.push d) es.size) := by rw [hV]; exact hset.1
          have hmv := HMQ.out.iter hgv HIT.out
          have hen := run_entry_at (P := Try.prog) V ri b es.size D.toArray es es.size e (by rw [hdb]; exact hitv) hmv.blk hem (born_nodup hmv)
          have HMV := Lib.hid hmv
          have HITV := Lib.hid hitv
          have hdv := own_iter hgv HIT.out hdo
          have HOV := Lib.hid (HO.out.iter hgv HIT.out)
          have HFV := Lib.hid (HF.out.iter hgv HIT.out)
          have hbv : Below w.heap.size w V := HBQ.out.grown hgv HBQ.out.size (fun j hj => by cases hj; have := HBRI.out; have := HBS.out; omega)
          have HBV := Lib.hid hbv
          have HZV : Hid (ri + 1 ≤ V.heap.size) := Lib.hid (Nat.le_trans HZQ.out hgv.size)
          have HDD := Lib.hid hdD
          have HKD := Lib.hid hdk
          clear hem hes he hit1 hset hgv hV hitv hmv hdD hdo hw1 hbv
          have hrm : r ∈ keysF l := List.mem_of_getElem? hdr
          have HR0 : Hid (recsOf l (keysF l) (D ++ [d]) = recsOf l (keysF l) D ++ (crF l r).toList) := Lib.hid (by
            unfold recsOf
            rw [List.filterMap_append, List.filterMap_cons, hdr]
            simp only [Option.bind_some, List.filterMap_nil]
            cases crF l r <;> rfl)
          have HBY := Lib.hid (HBI.out _ hrm)
          have hPne : plK l l.length r ≠ [] := plK_ne (Nat.le_refl _) (by rw [List.take_length]; exact hrm)
          have hrok := HKL.out _ hrm
          have HCR : Hid (crF l r = if (ordF l r.n.toNat (plK l l.length r)).length = r.n.toNat then some ⟨r, (plK l l.length r).headD 0, ordF l r.n.toNat (plK l l.length r)⟩ else none) := Lib.hid rfl
          have HDL := Lib.hid hd
          obtain ⟨P, hP⟩ : ∃ P, P = plK l l.length r := ⟨_, rfl⟩
          rw [← hP] at hdv HBY hPne HCR
          obtain ⟨o, ho⟩ : ∃ o, o = ordF l r.n.toNat P := ⟨_, rfl⟩
          rw [← ho] at HBY HCR
          have hPl : 0 < P.length := List.length_pos_iff.2 hPne
          obtain ⟨gv, cv, hval, hbg, hgvl, hcell0⟩ : ∃ gv cv, e.val = .slice (some ⟨gv, 0, none⟩) P.length cv ∧ b + 1 ≤ gv ∧ gv < V.heap.size ∧ V.cell? ⟨gv, 0, none⟩ = some (.int .i64 ((P.headD 0 : Nat) : Int)) := by
            rcases hdv.2 with ⟨_, h0⟩ | ⟨g, cap, cur, e1, h1, h2, _, _, h3, h4⟩
            · omega
            · refine ⟨g, cap, e1, h1, (Array.getElem?_eq_some_iff.1 h2).1, ?_⟩
              have h5 : (iv P)[0]? = some (.int .i64 (P[0] : Int)) := iv_get hPl
              rw [← h4, List.getElem?_take, if_pos (by omega)] at h5
              rw [cell_of_row _ _ _ _ _ (0, 0) h2]
              have h6 : P.headD 0 = P[0] := by cases P with | nil => simp at hPl | cons a t => rfl
              rw [h6]
              simpa using h5
          rw [HKD.out, hval] at hnx hen
          rw [hval] at hdv
          have HDV := Lib.hid hdv
          have hrn0 := hrok.n0
          have hrn1 := hrok.n1
          obtain ⟨p0, hp0⟩ : ∃ p0 : Nat, p0 = P.headD 0 := ⟨_, rfl⟩
          rw [← hp0] at hcell0 HCR
          have HP0 := Lib.hid hPl
          obtain ⟨pl1, hpl1⟩ : ∃ pl1 : Nat, pl1 = P.length := ⟨_, rfl⟩
          have HPL1 := Lib.hid hpl1
          have hpz : (0 : Int) < ((P.length : Nat) : Int) := by omega
          clear hdv hrok hrm hdr hP ho hp0 hPne hPl hval hpl1 hd
          have HCELL := Lib.hid hcell0
          clear hcell0
          obtain ⟨rk, rf, rp, rn⟩ := r
          simp only [Rec.v, Rec.row] at *
          go_upto_region 14 with ((go_at_call 52; with_reducible refine (HBY.out _ _ _ (HBV.out.alloc HBV.out.size _) (own_below8 HDV.out ((Below.refl _ _).alloc (Nat.le_refl _) _))).mono ?_); rintro e3 w3 ⟨⟨A3, c3, rfl, hpls⟩, hb3⟩; have HPLS := Lib.hid hpls; have HB3 := Lib.hid hb3; clear hpls hb3)
          have hbw3 : Below V.heap.size V w3 := ((Below.refl _ V).alloc (Nat.le_refl _) _).trans (HB3.out.mono (by simp))
          have hbox : ∀ j u, (#[.int .u8 rk, .int .u64 rf, .int .u64 rp, .int .i64 rn] : Array Value)[j]? = some u → w3.cell? ⟨V.heap.size, j, none⟩ = some u := fun j u h => (HB3.out.cell (p := ⟨V.heap.size, j, none⟩) (by simp)).trans ((cell_of_row _ _ j _ 76 (0, 0) (heap_alloc_new V _)).trans h)
          have z0 := hbox 0 _ rfl
          have z1 := hbox 1 _ rfl
          have z2 := hbox 2 _ rfl
          have z3 := hbox 3 _ rfl
          have z4 := (hbw3.cell (p := ⟨gv, 0, none⟩) hgvl).trans HCELL.out
          have HBW := Lib.hid (HBV.out.trans (hbw3.mono HBV.out.size))
          have HMW := Lib.hid (HMV.out.kept hbw3)
          have HITW : Hid (w3.heap[ri]? = some (.mapIter (some b) es.size (D ++ [d]).toArray es.size)) := Lib.hid ((hbw3.block ri (by have := HZV.out; omega)).trans (by rw [HITV.out]; simp))
          have HOW := Lib.hid (HOV.out.later hbw3)
          have HFW := Lib.hid (HFV.out.below hbw3)
          have HZW : Hid (ri + 1 ≤ w3.heap.size) := Lib.hid (Nat.le_trans HZV.out hbw3.size)
          have HDN : Hid ((D ++ [d]).Nodup ∧ ∀ x ∈ D ++ [d], x < (keysF l).length) := Lib.hid (by
            refine ⟨List.nodup_append.2 ⟨HD.out.1, by simp, fun a ha x hx e => ?_⟩, fun x hx => ?_⟩
            · simp at hx
              subst hx
              exact HDD.out (e ▸ ha)
            · rcases List.mem_append.1 hx with h | h
              · exact HD.out.2 x h
              · simp at h
                subst h
                exact HDL.out)
          have HMEA : Hid (leftN ri (keysF l).length wr = (keysF l).length - D.length) := Lib.hid (by unfold leftN; rw [HIT.out]; simp)
          have HDLEN : Hid (D.length < (keysF l).length) := Lib.hid (by
            have h2 := nodup_len _ _ HDN.out.1 HDN.out.2
            simp at h2
            omega)
          clear hbox hbw3 HMV HITV HOV HFV HBV HD HDD HIT HMQ HO HF HBQ HZQ HCELL hnx hen HB3 HZV HDV HKD
          by_cases hfull : o.length = rn.toNat
          · obtain rfl : rn = (o.length : Int) := by omega
            have HCR2 : Hid (crF l ⟨rk, rf, rp, (o.length : Int)⟩ = some ⟨⟨rk, rf, rp, (o.length : Int)⟩, p0, o⟩) := Lib.hid (by rw [HCR.out, if_pos hfull])
            clear HCR hfull HBY
            have hl0 : LoAt ((w3.alloc (.cells #[.int .u8 rk, .int .u64 rf, .int .u64 rp, .int .i64 (o.length : Int), .int .i64 (p0 : Int), .slice A3 o.length c3] 78)).drew) w3.heap.size 0 ⟨⟨rk, rf, rp, (o.length : Int)⟩, (p0 : Int), A3, o.length, c3⟩ :=
              (LoAt.new w3 ⟨⟨rk, rf, rp, (o.length : Int)⟩, (p0 : Int), A3, o.length, c3⟩ 78).gr ((Gr.refl _).drew)
            have hbd : Below w3.heap.size w3 ((w3.alloc (.cells #[.int .u8 rk, .int .u64 rf, .int .u64 rp, .int .i64 (o.length : Int), .int .i64 (p0 : Int), .slice A3 o.length c3] 78)).drew) := ((Below.refl _ _).alloc (Nat.le_refl _) _).drew
            have HLL : Hid (L.length ≤ (keysF l).length) := Lib.hid (by
              have h1 := HFW.out.1
              have h2 : (recsOf l (keysF l) D).length ≤ D.length := List.length_filterMap_le _ _
              have := HDLEN.out
              omega)
            have HKN : Hid ((keysF l).length ≤ 10000) := Lib.hid (by have := keysF_len l l.length (Nat.le_refl _); rw [List.take_length] at this; omega)
            obtain ⟨A4, c4, W4, hrun, ho4, hg4⟩ := app6 (HOW.out.later hbd) (by have := HZW.out; simp; omega) (by have := HLL.out; have := HKN.out; omega) hl0
            have HO4 := Lib.hid ho4
            have HG4 := Lib.hid hg4
            have HBD := Lib.hid hbd
            clear ho4 hg4 hbd hl0
            go_wp2
            go_region
            all_goals
              have hbd := HBD.out
              have hmw := (HMW.out.kept hbd)
              have how := HOW.out.later hbd
              have hfw := HFW.out.below hbd
              have hr78 := how.rw78
              have hb4 : Below w.heap.size w W4 := (HBW.out.trans (hbd.mono HBW.out.size)).grown HG4.out (Nat.le_trans HBW.out.size hbd.size) (fun j hj => by
                have h1 := how
                rcases h1 with ⟨_, h2⟩ | ⟨_, h2⟩
                · rw [h2] at hj; cases hj
                · have := (h2.lt j hj).1
                  have := HBRI.out
                  have := HBS.out
                  omega)
              have hit4 : W4.heap[ri]? = some (.mapIter (some b) es.size (D ++ [d]).toArray es.size) := by
                have h1 := (hbd.block ri (by have := HZW.out; omega)).trans HITW.out
                refine (HG4.out.block ri (by have := HZW.out; have := hbd.size; omega) (fun e => ?_)).trans h1
                obtain ⟨cur', h'⟩ := hr78 ri e.symm
                rw [h1] at h'
                cases h'
              have hx : LocOf W4 ⟨⟨rk, rf, rp, (o.length : Int)⟩, (p0 : Int), A3, o.length, c3⟩ ⟨⟨rk, rf, rp, (o.length : Int)⟩, p0, o⟩ := ⟨rfl, rfl, rfl, (HPLS.out.below hbd).r78 hr78 HG4.out⟩
              have HB4 := Lib.hid hb4
              have HIT4 := Lib.hid hit4
              have HM4 := Lib.hid (hmw.r78 hr78 HG4.out)
              have HF4 : Hid (LocsOf W4 (L ++ [⟨⟨rk, rf, rp, (o.length : Int)⟩, (p0 : Int), A3, o.length, c3⟩]) (recsOf l (keysF l) (D ++ [d]))) := Lib.hid (by rw [HR0.out, HCR2.out]; exact (hfw.r78 hr78 HG4.out).snoc hx)
              have HZ4 : Hid (ri + 1 ≤ W4.heap.size) := Lib.hid (by have := HZW.out; have := hbd.size; have := HG4.out.size; omega)
              clear hbd hmw how hfw hr78 hb4 hit4 hx
              go_wp2
              go_roundw
              case rel => exact ⟨D ++ [d], L ++ [⟨⟨rk, rf, rp, (o.length : Int)⟩, (p0 : Int), A3, o.length, c3⟩], A4, c4, by simp, HDN, HM4, HIT4, (by rw [List.length_append]; exact HO4), HF4, HB4, HZ4⟩
              case measure =>
                rw [HMEA.out]
                unfold leftN
                rw [HIT4.out]
                have := HDLEN.out
                simp
                omega
          · have hne : ((o.length : Int) == rn) = false := by simpa using (by omega : ¬ (o.length : Int) = rn)
            have HCR2 : Hid (crF l ⟨rk, rf, rp, rn⟩ = none) := Lib.hid (by rw [HCR.out, if_neg hfull])
            clear HCR hfull HBY
            go_wp2
            go_roundw
            case rel => exact ⟨D ++ [d], L, A2, c2, rfl, HDN, HMW, HITW, HOW, Lib.hid (by rw [HR0.out, HCR2.out]; simpa using HFW.out), HBW, HZW⟩
            case measure =>
              rw [HMEA.out]
              unfold leftN
              rw [HITW.out]
              have := HDLEN.out
              simp
              omega
end Go.Proofs.Ytajlddgemkkcdaa
