/- The law's is. Conditions stand in each theorem. -/
import Derived.Test.YtmnlkejhhdbhlaaAC
import Derived.Test.YtmnlkejhhdbhlaaLG
import Derived.Deep.CutBlock
namespace Go.Proofs.Ytmnlkejhhdbhlaa
open Go.RowKit Go.Shelf
attribute [local go_sem] Oper.semAt_some
set_option linter.unusedVariables false
set_option maxHeartbeats 8000000
set_option maxRecDepth 100000
theorem Mm.rd_all (m : Mm) : m.chk 0 (m.B.length : Int) = 0 ∧ m.rd 0 (m.B.length : Int) = m.B := by
  have hz : m.chk 0 (m.B.length : Int) = 0 := Mm.chk_of (by omega)
  refine ⟨hz, ?_⟩
  unfold Mm.rd
  rw [if_pos hz]
  simp
section
variable {w : World} {base b d cap : Nat} {m : Mm} {S : Nat → Prop} {A1 A2 : Option Addr} {n1 c1 n2 c2 : Nat}
theorem is_any (hm : Mem w base b d cap m) (hG : Gm m) (hr : Rf w S A1 n1 c1 A2 n2 c2 m) (many : Int) :
    Calls Try.prog 15 #[.pointer (some ⟨b, 0, none⟩), .agg #[.slice A1 n1 c1, .slice A2 n2 c2], .int .i64 many] w (OkB w) := by
  have hb1 := below_alloc w (.cells #[.slice A1 n1 c1, .slice A2 n2 c2] 32)
  have hx1 := heap_alloc_new w (.cells #[.slice A1 n1 c1, .slice A2 n2 c2] 32)
  have HLg := Lib.hid (rLog_any (hr.below hb1) hG.cnt)
  obtain rfl : n1 = m.B.length := hr.B.len
  have hn2 := hr.L.len
  have HN := Lib.hid hn2
  have HM := Lib.hid hm
  have HG := Lib.hid hG
  have HR := Lib.hid hr
  have HB1 := Lib.hid hb1
  have HX1 := Lib.hid hx1
  have i0 := cell_of_row _ w.heap.size 0 _ 32 (0, 0) hx1
  have i1 := cell_of_row _ w.heap.size 1 _ 32 (0, 0) hx1
  obtain ⟨F, hF⟩ : ∃ F, F = fr m.L := ⟨_, rfl⟩
  have HF := Lib.hid hF
  rw [← hF] at HLg
  clear hm hG hr hb1 hx1 hn2 hF
  go_enter Try.func15, Try.ntmps15
  go_upto_region 1 with fail
  go_upto_region 2 with ((go_at_call 32; with_reducible refine HLg.out.mono ?_); rintro e w1 ⟨⟨A, c, rfl, hsp⟩, hb⟩; have HSP := Lib.hid hsp; have HB2 := Lib.hid hb; clear hsp hb)
  have hb2 := HB1.out.trans (HB2.out.mono HB1.out.size)
  have HBW := Lib.hid hb2
  have c0 : ∀ z : Gb w1, z.W.cell? ⟨w.heap.size, 0, none⟩ = some (.slice A1 m.B.length c1) := fun z => z.cell ((HB2.out.cell (p := ⟨w.heap.size, 0, none⟩) (by simp)).trans i0)
  have hne := gb_ne w1
  have HP := Lib.hid (fun z : Gb w1 => hb2.trans (z.h.mono hb2.size))
  have r1 := fun z : Gb w1 => run_string (P := Try.prog) 29 9 5 Try.underlying29 Try.underlying5 Try.underlying9 (HR.out.B.below (HP.out z))
  have H22 := Lib.hid (fun z : Gb w1 => gb_same z (Size_any (HM.out.below (HP.out z))))
  have H24 := Lib.hid (fun z : Gb w1 => gb_of z (v := .bool true) (reads_of (.pointer (some ⟨b, 0, none⟩)) 0 (m.B.length : Int) 0 m.B z.W (by
    have h := Read_any (HM.out.below (HP.out z)) HG.out 0 (m.B.length : Int) (by omega) (by have := HG.out.max; omega)
    unfold ReadPost at h
    rw [m.rd_all.1, m.rd_all.2] at h
    exact h)))
  have H18 := Lib.hid (fun z : Gb w1 => gb_of z (v := .bool true) (logs_any (.pointer (some ⟨b, 0, none⟩)) (.slice A (n2 - F) c) m.L many z.W (fun W hW => Writes_any (HM.out.below ((HP.out z).trans (hW.mono (HP.out z).size))) HG.out.pos) HG.out.cnt (by have := HSP.out.below z.h; rw [← HF.out]; exact this) F HF.out))
  clear i0 i1 HLg
  refine wp_region_gb (by kernel_rfl) (by kernel_rfl) ?_
  repeat (go_big_quiet_step ((first | (go_at_call 22; exact H22.out _) | (go_at_call 24; exact H24.out _) | (go_at_call 18; exact H18.out _))))
  refine wpQuiet_nil ?_
  rintro w3 ⟨z, rfl⟩
  go_wp2
  go_ret
  exact ⟨rfl, HP.out z⟩
end
end Go.Proofs.Ytmnlkejhhdbhlaa
