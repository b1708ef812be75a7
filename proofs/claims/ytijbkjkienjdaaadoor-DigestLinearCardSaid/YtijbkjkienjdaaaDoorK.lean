/- Words for DigestLinear's walk: slices that are cut, calls in whatever later world, the exclusive or of three rows. Conditions stand in each theorem. -/
import Derived.Test.YtijbkjkienjdaaaDoorS
import Derived.Laws.Cover1
import Derived.Deep.RegionHeld3
import Derived.Deep.DrawnRows
namespace Go.Proofs.YtijbkjkienjdaaaDoor
open Go.RowKit
set_option linter.unusedVariables false

/-- w' is w with blocks more. -/
def Bel (w w' : World) : Prop := Below w.heap.size w w'
theorem Bel.refl (w : World) : Bel w w := Below.refl _ _
theorem Bel.drew {w w' : World} (h : Bel w w') : Bel w w'.drew := Below.drew h
theorem Bel.step {w w1 w2 : World} (h : Bel w w1) (h2 : Below w1.heap.size w1 w2) : Bel w w2 := Below.trans h (h2.mono (Below.size h))

theorem sub_byt {w : World} {l : List UInt8} {A : Option Addr} {c lo hi : Nat} (h : Byt w (.slice A l.length c) l) (h1 : lo ≤ hi) (h2 : hi ≤ l.length) : Byt w (sliced A lo hi c 1) ((l.take hi).drop lo) := by
  obtain ⟨A', c', e, hc, hr⟩ := h
  simp only [Value.slice.injEq, true_and] at e
  obtain ⟨rfl, rfl⟩ := e
  have hlen : ((l.take hi).drop lo).length = hi - lo := by simp; omega
  refine ⟨_, _, by unfold sliced; rw [hlen], by rw [hlen]; omega, fun h0 => ?_⟩
  rw [hlen] at h0
  obtain ⟨g, o, rfl, hg, hcell⟩ := hr (by omega)
  refine ⟨g, o + lo, ?_, hg, fun j hj => ?_⟩
  · rw [if_neg (by omega)]
    simp [add_plain]
  · rw [hlen] at hj
    rw [Nat.add_assoc, hcell (lo + j) (by omega)]
    simp
theorem slice_lh {w : World} {l : List UInt8} {A : Option Addr} {c lo hi : Nat} (h : Byt w (.slice A l.length c) l) (h1 : lo ≤ hi) (h2 : hi ≤ l.length) (hc : l.length ≤ c) :
    ∃ V, (∀ W : World, (Instr.slice 22 (.slice A l.length c) (some (.int .i64 lo)) (some (.int .i64 hi)) none).run Tryd.prog W = .ok V W) ∧ Byt w V ((l.take hi).drop lo) := by
  refine ⟨_, fun W => ?_, sub_byt h h1 h2⟩
  obtain ⟨i0, hi0, hz0, hz1, hz2⟩ := info_parts u8_info
  rw [run_slice_lh (P := Tryd.prog) (w := W) (t := 22) (a := A) (len := l.length) (cap := c) (ht := by rw [Tryd.underlying22]; rfl) .i64 .i64 lo hi (by omega) (by omega) (by omega)]
  simp [sizeOf, typeInfo, show Tryd.prog.elem 22 = 5 by kernel_rfl, hi0, hz1]
theorem slice_h {w : World} {l : List UInt8} {A : Option Addr} {c hi : Nat} (h : Byt w (.slice A l.length c) l) (h2 : hi ≤ l.length) (hc : l.length ≤ c) :
    ∃ V, (∀ W : World, (Instr.slice 22 (.slice A l.length c) none (some (.int .i64 hi)) none).run Tryd.prog W = .ok V W) ∧ Byt w V (l.take hi) := by
  have h3 := sub_byt h (Nat.zero_le hi) h2
  rw [List.drop_zero] at h3
  refine ⟨_, fun W => ?_, h3⟩
  obtain ⟨i0, hi0, hz0, hz1, hz2⟩ := info_parts u8_info
  rw [run_slice_h (P := Tryd.prog) (w := W) (t := 22) (a := A) (len := l.length) (cap := c) (ht := by rw [Tryd.underlying22]; rfl) .i64 hi (by omega) (by omega)]
  simp [sizeOf, typeInfo, show Tryd.prog.elem 22 = 5 by kernel_rfl, hi0, hz1]

theorem up32 {w : World} (hT : Tabs w) {v : Value} {l : List UInt8} (h : Byt w v l) (hl : l.length ≤ maxLen) {s r : Nat} (hs : s < 4294967296) (hr : upd32 s l = r) (W : World) (hW : Bel w W) :
    Calls Tryd.prog 17 #[.int .u32 s, v] W fun e W' => e = .returned (.int .u32 r) ∧ Bel w W' := by
  subst hr
  exact (Update32_any s v l W (hT.below hW) hs (h.below hW) hl).mono fun e W' ⟨h1, h2⟩ => ⟨h1, hW.step h2⟩
theorem up16 {w : World} (hT : Tabs w) {v : Value} {l : List UInt8} (h : Byt w v l) (hl : l.length ≤ maxLen) {s r : Nat} (hs : s < 65536) (hr : upd16 s l = r) (W : World) (hW : Bel w W) :
    Calls Tryd.prog 19 #[.int .u16 s, v] W fun e W' => e = .returned (.int .u16 r) ∧ Bel w W' := by
  subst hr
  exact (Update16_any s v l W (hT.below hW) hs (h.below hW) hl).mono fun e W' ⟨h1, h2⟩ => ⟨h1, hW.step h2⟩
theorem cr32 {w : World} (hT : Tabs w) {v : Value} {l : List UInt8} (h : Byt w v l) (hl : l.length ≤ maxLen) {r : Nat} (hr : crc32 l = r) (W : World) (hW : Bel w W) :
    Calls Tryd.prog 12 #[v] W fun e W' => e = .returned (.int .u32 r) ∧ Bel w W' := by
  subst hr
  exact (CRC32C_any v l W (hT.below hW) (h.below hW) hl).mono fun e W' ⟨h1, h2⟩ => ⟨h1, hW.step h2⟩
theorem cr16 {w : World} (hT : Tabs w) {v : Value} {l : List UInt8} (h : Byt w v l) (hl : l.length ≤ maxLen) {r : Nat} (hr : crc16 l = r) (W : World) (hW : Bel w W) :
    Calls Tryd.prog 15 #[v] W fun e W' => e = .returned (.int .u16 r) ∧ Bel w W' := by
  subst hr
  exact (CRC16_any v l W (hT.below hW) (h.below hW) hl).mono fun e W' ⟨h1, h2⟩ => ⟨h1, hW.step h2⟩
theorem kn {w : World} (hT : Tabs w) (W : World) (hW : Bel w W) : Calls Tryd.prog 10 #[] W fun e W' => e = .returned (.bool true) ∧ Bel w W' :=
  (known_any W (hT.below hW)).mono fun e W' ⟨h1, h2⟩ => ⟨h1, hW.step h2⟩

theorem take_two (a : List UInt8) (K N : Nat) (h : K ≤ N) : a.take K ++ (a.take N).drop K = a.take N := by
  have := List.take_append_drop K (a.take N)
  rwa [List.take_take, Nat.min_eq_left h] at this
theorem two32 (s : Nat) (a : List UInt8) (K N : Nat) (h : K ≤ N) : upd32 (upd32 s (a.take K)) ((a.take N).drop K) = upd32 s (a.take N) := by rw [← upd32_append, take_two a K N h]
theorem two16 (s : Nat) (a : List UInt8) (K N : Nat) (h : K ≤ N) : upd16 (upd16 s (a.take K)) ((a.take N).drop K) = upd16 s (a.take N) := by rw [← upd16_append, take_two a K N h]
theorem xors_len (a b : List UInt8) (h : a.length = b.length) : (xors a b).length = a.length := by simp [xors]; omega
theorem three32 (a b c : List UInt8) (h1 : a.length = b.length) (h2 : b.length = c.length) : crc32 (xors (xors a b) c) = crc32 a ^^^ crc32 b ^^^ crc32 c := by
  have e : upd32 4294967295 (xors (xors a b) c) = upd32 4294967295 a ^^^ upd32 4294967295 b ^^^ upd32 4294967295 c := by
    have h3 := upd32_xor (xors a b) c (by rw [xors_len a b h1]; omega) (4294967295 ^^^ 4294967295) 4294967295
    rw [upd32_xor a b h1] at h3
    simpa using h3
  show 4294967295 ^^^ upd32 4294967295 _ = (4294967295 ^^^ upd32 4294967295 a) ^^^ (4294967295 ^^^ upd32 4294967295 b) ^^^ (4294967295 ^^^ upd32 4294967295 c)
  rw [e]
  generalize upd32 4294967295 a = x
  generalize upd32 4294967295 b = y
  generalize upd32 4294967295 c = z
  generalize (4294967295 : Nat) = f
  have k : f ^^^ x ^^^ (f ^^^ y) = x ^^^ y := by rw [Nat.xor_comm f x, Nat.xor_comm f y, xor_swap4]
  rw [k, ← Nat.xor_assoc, ← Nat.xor_assoc, ← Nat.xor_assoc, Nat.xor_comm (x ^^^ y) f, ← Nat.xor_assoc]
theorem three16 (a b c : List UInt8) (h1 : a.length = b.length) (h2 : b.length = c.length) : crc16 (xors (xors a b) c) = crc16 a ^^^ crc16 b ^^^ crc16 c := by
  have h3 := upd16_xor (xors a b) c (by rw [xors_len a b h1]; omega) (s := 0 ^^^ 0) (t := 0) (by decide) (by decide)
  rw [upd16_xor a b h1 (by decide) (by decide)] at h3
  rw [Nat.xor_self, Nat.xor_self] at h3
  exact h3
theorem made_zero (n j : Nat) (h : j < n) : (madeCells (Value.int .u8 0).cells (n * 1))[j]? = some (.int .u8 0) := by
  unfold madeCells
  simp [h, Value.cells, Nat.mod_one]
theorem make_zeros (w : World) (n : Nat) (h : n ≤ 500) : ∃ w' : World, (Instr.makeSlice 22 (.int .i64 (n : Int)) (.int .i64 (n : Int))).run Tryd.prog w = .ok (.slice (some ⟨w.heap.size, 0, none⟩) n n) w' ∧
    RowAt w' w.heap.size (List.replicate n 0) ∧ Below w.heap.size w w' ∧ w.heap.size < w'.heap.size := by
  obtain ⟨i0, hi0, hz0, hz1, hz2⟩ := info_parts u8_info
  have hr := run_makeSlice (P := Tryd.prog) w 22 5 i0 (.int .u8 0) Tryd.underlying22 hi0 hz0 .i64 .i64 n n (by omega) (Int.le_refl _) (by rw [hz1]; omega) (by rw [hz2]; omega) (by omega)
  rw [hz1, Int.toNat_natCast] at hr
  refine ⟨_, hr, fun j hj => ?_, (Below.refl _ _).alloc (Nat.le_refl _) _, by simp⟩
  rw [List.length_replicate] at hj
  refine ⟨?_, frozen_of_row _ w.heap.size j _ 5 (heap_alloc_new w _)⟩
  rw [cell_of_row _ w.heap.size j _ 5 (0, 0) (heap_alloc_new w _), made_zero n j hj, List.getElem_replicate]
  rfl

/-- x behind i rounds: the first i bytes of z, then zeros. -/
def part (z : List UInt8) (i : Nat) : List UInt8 := z.take i ++ List.replicate (z.length - i) 0
theorem part_zero (z : List UInt8) : part z 0 = List.replicate z.length 0 := by simp [part]
theorem part_len (z : List UInt8) (i : Nat) (h : i ≤ z.length) : (part z i).length = z.length := by simp [part]; omega
theorem part_all (z : List UInt8) : part z z.length = z := by simp [part]
theorem part_succ (z : List UInt8) (i : Nat) (h : i < z.length) : (part z i).set i z[i] = part z (i + 1) := by
  have hl : (z.take i).length = i := by simp; omega
  unfold part
  rw [show z.length - i = (z.length - (i + 1)) + 1 by omega, List.replicate_succ, List.set_append_right _ _ (by omega), hl, Nat.sub_self, List.set_cons_zero, List.take_succ_eq_append_getElem h, List.append_assoc]
  rfl
def mix (a b c : List UInt8) (N : Nat) : List UInt8 := xors (xors (a.take N) (b.take N)) (c.take N)
theorem mix_len (a b c : List UInt8) (N : Nat) (h1 : N ≤ a.length) (h2 : N ≤ b.length) (h3 : N ≤ c.length) : (mix a b c N).length = N := by
  simp [mix, xors]; omega
theorem mix_at (a b c : List UInt8) (N i : Nat) (h1 : N ≤ a.length) (h2 : N ≤ b.length) (h3 : N ≤ c.length) (h : i < N) : (mix a b c N)[i]'(by rw [mix_len a b c N h1 h2 h3]; exact h) = a[i] ^^^ b[i] ^^^ c[i] := by
  simp [mix, xors]
structure Lst (w : World) (z : List UInt8) (g i : Nat) (wr : World) : Prop where
  below : Below w.heap.size w wr
  row : RowAt wr g (part z i)
  hg : g < wr.heap.size
  g0 : w.heap.size ≤ g
theorem Lst.step {w : World} {z : List UInt8} {g i : Nat} {wr : World} (h : Lst w z g i wr) (hi : i < z.length) {x : Int} (hx : x = (z[i].toNat : Int)) : Lst w z g (i + 1) (wr.setCell ⟨g, i, none⟩ (.int .u8 x)).drew := by
  subst hx
  have hr := h.row.drew.set (j := i) (by rw [part_len z i (by omega)]; exact hi) z[i]
  rw [part_succ z i hi] at hr
  exact ⟨(h.below.drew).setCell h.g0 _, hr, by simpa [World.setCell] using h.hg, h.g0⟩
theorem xor3 (x y u : UInt8) : bits .xor .u8 (bits .xor .u8 (x.toNat : Int) (y.toNat : Int)) (u.toNat : Int) = ((x ^^^ y ^^^ u).toNat : Int) := by
  rw [u8_xor_nat _ _ (byte_lt x) (byte_lt y), ← UInt8.toNat_xor, u8_xor_nat _ _ (byte_lt _) (byte_lt u), ← UInt8.toNat_xor]
theorem byt_cells {w : World} {A : Option Addr} {n c : Nat} {l : List UInt8} (h : Byt w (.slice A n c) l) (h0 : 0 < l.length) :
    ∃ g o, A = some ⟨g, o, none⟩ ∧ g < w.heap.size ∧ ∀ j (hj : j < l.length), w.cell? ⟨g, o + j, none⟩ = some (.int .u8 (l[j].toNat : Int)) := by
  obtain ⟨A', c', e, hc, hr⟩ := h
  simp only [Value.slice.injEq] at e
  obtain ⟨rfl, rfl, rfl⟩ := e
  exact hr h0
end Go.Proofs.YtijbkjkienjdaaaDoor
