/- The contract of works. No condition. -/
import Derived.Test.YtpojgjbgbbnojaaF
import Derived.Test.YtpojgjbgbbnojaaG
namespace Go.Proofs.Ytpojgjbgbbnojaa
open Go.RowKit
set_option linter.unusedVariables false
set_option maxHeartbeats 4000000
set_option maxRecDepth 100000
/-- A pool of the call's own, and what was there is as it was. -/
def WS (w : World) (b g cap : Nat) (l : List Blk) (W : World) : Prop := Pl W w.heap.size b g cap l ∧ Below w.heap.size w W
section
variable {w W : World} {b g cap : Nat} {l l' : List Blk}
theorem WS.mv {W' : World} (h : WS w b g cap l W) (hm : Mv W w.heap.size b g cap l' W') : WS w b g cap l' W' :=
  ⟨hm.1, h.2.trans (hm.2.below h.2.size (fun k hk => h.1.ft_ge hk))⟩
theorem WS.later {W' : World} (h : WS w b g cap l W) (hb : Below W.heap.size W W') : WS w b g cap l W' := ⟨h.1.below hb, h.2.trans (hb.mono h.2.size)⟩
theorem ws_take (h : WS w b g cap l W) (k er : Int) (l' : List Blk) (e1 : ((lwc l 1).1 : Int) = k) (e2 : tkE l = er) (e3 : tkS l = l') : Calls Try.prog 17 #[.pointer (some ⟨b, 0, none⟩)] W fun e w' => e = .returned (.tuple #[.int .i64 k, .int .i64 er]) ∧ WS w b g cap l' w' := by
  subst e1 e2 e3
  exact (Take_any h.1).mono fun e w' ⟨a1, a2⟩ => ⟨a1, h.mv a2⟩
theorem ws_close (h : WS w b g cap l W) (q er : Int) (l' : List Blk) (e2 : mvE (fun x => eqB x.st 2) l q = er) (e3 : mvS (fun x => eqB x.st 2) 3 0 l q = l') : Calls Try.prog 20 #[.pointer (some ⟨b, 0, none⟩), .int .i64 q] W fun e w' => e = .returned (.int .i64 er) ∧ WS w b g cap l' w' := by
  subst e2 e3
  exact (Close_any h.1 q).mono fun e w' ⟨a1, a2⟩ => ⟨a1, h.mv a2⟩
theorem ws_rel (h : WS w b g cap l W) (q er : Int) (l' : List Blk) (e2 : mvE (fun x => relB x.er x.st) l q = er) (e3 : mvS (fun x => relB x.er x.st) 1 1 l q = l') : Calls Try.prog 21 #[.pointer (some ⟨b, 0, none⟩), .int .i64 q] W fun e w' => e = .returned (.int .i64 er) ∧ WS w b g cap l' w' := by
  subst e2 e3
  exact (Release_any h.1 q).mono fun e w' ⟨a1, a2⟩ => ⟨a1, h.mv a2⟩
theorem ws_ret (h : WS w b g cap l W) (q er : Int) (l' : List Blk) (e2 : mvE (fun x => neB x.st 4) l q = er) (e3 : mvS (fun x => neB x.st 4) 4 0 l q = l') : Calls Try.prog 22 #[.pointer (some ⟨b, 0, none⟩), .int .i64 q] W fun e w' => e = .returned (.int .i64 er) ∧ WS w b g cap l' w' := by
  subst e2 e3
  exact (Retire_any h.1 q).mono fun e w' ⟨a1, a2⟩ => ⟨a1, h.mv a2⟩
theorem ws_set (h : WS w b g cap l W) (q s er k : Int) (l' : List Blk) (e2 : seE l q s er = k) (e3 : seS l q s er = l') : Calls Try.prog 23 #[.pointer (some ⟨b, 0, none⟩), .int .i64 q, .int .i64 s, .int .i64 er] W fun e w' => e = .returned (.int .i64 k) ∧ WS w b g cap l' w' := by
  subst e2 e3
  exact (Set_any h.1 q s er).mono fun e w' ⟨a1, a2⟩ => ⟨a1, h.mv a2⟩
theorem ws_cold (h : WS w b g cap l W) (k : Int) (f : Bool) (e1 : ((lwc l 3).1 : Int) = k) (e2 : (lwc l 3).2.2 = f) : Calls Try.prog 18 #[.pointer (some ⟨b, 0, none⟩)] W fun e w' => e = .returned (.tuple #[.int .i64 k, .bool f]) ∧ WS w b g cap l w' := by
  subst e1 e2
  exact (Cold_any h.1).mono fun e w' ⟨a1, a2⟩ => ⟨a1, h.later a2⟩
theorem ws_spread (h : WS w b g cap l W) (x y : Int) (e1 : sprA l = x) (e2 : sprB l = y) : Calls Try.prog 19 #[.pointer (some ⟨b, 0, none⟩)] W fun e w' => e = .returned (.tuple #[.int .i64 x, .int .i64 y]) ∧ WS w b g cap l w' := by
  subst e1 e2
  exact (Spread_any h.1).mono fun e w' ⟨a1, a2⟩ => ⟨a1, h.later a2⟩
theorem ws_count (h : WS w b g cap l W) (q k : Int) (e1 : cnt l q = k) : Calls Try.prog 26 #[.pointer (some ⟨b, 0, none⟩), .int .i64 q] W fun e w' => e = .returned (.int .i64 k) ∧ W = w' := by
  subst e1
  exact Count_any h.1 q
theorem ws_erases (h : WS w b g cap l W) (q k : Int) (e1 : ers l q = k) : Calls Try.prog 25 #[.pointer (some ⟨b, 0, none⟩), .int .i64 q] W fun e w' => e = .returned (.int .i64 k) ∧ W = w' := by
  subst e1
  exact Erases_any h.1 q
end
/-- What New leaves, as a state. -/
theorem new_ws {w W : World} (v : Value) (xs : List Int) (hb : Below w.heap.size w W) (hx : Ints W v xs) (hl1 : 1 ≤ xs.length) (hl2 : xs.length ≤ 4096) (ha : erAll xs = true) : Calls Try.prog 9 #[v] W fun e w' => ∃ b g cap, e = .returned (.tuple #[.pointer (some ⟨b, 0, none⟩), .int .i64 0]) ∧ WS w b g cap (mk xs) w' :=
  (New_any v xs W hx hl1 hl2).mono fun e w' h => by
    unfold NewP at h
    rw [if_pos ha] at h
    obtain ⟨b, g, cap, h1, h2, h3⟩ := h
    exact ⟨b, g, cap, h1, h2.rebase hb.size, hb.trans (h3.mono hb.size)⟩
theorem new_no (W : World) : Calls Try.prog 9 #[.slice none 0 0] W (NewBad W) := New_len _ [] W ⟨none, 0, rfl, fun h => absurd h (by simp)⟩ (.inl rfl)
def OkB (w : World) (e : Ending) (w' : World) : Prop := e = .returned (.bool true) ∧ Below w.heap.size w w'
theorem ints311 (w : World) : Ints (w.alloc (.cells #[.int .i64 3, .int .i64 1, .int .i64 1] 3)) (.slice (some ⟨w.heap.size, 0, none⟩) 3 3) [3, 1, 1] := by
  have e := fun k => cell_of_row (w.alloc (.cells #[.int .i64 3, .int .i64 1, .int .i64 1] 3)) w.heap.size k _ 3 (0, 0) (heap_alloc_new w _)
  refine ⟨_, _, rfl, fun _ => ⟨w.heap.size, 0, rfl, by simp, fun j hj => ?_⟩⟩
  have : j = 0 ∨ j = 1 ∨ j = 2 := by simp at hj; omega
  rcases this with rfl | rfl | rfl <;> exact e _
theorem works_any (w : World) : Calls Try.prog 8 #[] w (OkB w) := by
  have HN := Lib.hid (new_ws _ [3, 1, 1] (below_alloc w (.cells #[.int .i64 3, .int .i64 1, .int .i64 1] 3)) (ints311 w) (by decide) (by decide) (by decide))
  go_enter Try.func8, Try.ntmps8
  go_wp2_with (first
    | ((go_at_call 9; with_reducible refine HN.out.mono ?_); rintro e W0 ⟨b, g, cap, rfl, h⟩; have S0 := Lib.hid h; clear h)
    | ((go_at_call 11; with_reducible refine (num_any _ _).mono ?_); rintro e w' ⟨rfl, rfl⟩)
    | ((go_at_call 17; with_reducible refine (ws_take S0.out 1 0 [⟨3, 1⟩, ⟨1, 2⟩, ⟨1, 1⟩] rfl rfl rfl).mono ?_); rintro e W1 ⟨rfl, h⟩; have S1 := Lib.hid h; clear h)
    | ((go_at_call 17; with_reducible refine (ws_take S1.out 2 0 [⟨3, 1⟩, ⟨1, 2⟩, ⟨1, 2⟩] rfl rfl rfl).mono ?_); rintro e W2 ⟨rfl, h⟩; have S2 := Lib.hid h; clear h)
    | ((go_at_call 20; with_reducible refine (ws_close S2.out 1 0 [⟨3, 1⟩, ⟨1, 3⟩, ⟨1, 2⟩] rfl rfl).mono ?_); rintro e W3 ⟨rfl, h⟩; have S3 := Lib.hid h; clear h)
    | ((go_at_call 20; with_reducible refine (ws_close S3.out 1 8 [⟨3, 1⟩, ⟨1, 3⟩, ⟨1, 2⟩] rfl rfl).mono ?_); rintro e W4 ⟨rfl, h⟩; have S4 := Lib.hid h; clear h)
    | ((go_at_call 18; with_reducible refine (ws_cold S4.out 1 true rfl rfl).mono ?_); rintro e W5 ⟨rfl, h⟩; have S5 := Lib.hid h; clear h)
    | ((go_at_call 26; with_reducible refine (ws_count S5.out 1 1 rfl).mono ?_); rintro e w' ⟨rfl, rfl⟩)
    | ((go_at_call 21; with_reducible refine (ws_rel S5.out 1 0 [⟨3, 1⟩, ⟨2, 1⟩, ⟨1, 2⟩] rfl rfl).mono ?_); rintro e W6 ⟨rfl, h⟩; have S6 := Lib.hid h; clear h)
    | ((go_at_call 17; with_reducible refine (ws_take S6.out 1 0 [⟨3, 1⟩, ⟨2, 2⟩, ⟨1, 2⟩] rfl rfl rfl).mono ?_); rintro e W7 ⟨rfl, h⟩; have S7 := Lib.hid h; clear h)
    | ((go_at_call 19; with_reducible refine (ws_spread S7.out 1 3 rfl rfl).mono ?_); rintro e W8 ⟨rfl, h⟩; have S8 := Lib.hid h; clear h)
    | ((go_at_call 25; with_reducible refine (ws_erases S8.out 1 2 rfl).mono ?_); rintro e w' ⟨rfl, rfl⟩)
    | ((go_at_call 22; with_reducible refine (ws_ret S8.out 0 0 [⟨3, 4⟩, ⟨2, 2⟩, ⟨1, 2⟩] rfl rfl).mono ?_); rintro e W9 ⟨rfl, h⟩; have S9 := Lib.hid h; clear h)
    | ((go_at_call 22; with_reducible refine (ws_ret S9.out 0 8 [⟨3, 4⟩, ⟨2, 2⟩, ⟨1, 2⟩] rfl rfl).mono ?_); rintro e W10 ⟨rfl, h⟩; have S10 := Lib.hid h; clear h)
    | ((go_at_call 17; with_reducible refine (ws_take S10.out 0 9 [⟨3, 4⟩, ⟨2, 2⟩, ⟨1, 2⟩] rfl rfl rfl).mono ?_); rintro e W11 ⟨rfl, h⟩; have S11 := Lib.hid h; clear h)
    | ((go_at_call 21; with_reducible refine (ws_rel S11.out 0 8 [⟨3, 4⟩, ⟨2, 2⟩, ⟨1, 2⟩] rfl rfl).mono ?_); rintro e W12 ⟨rfl, h⟩; have S12 := Lib.hid h; clear h)
    | ((go_at_call 21; with_reducible refine (ws_rel S12.out 3 3 [⟨3, 4⟩, ⟨2, 2⟩, ⟨1, 2⟩] rfl rfl).mono ?_); rintro e W13 ⟨rfl, h⟩; have S13 := Lib.hid h; clear h)
    | ((go_at_call 23; with_reducible refine (ws_set S13.out 0 1 9 0 [⟨9, 1⟩, ⟨2, 2⟩, ⟨1, 2⟩] rfl rfl).mono ?_); rintro e W14 ⟨rfl, h⟩; have S14 := Lib.hid h; clear h)
    | ((go_at_call 17; with_reducible refine (ws_take S14.out 0 0 [⟨9, 2⟩, ⟨2, 2⟩, ⟨1, 2⟩] rfl rfl rfl).mono ?_); rintro e W15 ⟨rfl, h⟩; have S15 := Lib.hid h; clear h)
    | ((go_at_call 9; with_reducible refine (new_no _).mono ?_); rintro e W16 ⟨rfl, h⟩; have SB := Lib.hid (S15.out.2.trans (h.mono S15.out.2.size)); clear h))
  go_ret
  exact ⟨rfl, SB.out⟩
end Go.Proofs.Ytpojgjbgbbnojaa
