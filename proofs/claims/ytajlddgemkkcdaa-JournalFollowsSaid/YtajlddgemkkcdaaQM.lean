/- Mathematics of a merge in place: what a rotation makes of two ordered parts. Conditions stand in each theorem. -/
import Derived.Test.YtajlddgemkkcdaaQA
namespace Go.Proofs.Ytajlddgemkkcdaa
open Go.Shelf Go.RowKit Go.Lib Go.Sort
set_option linter.unusedVariables false
variable {α : Type} [Inhabited α] {R : α → α → Prop} {lt : α → α → Bool} {d d' : Array α} {a m b : Nat}
/-- The part from a on, up to b, is ordered. -/
def Ord (R : α → α → Prop) (d : Array α) (a b : Nat) : Prop := ∀ i j, a ≤ i → i < j → j < b → R d[i]! d[j]!
/-- Two ordered parts beside one another, and what lt says across. -/
structure Pre (R : α → α → Prop) (lt : α → α → Bool) (d : Array α) (a m b : Nat) : Prop where
  left : Ord R d a m
  right : Ord R d m b
  yes : ∀ i j, a ≤ i → i < m → m ≤ j → j < b → lt d[j]! d[i]! = true → R d[j]! d[i]!
  no : ∀ i j, a ≤ i → i < m → m ≤ j → j < b → lt d[j]! d[i]! = false → R d[i]! d[j]!
theorem rtIx_a {a m b t : Nat} (h1 : a ≤ t) (h2 : t < a + (b - m)) : rtIx a m b t = t + (m - a) := by unfold rtIx; rw [if_pos ⟨h1, h2⟩]
theorem rtIx_b {a m b t : Nat} (h1 : a + (b - m) ≤ t) (h2 : t < b) : rtIx a m b t = t - (b - m) := by unfold rtIx; rw [if_neg (by omega), if_pos ⟨h1, h2⟩]
theorem rtIx_o {a m b t : Nat} (h0 : a ≤ m) (h1 : m ≤ b) (h2 : t < a ∨ b ≤ t) : rtIx a m b t = t := by unfold rtIx; rw [if_neg (by omega), if_neg (by omega)]
theorem rt_start (a t : Nat) : rtIx a (a + 1) (a + 1) t = t := by unfold rtIx; (repeat' split) <;> omega
theorem rt_start2 (m t : Nat) : rtIx m m (m + 1) t = t := by unfold rtIx; (repeat' split) <;> omega
theorem rt_triv {s m e : Nat} (h : s = m ∨ e = m) (hs : s ≤ m) (he : m ≤ e) (t : Nat) : rtIx s m e t = t := by unfold rtIx; (repeat' split) <;> omega
theorem rt_up {a p : Nat} (h : a ≤ p) (t : Nat) : rtIx a (a + 1) (p + 1) (if t = p + 1 then p else if t = p then p + 1 else t) = rtIx a (a + 1) (p + 2) t := by
  unfold rtIx
  (repeat' split) <;> omega
theorem rt_down {m p : Nat} (h : p + 1 ≤ m) (t : Nat) : rtIx (p + 1) m (m + 1) (if t = p then p + 1 else if t = p + 1 then p else t) = rtIx p m (m + 1) t := by
  unfold rtIx
  (repeat' split) <;> omega
/-- The first part has one element. -/
theorem merge_one (hT : ∀ x y z, R x y → R y z → R x z) {i : Nat} (hP : Pre R lt d a (a + 1) b) (hi : a + 1 ≤ i) (hib : i ≤ b) (h1 : ∀ t, a + 1 ≤ t → t < i → R d[t]! d[a]!) (h2 : ∀ t, i ≤ t → t < b → R d[a]! d[t]!) (hx : Ixd d d' (rtIx a (a + 1) i)) : Ord R d' a b := by
  intro x y hax hxy hyb
  rw [hx.2, hx.2]
  by_cases hx1 : x < i - 1
  · rw [rtIx_a hax (by omega)]
    by_cases hy1 : y < i - 1
    · rw [rtIx_a (by omega) (by omega)]
      exact hP.right _ _ (by omega) (by omega) (by omega)
    · by_cases hy2 : y < i
      · rw [rtIx_b (by omega) hy2, show y - (i - (a + 1)) = a by omega]
        exact h1 _ (by omega) (by omega)
      · rw [rtIx_o (by omega) (by omega) (.inr (by omega))]
        exact hP.right _ _ (by omega) (by omega) (by omega)
  · by_cases hx2 : x < i
    · rw [rtIx_b (by omega) hx2, show x - (i - (a + 1)) = a by omega, rtIx_o (by omega) (by omega) (.inr (by omega))]
      exact h2 _ (by omega) hyb
    · rw [rtIx_o (by omega) (by omega) (.inr (by omega)), rtIx_o (by omega) (by omega) (.inr (by omega))]
      exact hP.right _ _ (by omega) (by omega) (by omega)
/-- The second part has one element. -/
theorem merge_last (hT : ∀ x y z, R x y → R y z → R x z) {i : Nat} (hP : Pre R lt d a m (m + 1)) (hi : a ≤ i) (him : i ≤ m) (h1 : ∀ t, a ≤ t → t < i → R d[t]! d[m]!) (h2 : ∀ t, i ≤ t → t < m → R d[m]! d[t]!) (hx : Ixd d d' (rtIx i m (m + 1))) : Ord R d' a (m + 1) := by
  intro x y hax hxy hyb
  rw [hx.2, hx.2]
  by_cases hx1 : x < i
  · rw [rtIx_o (t := x) (by omega) (by omega) (.inl hx1)]
    by_cases hy1 : y < i
    · rw [rtIx_o (by omega) (by omega) (.inl hy1)]
      exact hP.left _ _ hax hxy (by omega)
    · by_cases hy2 : y = i
      · subst hy2
        rw [rtIx_a (by omega) (by omega), show y + (m - y) = m by omega]
        exact h1 _ hax hx1
      · rw [rtIx_b (by omega) hyb]
        exact hP.left _ _ hax (by omega) (by omega)
  · by_cases hx2 : x = i
    · subst hx2
      rw [rtIx_a (t := x) (by omega) (by omega), show x + (m - x) = m by omega, rtIx_b (by omega) hyb]
      exact h2 _ (by omega) (by omega)
    · rw [rtIx_b (by omega) (by omega), rtIx_b (by omega) hyb]
      exact hP.left _ _ (by omega) (by omega) (by omega)
/-- Where the rotation of the general case stands. -/
structure Cutp (R : α → α → Prop) (d : Array α) (a m b mid s e : Nat) : Prop where
  ha : a ≤ s
  sm : s ≤ m
  me : m ≤ e
  eb : e ≤ b
  sum : s + e = mid + m
  am : a ≤ mid
  mb : mid ≤ b
  lo : s = a ∨ e = b ∨ R d[s - 1]! d[e]! ∧ a < s ∧ e < b
  hi : s = m ∨ e = m ∨ R d[e - 1]! d[s]! ∧ m < e ∧ s < m
section
variable {mid s e : Nat} {d1 d2 d3 : Array α}
theorem Cutp.left (hP : Pre R lt d a m b) (hC : Cutp R d a m b mid s e) (hx : Ixd d d1 (rtIx s m e)) (h1 : a < s) (h2 : s < mid) : Pre R lt d1 a s mid := by
  have ha := hC.ha; have sm := hC.sm; have me := hC.me; have eb := hC.eb; have sum := hC.sum; have am := hC.am; have mb := hC.mb
  have ex : ∀ x, x < s → d1[x]! = d[x]! := fun x h => by rw [hx.2, rtIx_o sm me (.inl h)]
  have ey : ∀ y, s ≤ y → y < mid → d1[y]! = d[y + (m - s)]! := fun y h h' => by rw [hx.2, rtIx_a h (by omega)]
  refine ⟨fun i j p q r => ?_, fun i j p q r => ?_, fun i j p q r t => ?_, fun i j p q r t => ?_⟩
  · rw [ex i (by omega), ex j (by omega)]; exact hP.left i j p q (by omega)
  · rw [ey i p (by omega), ey j (by omega) r]; exact hP.right _ _ (by omega) (by omega) (by omega)
  · rw [ex i (by omega), ey j (by omega) t]; exact hP.yes _ _ p (by omega) (by omega) (by omega)
  · rw [ex i (by omega), ey j (by omega) t]; exact hP.no _ _ p (by omega) (by omega) (by omega)
theorem Cutp.leftOrd (hP : Pre R lt d a m b) (hC : Cutp R d a m b mid s e) (hx : Ixd d d1 (rtIx s m e)) (h : ¬ (a < s ∧ s < mid)) : Ord R d1 a mid := by
  have ha := hC.ha; have sm := hC.sm; have me := hC.me; have eb := hC.eb; have sum := hC.sum; have am := hC.am; have mb := hC.mb
  intro i j p q r
  rw [hx.2, hx.2]
  by_cases h1 : a < s
  · rw [rtIx_o sm me (.inl (by omega)), rtIx_o sm me (.inl (by omega))]
    exact hP.left i j p q (by omega)
  · rw [rtIx_a (by omega) (by omega), rtIx_a (by omega) (by omega)]
    exact hP.right _ _ (by omega) (by omega) (by omega)
theorem Cutp.right (hP : Pre R lt d a m b) (hC : Cutp R d a m b mid s e) (hx : Ixd d d1 (rtIx s m e)) (he : ∀ t, mid ≤ t → d2[t]! = d1[t]!) (h1 : mid < e) (h2 : e < b) : Pre R lt d2 mid e b := by
  have ha := hC.ha; have sm := hC.sm; have me := hC.me; have eb := hC.eb; have sum := hC.sum; have am := hC.am; have mb := hC.mb
  have ex : ∀ x, mid ≤ x → x < e → d2[x]! = d[x - (e - m)]! := fun x h h' => by rw [he x h, hx.2, rtIx_b (by omega) h']
  have ey : ∀ y, e ≤ y → d2[y]! = d[y]! := fun y h => by rw [he y (by omega), hx.2, rtIx_o sm me (.inr h)]
  refine ⟨fun i j p q r => ?_, fun i j p q r => ?_, fun i j p q r t => ?_, fun i j p q r t => ?_⟩
  · rw [ex i p (by omega), ex j (by omega) r]; exact hP.left _ _ (by omega) (by omega) (by omega)
  · rw [ey i p, ey j (by omega)]; exact hP.right _ _ (by omega) (by omega) (by omega)
  · rw [ex i p q, ey j r]; exact hP.yes _ _ (by omega) (by omega) (by omega) (by omega)
  · rw [ex i p q, ey j r]; exact hP.no _ _ (by omega) (by omega) (by omega) (by omega)
theorem Cutp.rightOrd (hP : Pre R lt d a m b) (hC : Cutp R d a m b mid s e) (hx : Ixd d d1 (rtIx s m e)) (he : ∀ t, mid ≤ t → d2[t]! = d1[t]!) (h : ¬ (mid < e ∧ e < b)) : Ord R d2 mid b := by
  have ha := hC.ha; have sm := hC.sm; have me := hC.me; have eb := hC.eb; have sum := hC.sum; have am := hC.am; have mb := hC.mb
  intro i j p q r
  rw [he i p, he j (by omega), hx.2, hx.2]
  by_cases h1 : mid < e
  · rw [rtIx_b (by omega) (by omega), rtIx_b (by omega) (by omega)]
    exact hP.left _ _ (by omega) (by omega) (by omega)
  · rw [rtIx_o sm me (.inr (by omega)), rtIx_o sm me (.inr (by omega))]
    exact hP.right _ _ (by omega) (by omega) (by omega)
theorem Cutp.cross (hT : ∀ x y z, R x y → R y z → R x z) (hP : Pre R lt d a m b) (hC : Cutp R d a m b mid s e) (hx : Ixd d d1 (rtIx s m e)) : ∀ x y, a ≤ x → x < mid → mid ≤ y → y < b → R d1[x]! d1[y]! := by
  have ha := hC.ha; have sm := hC.sm; have me := hC.me; have eb := hC.eb; have sum := hC.sum; have am := hC.am; have mb := hC.mb
  intro x y hax hxm hmy hyb
  rw [hx.2, hx.2]
  by_cases h1 : x < s
  · rw [rtIx_o (t := x) sm me (.inl h1)]
    by_cases h2 : y < e
    · rw [rtIx_b (by omega) h2]
      exact hP.left _ _ hax (by omega) (by omega)
    · rw [rtIx_o sm me (.inr (by omega))]
      rcases hC.lo with h3 | h3 | ⟨h3, h4, h5⟩
      · omega
      · omega
      · have g1 : R d[x]! d[e]! := by
          by_cases hq : x = s - 1
          · rw [hq]; exact h3
          · exact hT _ _ _ (hP.left x (s - 1) hax (by omega) (by omega)) h3
        by_cases hq : y = e
        · rw [hq]; exact g1
        · exact hT _ _ _ g1 (hP.right e y me (by omega) hyb)
  · rw [rtIx_a (t := x) (by omega) (by omega)]
    by_cases h2 : y < e
    · rw [rtIx_b (by omega) h2]
      rcases hC.hi with h3 | h3 | ⟨h3, h4, h5⟩
      · omega
      · omega
      · have g1 : R d[x + (m - s)]! d[s]! := by
          by_cases hq : x + (m - s) = e - 1
          · rw [hq]; exact h3
          · exact hT _ _ _ (hP.right (x + (m - s)) (e - 1) (by omega) (by omega) (by omega)) h3
        by_cases hq : y - (e - m) = s
        · rw [hq]; exact g1
        · exact hT _ _ _ g1 (hP.left s (y - (e - m)) ha (by omega) (by omega))
    · rw [rtIx_o sm me (.inr (by omega))]
      exact hP.right _ _ (by omega) (by omega) hyb
/-- Both parts are ordered, and the one lies before the other. -/
theorem ord_join (am : a ≤ mid) (mb : mid ≤ b) (hb : b ≤ d1.size) (hc : ∀ x y, a ≤ x → x < mid → mid ≤ y → y < b → R d1[x]! d1[y]!) (p2 : PermIn a mid d1 d2) (o2 : Ord R d2 a mid) (p3 : PermIn mid b d2 d3) (o3 : Ord R d3 mid b) : Ord R d3 a b := by
  have k1 : ∀ y, mid ≤ y → y < b → ∀ x, a ≤ x → x < mid → R d2[x]! d1[y]! := fun y h h' => permIn_all d1 d2 a mid (fun z => R z d1[y]!) (by omega) p2 (fun x g g' => hc x y g g' h h')
  have k2 : ∀ x, a ≤ x → x < mid → ∀ y, mid ≤ y → y < b → R d2[x]! d3[y]! := fun x h h' => permIn_all d2 d3 mid b (fun z => R d2[x]! z) (by rw [p2.1]; exact hb) p3 (fun y g g' => by rw [p2.2.1 y (.inr g)]; exact k1 y g g' x h h')
  intro i j h1 h2 h3
  by_cases hj : j < mid
  · rw [p3.2.1 i (.inl (by omega)), p3.2.1 j (.inl hj)]; exact o2 i j h1 h2 hj
  · by_cases hi : i < mid
    · rw [p3.2.1 i (.inl hi)]; exact k2 i h1 hi j (by omega) h3
    · exact o3 i j (by omega) h2 h3
end
end Go.Proofs.Ytajlddgemkkcdaa
