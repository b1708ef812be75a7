/- The plain mathematics of a page's data: which bytes are decoded, and to what. No condition. -/
import Derived.Test.YtajlddgemkkcdaaGreatG
namespace Go.Proofs.YtajlddgemkkcdaaGreat
open Go.RowKit
set_option linter.unusedVariables false
set_option maxHeartbeats 1000000
theorem getV_putB (V : Nat) : ∀ n, getV (putB V n) = V % 256 ^ n
  | 0 => by simp [putB, getV, Nat.mod_one]
  | n + 1 => by
    have h : V % 256 ^ (n + 1) = V % 256 ^ n + 256 ^ n * (V / 256 ^ n % 256) := Nat.mod_pow_succ
    rw [putB_succ, getV_snoc, getV_putB V n, putB_length, UInt8.toNat_ofNat', h, Nat.mul_comm (256 ^ n)]
theorem getV_inj : ∀ (a b : List UInt8), a.length = b.length → getV a = getV b → a = b
  | [], [], _, _ => rfl
  | x :: a, y :: b, hl, h => by
    have hx : x.toNat < 256 := x.toNat_lt
    have hy : y.toNat < 256 := y.toNat_lt
    simp only [getV] at h
    have e1 : x.toNat = y.toNat := by omega
    have e2 : getV a = getV b := by omega
    rw [UInt8.toNat_inj.1 e1, getV_inj a b (by simpa using hl) e2]
theorem putB_getV (l : List UInt8) (n : Nat) (h : l.length = n) : putB (getV l) n = l := by
  subst h
  refine getV_inj _ _ (putB_length _ _) ?_
  rw [getV_putB, Nat.mod_eq_of_lt (getV_lt l)]
/-- The number of four bytes. -/
def g4 (l : List UInt8) (p : Nat) : Nat := getV ((l.drop p).take 4)
theorem g4_lt (l : List UInt8) (p : Nat) : g4 l p < 4294967296 := by
  have h := getV_lt ((l.drop p).take 4)
  have h2 : ((l.drop p).take 4).length ≤ 4 := by rw [List.length_take]; omega
  have h3 : 256 ^ ((l.drop p).take 4).length ≤ 256 ^ 4 := Nat.pow_le_pow_right (by decide) h2
  unfold g4
  have h4 : (256 : Nat) ^ 4 = 4294967296 := by decide
  omega
theorem put_g4 {l : List UInt8} {p : Nat} (h : p + 4 ≤ l.length) : putB (g4 l p) 4 = (l.drop p).take 4 := putB_getV _ _ (by rw [List.length_take, List.length_drop]; omega)
def entAt (l : List UInt8) (p : Nat) : Int × Int := ((g4 l p : Int), (g4 l (p + 4) : Int) - 1)
/-- The first entries of a page. -/
def ents (l : List UInt8) (n : Nat) : List (Int × Int) := (List.range n).map fun k => entAt l (4 + 8 * k)
theorem ents_length (l : List UInt8) (n : Nat) : (ents l n).length = n := by simp [ents]
theorem ents_succ (l : List UInt8) (n : Nat) : ents l (n + 1) = ents l n ++ [entAt l (4 + 8 * n)] := by simp [ents, List.range_succ]
theorem ents_get (l : List UInt8) (n j : Nat) (h : j < (ents l n).length) : (ents l n)[j] = entAt l (4 + 8 * j) := by simp [ents]
def Good (l : List UInt8) : Prop := 4 + 8 * g4 l 0 ≤ l.length ∧ allB (ents l (g4 l 0)) = true ∧ l.drop (4 + 8 * g4 l 0) = List.replicate (l.length - (4 + 8 * g4 l 0)) 0
open Classical in
/-- The error of Decode, and its entries. -/
noncomputable def decE (l : List UInt8) : Int := if capF l.length = 0 then 2 else if Good l then 0 else 6
open Classical in
noncomputable def decL (l : List UInt8) : List (Int × Int) := if decE l = 0 then ents l (g4 l 0) else []
theorem decE_arg {l : List UInt8} (h : capF l.length = 0) : decE l = 2 := by unfold decE; rw [if_pos h]
theorem decE_ok {l : List UInt8} (h : capF l.length ≠ 0) (hg : Good l) : decE l = 0 := by unfold decE; rw [if_neg h, if_pos hg]
theorem decE_bad {l : List UInt8} (h : capF l.length ≠ 0) (hg : ¬ Good l) : decE l = 6 := by unfold decE; rw [if_neg h, if_neg hg]
theorem decL_ok {l : List UInt8} (h : decE l = 0) : decL l = ents l (g4 l 0) := by unfold decL; rw [if_pos h]
theorem decL_bad {l : List UInt8} (h : decE l ≠ 0) : decL l = [] := by unfold decL; rw [if_neg h]
theorem bytesF_append (a b : List Int) : bytesF (a ++ b) = bytesF a ++ bytesF b := by simp [bytesF]
theorem numsF_append (a b : List (Int × Int)) : numsF (a ++ b) = numsF a ++ numsF b := by simp [numsF]
theorem bytes_ents (l : List UInt8) : ∀ n, 4 + 8 * n ≤ l.length → bytesF (numsF (ents l n)) = (l.drop 4).take (8 * n)
  | 0, _ => by simp [ents, numsF, bytesF]
  | n + 1, h => by
    have e1 : numsF [entAt l (4 + 8 * n)] = [(g4 l (4 + 8 * n) : Int), (g4 l (4 + 8 * n + 4) : Int)] := by simp [numsF, entAt]
    have e2 : bytesF [(g4 l (4 + 8 * n) : Int), (g4 l (4 + 8 * n + 4) : Int)] = putB (g4 l (4 + 8 * n)) 4 ++ putB (g4 l (4 + 8 * n + 4)) 4 := by simp [bytesF]
    rw [ents_succ, numsF_append, bytesF_append, bytes_ents l n (by omega), e1, e2, put_g4 (by omega), put_g4 (by omega), show 8 * (n + 1) = 8 * n + (4 + 4) by omega, List.take_add, List.take_add, List.drop_drop, List.drop_drop, show 4 + 8 * n + 4 = 4 + (8 * n + 4) by omega, show 4 + (8 * n + 4) = 4 + 8 * n + 4 by omega]
theorem bytes_page (l : List UInt8) (h : 4 + 8 * g4 l 0 ≤ l.length) : bytesF ((g4 l 0 : Int) :: numsF (ents l (g4 l 0))) = l.take (4 + 8 * g4 l 0) := by
  have e : bytesF ((g4 l 0 : Int) :: numsF (ents l (g4 l 0))) = putB (g4 l 0) 4 ++ bytesF (numsF (ents l (g4 l 0))) := by simp [bytesF]
  rw [e, bytes_ents l _ h, put_g4 (by omega), List.take_add, List.drop_zero]
/-- What the reference's second encoding says. -/
theorem enc_again (l : List UInt8) (h : 4 + 8 * g4 l 0 ≤ l.length) (hc : capF l.length ≠ 0) :
    encE l.length (ents l (g4 l 0)) = (if allB (ents l (g4 l 0)) = false then 2 else 0) ∧ (encE l.length (ents l (g4 l 0)) = 0 → (encL l.length (ents l (g4 l 0)) = l ↔ l.drop (4 + 8 * g4 l 0) = List.replicate (l.length - (4 + 8 * g4 l 0)) 0)) := by
  obtain ⟨h1, h2, h3⟩ := capF_pos hc
  have hcap : ¬ capF l.length < ((ents l (g4 l 0)).length : Int) := by rw [h3, ents_length]; omega
  refine ⟨?_, fun he => ?_⟩
  · unfold encE
    by_cases ha : allB (ents l (g4 l 0)) = false
    · rw [if_pos (.inr ha), if_pos ha]
    · rw [if_neg (by simp [hc, ha]), if_neg hcap, if_neg ha]
  · have el : encL l.length (ents l (g4 l 0)) = l.take (4 + 8 * g4 l 0) ++ List.replicate (l.length - (4 + 8 * g4 l 0)) 0 := by
      unfold encL
      rw [if_pos he, ents_length, bytes_page l h, Int.toNat_natCast, List.length_cons, numsF_length, ents_length]
      congr 2
      omega
    rw [el]
    constructor
    · intro e
      have e2 := congrArg (List.drop (4 + 8 * g4 l 0)) e
      rw [List.drop_append_of_le_length (by rw [List.length_take]; omega), List.drop_of_length_le (by rw [List.length_take]; omega), List.nil_append] at e2
      exact e2.symm
    · intro e
      rw [← e, List.take_append_drop]
/-- A page that is made of entries and a rest. -/
theorem page_of (L : List (Int × Int)) (z l : List UInt8) (hL : allB L = true) (hn : L.length < 4294967296) (hl : l = putB L.length 4 ++ bytesF (numsF L) ++ z) :
    g4 l 0 = L.length ∧ ents l L.length = L ∧ l.drop (4 + 8 * L.length) = z ∧ l.length = 4 + 8 * L.length + z.length := by
  have hb : (bytesF (numsF L)).length = 8 * L.length := by rw [bytesF_length, numsF_length]; omega
  have h4 : (256 : Nat) ^ 4 = 4294967296 := by decide
  refine ⟨?_, ?_, ?_, ?_⟩
  · unfold g4
    rw [hl, List.drop_zero, List.append_assoc, List.take_append_of_le_length (by rw [putB_length]; omega), List.take_of_length_le (by rw [putB_length]; omega), getV_putB, h4, Nat.mod_eq_of_lt hn]
  · apply List.ext_getElem (ents_length _ _)
    intro k h1 h2
    rw [ents_get]
    obtain ⟨a1, a2, a3, a4⟩ := (vldB_iff L[k]).1 (allB_at hL k h2)
    have hsplit : L = L.take k ++ ([L[k]] ++ L.drop (k + 1)) := by rw [List.singleton_append, List.getElem_cons_drop, List.take_append_drop]
    have e1 : numsF [L[k]] = [L[k].1, L[k].2 + 1] := by simp [numsF]
    have e2 : bytesF [L[k].1, L[k].2 + 1] = putB L[k].1.toNat 4 ++ putB (L[k].2 + 1).toNat 4 := by simp [bytesF]
    have el : l = (putB L.length 4 ++ bytesF (numsF (L.take k))) ++ (putB L[k].1.toNat 4 ++ (putB (L[k].2 + 1).toNat 4 ++ (bytesF (numsF (L.drop (k + 1))) ++ z))) := by
      rw [hl]
      conv => lhs; rw [hsplit]
      rw [numsF_append, numsF_append, bytesF_append, bytesF_append, e1, e2, ← hsplit]
      simp only [List.append_assoc]
    have hp : (putB L.length 4 ++ bytesF (numsF (L.take k))).length = 4 + 8 * k := by
      rw [List.length_append, putB_length, bytesF_length, numsF_length, List.length_take]; omega
    have d1 : l.drop (4 + 8 * k) = putB L[k].1.toNat 4 ++ (putB (L[k].2 + 1).toNat 4 ++ (bytesF (numsF (L.drop (k + 1))) ++ z)) := by
      conv => lhs; rw [el]
      exact List.drop_left' hp
    have d2 : l.drop (4 + 8 * k + 4) = putB (L[k].2 + 1).toNat 4 ++ (bytesF (numsF (L.drop (k + 1))) ++ z) := by
      rw [← List.drop_drop, d1]
      exact List.drop_left' (putB_length _ _)
    have g1 : g4 l (4 + 8 * k) = L[k].1.toNat := by
      unfold g4
      rw [d1, List.take_left' (putB_length _ _), getV_putB, h4, Nat.mod_eq_of_lt (by omega)]
    have g2 : g4 l (4 + 8 * k + 4) = (L[k].2 + 1).toNat := by
      unfold g4
      rw [d2, List.take_left' (putB_length _ _), getV_putB, h4, Nat.mod_eq_of_lt (by omega)]
    unfold entAt
    rw [g1, g2]
    refine Prod.ext ?_ ?_ <;> simp only <;> omega
  · rw [hl]
    exact List.drop_left' (by rw [List.length_append, putB_length, hb])
  · rw [hl, List.length_append, List.length_append, putB_length, hb]
theorem good_page {L : List (Int × Int)} {z l : List UInt8} (hL : allB L = true) (hn : L.length < 4294967296) (hl : l = putB L.length 4 ++ bytesF (numsF L) ++ z) : Good l ↔ z = List.replicate z.length 0 := by
  obtain ⟨h1, h2, h3, h4⟩ := page_of L z l hL hn hl
  unfold Good
  rw [h1, h2, h3, h4, show 4 + 8 * L.length + z.length - (4 + 8 * L.length) = z.length by omega]
  exact ⟨fun h => h.2.2, fun h => ⟨by omega, hL, h⟩⟩
theorem rep_set {m i : Nat} {v : UInt8} (h : i < m) : ((List.replicate m (0 : UInt8)).set i v = List.replicate m 0) ↔ v = 0 := by
  constructor
  · intro e
    have := congrArg (fun l => l[i]?) e
    simpa [h] using this
  · rintro rfl
    simp
/-- Decode behind Encode, and behind one byte that is stored after the entries. -/
theorem dec_enc {n : Int} {L : List (Int × Int)} (h : encE n L = 0) :
    ((encL n L).length : Int) = n ∧ decE (encL n L) = 0 ∧ decL (encL n L) = L ∧ ∀ (i : Nat) (v : UInt8), 4 + 8 * L.length ≤ i → i < (encL n L).length → (decE ((encL n L).set i v) = 0 ↔ v = 0) ∧ decE ((encL n L).set i v) ≠ 2 := by
  have hc : capF n ≠ 0 := by
    intro e; unfold encE at h; rw [if_pos (.inl e)] at h; omega
  have ha : allB L = true := by
    cases e : allB L
    · unfold encE at h; rw [if_pos (.inr e)] at h; omega
    · rfl
  have hcl : ¬ capF n < (L.length : Int) := by
    intro e; unfold encE at h; rw [if_neg (by simp [hc, ha]), if_pos e] at h; omega
  obtain ⟨h1, h2, h3⟩ := capF_pos hc
  obtain ⟨N, rfl⟩ : ∃ N : Nat, n = (N : Int) := ⟨n.toNat, by omega⟩
  have hfit : 4 + 8 * L.length ≤ N := by omega
  have el : encL (N : Int) L = putB L.length 4 ++ bytesF (numsF L) ++ List.replicate (N - (4 + 8 * L.length)) 0 := by
    unfold encL
    rw [if_pos h, Int.toNat_natCast, List.length_cons, numsF_length, show N - 4 * (2 * L.length + 1) = N - (4 + 8 * L.length) by omega]
    simp [bytesF]
  have hll : L.length < 4294967296 := by omega
  obtain ⟨p1, p2, p3, p4⟩ := page_of L _ _ ha hll el
  rw [List.length_replicate] at p4
  have hN : (encL (N : Int) L).length = N := by omega
  have hg : Good (encL (N : Int) L) := (good_page ha hll el).2 (by rw [List.length_replicate])
  have hE : decE (encL (N : Int) L) = 0 := decE_ok (by rw [hN]; exact hc) hg
  refine ⟨by rw [hN], hE, by rw [decL_ok hE, p1, p2], fun i v hi hi2 => ?_⟩
  rw [hN] at hi2
  have es : (encL (N : Int) L).set i v = putB L.length 4 ++ bytesF (numsF L) ++ (List.replicate (N - (4 + 8 * L.length)) 0).set (i - (4 + 8 * L.length)) v := by
    rw [el, List.set_append_right _ _ (by rw [List.length_append, putB_length, bytesF_length, numsF_length]; omega)]
    congr 2
    rw [List.length_append, putB_length, bytesF_length, numsF_length]; omega
  have hg2 := good_page ha hll es
  rw [List.length_set, List.length_replicate, rep_set (by omega)] at hg2
  have hcs : capF (((encL (N : Int) L).set i v).length : Int) ≠ 0 := by rw [List.length_set, hN]; exact hc
  by_cases hv : v = 0
  · have := decE_ok hcs (hg2.2 hv)
    exact ⟨⟨fun _ => hv, fun _ => this⟩, by rw [this]; decide⟩
  · have := decE_bad hcs (fun h => hv (hg2.1 h))
    exact ⟨⟨fun h => by rw [this] at h; omega, fun h => absurd h hv⟩, by rw [this]; decide⟩
end Go.Proofs.YtajlddgemkkcdaaGreat
