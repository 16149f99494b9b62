/-
  Plain mathematics of SignalLetters: how many messages have a signal of so many pulses.
-/
import Derived.Test.YtgnolhikphoagaaDoorSgM
namespace Go.Proofs.YtgnolhikphoagaaDoor

/-- the numbers of messages, by pulses -/
def mesT : List Nat := [0, 2, 4, 12, 28, 56, 160, 368, 912, 2160, 5248, 12832, 30848, 74880, 180928, 438784, 1062144]
def mesV (k : Nat) : Nat := mesT.getD k 0
/-- .. as the model counts: one pulse more, and 1 for none -/
def wayT : List Nat := [1, 0, 2, 4, 12, 28, 56, 160, 368, 912, 2160, 5248, 12832, 30848, 74880, 180928, 438784, 1062144]
def wayV (k : Nat) : Nat := wayT.getD k 0
def mnyV (m : Nat) : Nat := [0, 2, 4, 8, 12].getD m 0
/-- what the program has added up behind so many first codes -/
def pI (L : Nat) : Nat → Nat
  | 0 => cdo 5 1 L
  | j + 1 => pI L j + if j = 0 then 0 else cdo 5 1 j * mesV (L - j - 1)
/-- .. the model -/
def pS (k : Nat) : Nat → Nat
  | 0 => 0
  | m + 1 => pS k m + if 1 ≤ m ∧ m + 1 ≤ k then mnyV m * wayV (k - m - 1) else 0
theorem pI_all : ∀ L, L < 17 → 1 ≤ L → pI L L = mesV L := by decide +kernel
theorem pS_all : ∀ k, k < 18 → 1 ≤ k → pS k 5 = wayV k := by decide +kernel
theorem pS_one : ∀ k, k < 18 → pS k 1 = 0 := by decide +kernel
theorem way_mes : ∀ n, n < 17 → 1 ≤ n → wayV (n + 1) = mesV n := by decide +kernel
theorem mes_le : ∀ n, n < 18 → mesV n ≤ 10000000 := by decide +kernel
theorem way_le : ∀ n, n < 18 → wayV n ≤ 10000000 := by decide +kernel
theorem pI_le : ∀ L, L < 17 → ∀ j, j ≤ L → pI L j ≤ 10000000 := by decide +kernel
theorem pS_le : ∀ k, k < 18 → ∀ m, m < 6 → pS k m ≤ 10000000 := by decide +kernel
theorem cdo_one_le : ∀ k, k < 18 → cdo 5 1 k ≤ 12 := by decide +kernel
theorem cdM_le : ∀ k, k < 17 → ∀ j, j < 17 → cdo 5 1 k * mesV j ≤ 1000000000 := by decide +kernel
theorem myW_le : ∀ m, m < 5 → ∀ j, j < 18 → mnyV m * wayV j ≤ 1000000000 := by decide +kernel
theorem mny_le : ∀ m, m < 5 → mnyV m ≤ 12 := by decide
/-- how many messages have a signal of n pulses -/
def lettersV (n : Int) : Int := if 1 ≤ n ∧ n ≤ 16 then (mesV n.toNat : Nat) else -1

/-- a list of numbers as a function -/
def isF (y : List Int) (F : Nat → Nat) : Prop := ∀ i, i < y.length → y[i]?.getD 0 = ((F i : Nat) : Int)
theorem isF_set {y : List Int} {F G : Nat → Nat} {k v : Nat} (h : isF y F) (hk : G k = v) (hG : ∀ i, i ≠ k → G i = F i) : isF (y.set k (v : Int)) G := by
  intro i hi
  rw [List.length_set] at hi
  by_cases e : i = k
  · subst e
    rw [List.getElem?_set_self hi, hk]
    rfl
  · rw [List.getElem?_set_ne (Ne.symm e), h i hi, hG i e]
theorem isF_same {y : List Int} {F G : Nat → Nat} (h : isF y F) (hG : ∀ i, i < y.length → G i = F i) : isF y G := fun i hi => by rw [h i hi, hG i hi]
theorem isF_zero (N : Nat) (F : Nat → Nat) (h : ∀ i, i < N → F i = 0) : isF (List.replicate N 0) F := by
  intro i hi
  rw [List.length_replicate] at hi
  rw [List.getElem?_replicate_of_lt hi, h i hi]
  rfl
/-- the program's list: those below L are done; that of L bears v -/
def fI (L v : Nat) (i : Nat) : Nat := if i < L then mesV i else if i = L then v else 0
def fS (L v : Nat) (i : Nat) : Nat := if i < L then wayV i else if i = L then v else 0
theorem fI_next (L : Nat) (i : Nat) : fI (L + 1) 0 i = fI L (mesV L) i := by
  unfold fI
  by_cases h1 : i < L
  · rw [if_pos h1, if_pos (by omega)]
  · by_cases h2 : i = L
    · subst h2; simp
    · rw [if_neg (by omega), if_neg h1, if_neg h2]; simp
theorem fS_next (L : Nat) (i : Nat) : fS (L + 1) 0 i = fS L (wayV L) i := by
  unfold fS
  by_cases h1 : i < L
  · rw [if_pos h1, if_pos (by omega)]
  · by_cases h2 : i = L
    · subst h2; simp
    · rw [if_neg (by omega), if_neg h1, if_neg h2]; simp
theorem fI_at (L v : Nat) : fI L v L = v := by simp [fI]
theorem fI_ne {L v u i : Nat} (h : i ≠ L) : fI L v i = fI L u i := by unfold fI; rw [if_neg h, if_neg h]
theorem fI_lt {L v i : Nat} (h : i < L) : fI L v i = mesV i := by unfold fI; rw [if_pos h]
theorem fS_at (L v : Nat) : fS L v L = v := by simp [fS]
theorem fS_ne {L v u i : Nat} (h : i ≠ L) : fS L v i = fS L u i := by unfold fS; rw [if_neg h, if_neg h]
theorem fS_lt {L v i : Nat} (h : i < L) : fS L v i = wayV i := by unfold fS; rw [if_pos h]

end Go.Proofs.YtgnolhikphoagaaDoor
