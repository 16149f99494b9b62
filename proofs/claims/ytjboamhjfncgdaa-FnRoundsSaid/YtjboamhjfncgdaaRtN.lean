/-
  Mathematics of crossings: how many orders of lifting there are. Nothing here speaks of the program.
-/
import Derived.Test.YtjboamhjfncgdaaRtO
namespace Go.Proofs.Ytjboamhjfncgdaa

/-- of those that are left, this one can be lifted -/
def okS (R : List Rot) (l : List Nat) (k : Nat) : Bool := decide (k ∈ l) && (abvN R k).all fun i => decide (i ∉ l)
/-- the number of orders of those that are left -/
def mS (R : List Rot) : Nat → List Nat → Nat
  | 0, _ => 1
  | f + 1, l => sumTo (fun k => if okS R l k then mS R f (l.filter fun i => decide (i ≠ k)) else 0) R.length
def mSto (R : List Rot) (f : Nat) (l : List Nat) (m : Nat) : Nat := sumTo (fun k => if okS R l k then mS R f (l.filter fun i => decide (i ≠ k)) else 0) m
theorem mS_succ (R : List Rot) (f : Nat) (l : List Nat) : mS R (f + 1) l = mSto R f l R.length := rfl
theorem mSto_zero (R : List Rot) (f : Nat) (l : List Nat) : mSto R f l 0 = 0 := rfl
theorem mSto_yes {R : List Rot} {f : Nat} {l : List Nat} {m : Nat} (h : okS R l m = true) : mSto R f l (m + 1) = mSto R f l m + mS R f (l.filter fun i => decide (i ≠ m)) := by
  unfold mSto; rw [sumTo_succ, if_pos h]
theorem mSto_no {R : List Rot} {f : Nat} {l : List Nat} {m : Nat} (h : okS R l m = false) : mSto R f l (m + 1) = mSto R f l m := by
  unfold mSto; rw [sumTo_succ, if_neg (by simp [h])]; rfl
theorem mS_le {R : List Rot} (h8 : R.length ≤ 8) : ∀ f l, mS R f l ≤ 8 ^ f
  | 0, _ => by simp [mS]
  | f + 1, l => by
    rw [mS]
    have h1 := sumTo_le (f := fun k => if okS R l k then mS R f (l.filter fun i => decide (i ≠ k)) else 0) (b := 8 ^ f) (m := R.length) fun k _ => by
      split
      · exact mS_le h8 f _
      · exact Nat.zero_le _
    have h2 : R.length * 8 ^ f ≤ 8 * 8 ^ f := Nat.mul_le_mul_right _ h8
    rw [Nat.pow_succ]
    omega
theorem mSto_le {R : List Rot} (h8 : R.length ≤ 8) (f : Nat) (l : List Nat) {m : Nat} (hm : m ≤ R.length) : mSto R f l m ≤ 8 * 8 ^ f := by
  have h1 := sumTo_le (f := fun k => if okS R l k then mS R f (l.filter fun i => decide (i ≠ k)) else 0) (b := 8 ^ f) (m := m) fun k _ => by
    split
    · exact mS_le h8 f _
    · exact Nat.zero_le _
  have h2 : m * 8 ^ f ≤ 8 * 8 ^ f := Nat.mul_le_mul_right _ (by omega)
  unfold mSto
  omega
def manyV (R : List Rot) : Int := if chartB R then (mS R R.length (List.range R.length) : Int) else -1
theorem manyV_no {R : List Rot} (h : chartB R = false) : manyV R = -1 := by unfold manyV; rw [h]; rfl
theorem manyV_yes {R : List Rot} (h : chartB R = true) : manyV R = (mS R R.length (List.range R.length) : Int) := by unfold manyV; rw [if_pos h]

/-! ### by what has been lifted -/
theorem okS_free {R : List Rot} {L : List Int} {k : Nat} (hk : k < R.length) : okS R (leftN R L) k = freeB R L k := by
  unfold okS freeB
  have h1 : (decide (k ∈ leftN R L)) = !inL L k := by
    cases h : inL L k
    · exact decide_eq_true (leftN_mem.2 ⟨hk, h⟩)
    · exact decide_eq_false fun hm => by have := (leftN_mem.1 hm).2; rw [h] at this; cases this
  have h2 : ((abvN R k).all fun i => decide (i ∉ leftN R L)) = (abvN R k).all fun i => inL L i := by
    refine Bool.eq_iff_iff.2 ?_
    rw [List.all_eq_true, List.all_eq_true]
    refine ⟨fun h i hi => ?_, fun h i hi => ?_⟩
    · have := of_decide_eq_true (h i hi)
      cases hq : inL L i
      · exact absurd (leftN_mem.2 ⟨(abvN_mem.1 hi).2.1, hq⟩) this
      · rfl
    · refine decide_eq_true fun hm => ?_
      have := (leftN_mem.1 hm).2
      rw [h i hi] at this; cases this
  rw [h1, h2, Bool.and_comm]
theorem left_one (R : List Rot) (L : List Int) (k : Nat) : (leftN R L).filter (fun i => decide (i ≠ k)) = leftN R (L ++ [(k : Int)]) := by
  rw [← leftN_more]
  refine List.filter_congr fun i _ => ?_
  unfold inL
  by_cases h : i = k
  · subst h; simp
  · simp [h]; omega
theorem leftN_nil' (R : List Rot) : leftN R [] = List.range R.length := by rw [leftN_nil, ← List.range_eq_range']

/-! ### by sets of bits -/
def bitsL (n j : Nat) : List Nat := (List.range n).filter fun k => j.testBit k
theorem bitsL_mem {n j k : Nat} : k ∈ bitsL n j ↔ k < n ∧ j.testBit k = true := by unfold bitsL; rw [List.mem_filter, List.mem_range]
theorem bitsL_nodup (n j : Nat) : (bitsL n j).Nodup := List.nodup_range.sublist List.filter_sublist
theorem bits_less : ∀ j : Fin 256, ∀ k : Fin 8, ∀ i : Fin 8, j.1.testBit k.1 = true → (j.1 - 2 ^ k.1).testBit i.1 = (j.1.testBit i.1 && decide (i.1 ≠ k.1)) := by decide +kernel
theorem bits_ge : ∀ j : Fin 256, ∀ k : Fin 8, j.1.testBit k.1 = true → 2 ^ k.1 ≤ j.1 := by decide +kernel
theorem bits_full : ∀ n : Fin 9, bitsL n.1 (2 ^ n.1 - 1) = List.range n.1 := by decide +kernel
theorem bits_some : ∀ n : Fin 9, ∀ j : Fin 256, 0 < j.1 → j.1 < 2 ^ n.1 → bitsL n.1 j.1 ≠ [] := by decide +kernel
theorem bitsL_drop {n j k : Nat} (hn : n ≤ 8) (hj : j < 256) (hk : k ∈ bitsL n j) : bitsL n (j - 2 ^ k) = (bitsL n j).filter fun i => decide (i ≠ k) := by
  obtain ⟨h1, h2⟩ := bitsL_mem.1 hk
  unfold bitsL
  rw [List.filter_filter]
  refine List.filter_congr fun i hi => ?_
  have hi := List.mem_range.1 hi
  have := bits_less ⟨j, hj⟩ ⟨k, by omega⟩ ⟨i, by omega⟩ h2
  rw [this, Bool.and_comm]
theorem len_less {l : List Nat} {k : Nat} (h : l.Nodup) (hk : k ∈ l) : (l.filter fun i => decide (i ≠ k)).length + 1 = l.length := by
  have := rest_len (l := l) (F := [k]) h (by simp) (by intro x hx; rw [List.mem_singleton] at hx; exact hx ▸ hk)
  have e : (l.filter fun i => !inL (ints [k]) i) = l.filter fun i => decide (i ≠ k) := List.filter_congr fun i _ => by
    unfold inL
    by_cases h : i = k
    · subst h; simp [ints]
    · simp [ints, h]; omega
  rw [e] at this
  exact this
/-- the orders of the routes of a set -/
def dpN (R : List Rot) (j : Nat) : Nat := mS R (bitsL R.length j).length (bitsL R.length j)
theorem dpN_zero (R : List Rot) : dpN R 0 = 1 := by
  have : bitsL R.length 0 = [] := List.eq_nil_iff_forall_not_mem.2 fun k hk => by have := (bitsL_mem.1 hk).2; simp at this
  unfold dpN; rw [this]; rfl
theorem dpN_all {R : List Rot} (h8 : R.length ≤ 8) : dpN R (2 ^ R.length - 1) = mS R R.length (List.range R.length) := by
  unfold dpN
  rw [bits_full ⟨R.length, by omega⟩, List.length_range]
/-- so far, in a set's round -/
def dpTo (R : List Rot) (j m : Nat) : Nat := mSto R ((bitsL R.length j).length - 1) (bitsL R.length j) m
theorem dpTo_zero (R : List Rot) (j : Nat) : dpTo R j 0 = 0 := rfl
theorem dpTo_all {R : List Rot} {j : Nat} (h8 : R.length ≤ 8) (h0 : 0 < j) (hj : j < 2 ^ R.length) : dpTo R j R.length = dpN R j := by
  have h256 : j < 256 := Nat.lt_of_lt_of_le hj (Nat.pow_le_pow_right (by omega) h8)
  have := List.length_pos_iff.2 (bits_some ⟨R.length, by omega⟩ ⟨j, h256⟩ h0 hj)
  dsimp only at this
  unfold dpN dpTo
  rw [show (bitsL R.length j).length = ((bitsL R.length j).length - 1) + 1 by omega, mS_succ]
  rfl
theorem dpTo_yes {R : List Rot} {j m : Nat} (h8 : R.length ≤ 8) (hj : j < 256) (h : okS R (bitsL R.length j) m = true) : dpTo R j (m + 1) = dpTo R j m + dpN R (j - 2 ^ m) := by
  have hm : m ∈ bitsL R.length j := by unfold okS at h; simp at h; exact h.1
  unfold dpTo dpN
  rw [mSto_yes h, bitsL_drop h8 hj hm]
  have := len_less (bitsL_nodup R.length j) hm
  rw [show (bitsL R.length j).length - 1 = ((bitsL R.length j).filter fun i => decide (i ≠ m)).length by omega]
theorem dpTo_no {R : List Rot} {j m : Nat} (h : okS R (bitsL R.length j) m = false) : dpTo R j (m + 1) = dpTo R j m := mSto_no h
theorem bitsL_len (n j : Nat) : (bitsL n j).length ≤ n := Nat.le_trans (List.length_filter_le _ _) (by simp)
theorem pow8 {f : Nat} (h : f ≤ 8) : 8 ^ f ≤ 16777216 := Nat.le_trans (Nat.pow_le_pow_right (by omega) h) (by decide)
theorem dpN_le {R : List Rot} (h8 : R.length ≤ 8) (j : Nat) : dpN R j ≤ 16777216 :=
  Nat.le_trans (mS_le h8 _ _) (pow8 (Nat.le_trans (bitsL_len _ _) h8))
theorem dpTo_le {R : List Rot} (h8 : R.length ≤ 8) (j : Nat) {m : Nat} (hm : m ≤ R.length) : dpTo R j m ≤ 134217728 := by
  have h1 := mSto_le h8 ((bitsL R.length j).length - 1) (bitsL R.length j) hm
  have h2 := pow8 (f := (bitsL R.length j).length - 1) (by have := bitsL_len R.length j; omega)
  unfold dpTo; omega
/-- a set of those that lie on a route -/
def maskTo (l : List Nat) : Nat := l.foldl (fun m i => m ||| 2 ^ i) 0
theorem maskTo_snoc (l : List Nat) (i : Nat) : maskTo (l ++ [i]) = maskTo l ||| 2 ^ i := by unfold maskTo; rw [List.foldl_append]; rfl
theorem mask_bit (i : Nat) : ∀ (l : List Nat) (a : Nat), (l.foldl (fun m i => m ||| 2 ^ i) a).testBit i = (a.testBit i || decide (i ∈ l))
  | [], a => by simp
  | x :: l, a => by
    rw [List.foldl_cons, mask_bit i l, Nat.testBit_or, Nat.testBit_two_pow]
    by_cases h : i = x
    · subst h; simp
    · have h2 : ¬ x = i := fun e => h e.symm
      simp [h, h2]
theorem mask_lt {n : Nat} : ∀ (l : List Nat) (a : Nat), (∀ i ∈ l, i < n) → a < 2 ^ n → l.foldl (fun m i => m ||| 2 ^ i) a < 2 ^ n
  | [], a, _, h => h
  | x :: l, a, hl, h => by
    rw [List.foldl_cons]
    exact mask_lt l _ (fun i hi => hl i (by simp [hi])) (Nat.or_lt_two_pow h (Nat.pow_lt_pow_right (by omega) (hl x (by simp))))
def aboveM (R : List Rot) (k : Nat) : Nat := maskTo (abvN R k)
theorem maskTo_lt (R : List Rot) (k m : Nat) (h8 : R.length ≤ 8) : maskTo ((abvN R k).take m) < 256 := by
  refine Nat.lt_of_lt_of_le (mask_lt (n := R.length) _ 0 (fun i hi => (abvN_mem.1 (List.mem_of_mem_take hi)).2.1) (Nat.two_pow_pos _)) ?_
  exact Nat.pow_le_pow_right (by omega) h8
theorem aboveM_lt (R : List Rot) (k : Nat) (h8 : R.length ≤ 8) : aboveM R k < 256 := by
  have := maskTo_lt R k (abvN R k).length h8
  rwa [List.take_length] at this
theorem and_zero {a b : Nat} : a &&& b = 0 ↔ ∀ i, a.testBit i = true → b.testBit i = false := by
  constructor
  · intro h i ha
    have := congrArg (fun m => m.testBit i) h
    rw [Nat.testBit_and, ha, Bool.true_and, Nat.zero_testBit] at this
    exact this
  · intro h
    refine Nat.eq_of_testBit_eq fun i => ?_
    rw [Nat.testBit_and, Nat.zero_testBit]
    cases ha : a.testBit i
    · rfl
    · rw [h i ha]; rfl
theorem okS_bits (R : List Rot) (j k : Nat) (hk : k < R.length) : okS R (bitsL R.length j) k = (j.testBit k && decide (j &&& aboveM R k = 0)) := by
  unfold okS
  have h1 : decide (k ∈ bitsL R.length j) = j.testBit k := by
    cases h : j.testBit k
    · exact decide_eq_false fun hm => by have := (bitsL_mem.1 hm).2; rw [h] at this; cases this
    · exact decide_eq_true (bitsL_mem.2 ⟨hk, h⟩)
  have hb : ∀ i, (aboveM R k).testBit i = decide (i ∈ abvN R k) := fun i => by
    unfold aboveM maskTo; rw [mask_bit]; simp
  have h2 : ((abvN R k).all fun i => decide (i ∉ bitsL R.length j)) = decide (j &&& aboveM R k = 0) := by
    refine Bool.eq_iff_iff.2 ?_
    rw [List.all_eq_true, decide_eq_true_eq, and_zero]
    refine ⟨fun h i hi => ?_, fun h i hi => ?_⟩
    · rw [hb]
      refine decide_eq_false fun hm => ?_
      exact of_decide_eq_true (h i hm) (bitsL_mem.2 ⟨(abvN_mem.1 hm).2.1, hi⟩)
    · refine decide_eq_true fun hm => ?_
      have := h i (bitsL_mem.1 hm).2
      rw [hb, decide_eq_true hi] at this; cases this
  rw [h1, h2]

end Go.Proofs.Ytjboamhjfncgdaa
