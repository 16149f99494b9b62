/-
  Plain mathematics of faults and ratios: nothing here speaks of the program.
-/
import Derived.Test.YtodboccadccpfaaMemF
namespace Go.Proofs.Ytodboccadccpfaa

/-! ### the greatest common divisor -/
def gcdI (a b : Int) : Int := (Int.gcd a b : Int)
theorem gcdI_comm (a b : Int) : gcdI a b = gcdI b a := by unfold gcdI; rw [Int.gcd_comm]
theorem gcdI_step {a b : Int} (ha : 0 ≤ a) : gcdI b (a.tmod b) = gcdI a b := by
  unfold gcdI
  have h := Int.emod_add_mul_ediv a b
  rw [Int.tmod_eq_emod_of_nonneg ha]
  have e : Int.gcd a b = Int.gcd (a % b + b * (a / b)) b := by rw [h]
  rw [e, Int.gcd_add_mul_left_left, Int.gcd_comm]
theorem gcdI_zero {a : Int} (ha : 0 ≤ a) : gcdI a 0 = a := by
  unfold gcdI
  rw [Int.gcd_zero_right]
  omega
theorem gcdI_pos {a b : Int} (hb : 1 ≤ b) : 1 ≤ gcdI a b := by
  unfold gcdI
  have := Int.gcd_pos_of_ne_zero_right a (show b ≠ 0 by omega)
  omega
theorem gcdI_dvd1 (a b : Int) : gcdI a b ∣ a := Int.gcd_dvd_left a b
theorem gcdI_dvd2 (a b : Int) : gcdI a b ∣ b := Int.gcd_dvd_right a b
theorem gcdI_le {a b : Int} (hb : 1 ≤ b) : gcdI a b ≤ b := Int.le_of_dvd (by omega) (gcdI_dvd2 a b)
theorem gcdI_add (r a b : Int) : gcdI (r * b + a) b = gcdI a b := by
  unfold gcdI
  rw [Int.add_comm, Int.gcd_add_mul_right_left]
theorem tmod_bd {a b : Int} (ha : 0 ≤ a) (hb : 1 ≤ b) : 0 ≤ a.tmod b ∧ a.tmod b < b ∧ a.tmod b ≤ a := by
  rw [Int.tmod_eq_emod_of_nonneg ha]
  have h1 := Int.emod_nonneg a (show b ≠ 0 by omega)
  have h2 := Int.emod_lt_of_pos a (show 0 < b by omega)
  have h3 := Int.emod_add_mul_ediv a b
  have h4 := Int.mul_nonneg (show 0 ≤ b by omega) (Int.ediv_nonneg ha (show 0 ≤ b by omega))
  omega
theorem tdiv_bd {a b : Int} (ha : 0 ≤ a) (hb : 1 ≤ b) : 0 ≤ a.tdiv b ∧ a.tdiv b ≤ a := by
  rw [Int.tdiv_eq_ediv_of_nonneg ha]
  exact ⟨Int.ediv_nonneg ha (by omega), Int.ediv_le_self _ ha⟩

/-! ### ratios -/
structure Rat2 where
  t : Int
  l : Int
deriving DecidableEq
theorem Rat2.ext_ {a b : Rat2} (h0 : a.t = b.t) (h1 : a.l = b.l) : a = b := by
  cases a; cases b; simp_all
/-- in lowest terms -/
def lowR (t l : Int) : Rat2 := ⟨t.tdiv (gcdI t l), l.tdiv (gcdI t l)⟩
/-- what is measured earthed -/
def earR (r s f : Int) : Rat2 := if f + s = 0 then ⟨r, 1⟩ else ⟨(lowR (f * s) (f + s)).t + r * (lowR (f * s) (f + s)).l, (lowR (f * s) (f + s)).l⟩
theorem earR_zero {r s f : Int} (h : f + s = 0) : earR r s f = ⟨r, 1⟩ := by unfold earR; rw [if_pos h]
theorem earR_some {r s f : Int} (h : ¬ f + s = 0) : earR r s f = ⟨(lowR (f * s) (f + s)).t + r * (lowR (f * s) (f + s)).l, (lowR (f * s) (f + s)).l⟩ := by unfold earR; rw [if_neg h]
theorem earR_low {r s f : Int} (hr : 0 ≤ r) (hs : 0 ≤ s) (hf : 0 ≤ f) (h : ¬ f + s = 0) : earR r s f = lowR (r * (f + s) + f * s) (f + s) := by
  have hfs := Int.mul_nonneg hf hs
  have hrs := Int.mul_nonneg hr (show 0 ≤ f + s by omega)
  have hg := gcdI_pos (a := f * s) (b := f + s) (by omega)
  rw [earR_some h]
  unfold lowR
  rw [gcdI_add]
  apply Rat2.ext_
  · dsimp only
    have d1 := gcdI_dvd1 (f * s) (f + s)
    have d2 := gcdI_dvd2 (f * s) (f + s)
    generalize gcdI (f * s) (f + s) = g at *
    rw [Int.tdiv_eq_ediv_of_nonneg hfs, Int.tdiv_eq_ediv_of_nonneg (show 0 ≤ f + s by omega), Int.tdiv_eq_ediv_of_nonneg (show 0 ≤ r * (f + s) + f * s by omega)]
    obtain ⟨x, hx⟩ := d1
    obtain ⟨y, hy⟩ := d2
    rw [hx, hy]
    have e1 : r * (g * y) + g * x = g * (r * y + x) := by rw [Int.mul_add, Int.mul_left_comm]
    rw [e1, Int.mul_ediv_cancel_left _ (by omega), Int.mul_ediv_cancel_left _ (by omega), Int.mul_ediv_cancel_left _ (by omega)]
    omega
  · rfl
theorem lowR_bd {t l : Int} (ht : 0 ≤ t) (hl : 1 ≤ l) : 0 ≤ (lowR t l).t ∧ (lowR t l).t ≤ t ∧ 1 ≤ (lowR t l).l ∧ (lowR t l).l ≤ l := by
  have hg := gcdI_pos (a := t) hl
  have hg2 := gcdI_le (a := t) hl
  have b1 := tdiv_bd ht hg
  have b2 := tdiv_bd (show 0 ≤ l by omega) hg
  refine ⟨b1.1, b1.2, ?_, b2.2⟩
  unfold lowR
  dsimp only
  rw [Int.tdiv_eq_ediv_of_nonneg (by omega)]
  exact (Int.le_ediv_iff_mul_le (by omega)).2 (by omega)

/-! ### faults of a cable -/
/-- the faults for which a number is measured, at the first k miles -/
def fltL (r : Nat → Int) (a : Int) (p : Nat → Bool) (k : Nat) : List Flt := ((List.range k).filter (fun m => inB (a - r m) 0 1000 && p m)).map (fun m : Nat => (⟨(m : Int), a - r m⟩ : Flt))
theorem fltL_zero (r : Nat → Int) (a : Int) (p : Nat → Bool) : fltL r a p 0 = [] := by simp [fltL]
theorem fltL_yes {r : Nat → Int} {a : Int} {p : Nat → Bool} {k : Nat} (h : inB (a - r k) 0 1000 = true) (h2 : p k = true) : fltL r a p (k + 1) = fltL r a p k ++ [⟨k, a - r k⟩] := by
  simp [fltL, List.range_succ, List.filter_append, h, h2]
theorem fltL_no {r : Nat → Int} {a : Int} {p : Nat → Bool} {k : Nat} (h : inB (a - r k) 0 1000 = false) : fltL r a p (k + 1) = fltL r a p k := by
  simp [fltL, List.range_succ, List.filter_append, h]
theorem fltL_not {r : Nat → Int} {a : Int} {p : Nat → Bool} {k : Nat} (h : p k = false) : fltL r a p (k + 1) = fltL r a p k := by
  simp [fltL, List.range_succ, List.filter_append, h]
theorem fltL_length (r : Nat → Int) (a : Int) (p : Nat → Bool) (k : Nat) : (fltL r a p k).length ≤ k := by
  unfold fltL
  rw [List.length_map]
  have := List.length_filter_le (fun m => inB (a - r m) 0 1000 && p m) (List.range k)
  rwa [List.length_range] at this
theorem fltL_head (r : Nat → Int) (a : Int) (p : Nat → Bool) (k : Nat) : (fltL r a p k).head? = ((List.range k).find? (fun m => inB (a - r m) 0 1000 && p m)).map (fun m : Nat => (⟨(m : Int), a - r m⟩ : Flt)) := by
  unfold fltL
  rw [List.head?_map, List.head?_filter]
theorem fltL_filter (r : Nat → Int) (a : Int) (p : Nat → Bool) (k : Nat) (q : Flt → Bool) (h : ∀ m, m < k → inB (a - r m) 0 1000 = true → q ⟨m, a - r m⟩ = p m) : (fltL r a (fun _ => true) k).filter q = fltL r a p k := by
  unfold fltL
  rw [List.filter_map, List.filter_filter]
  congr 1
  apply List.filter_congr
  intro m hm
  rw [List.mem_range] at hm
  simp only [Function.comp_apply, Bool.and_true]
  cases h2 : inB (a - r m) 0 1000
  · simp
  · rw [h m hm h2, Bool.and_comm]

end Go.Proofs.Ytodboccadccpfaa
