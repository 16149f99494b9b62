/-
  Mathematics of traffic: two loads, one on the other. Nothing here speaks of the program but the keys of a usage.
-/
import Derived.Test.YtbnpglljloaclaaTfB
namespace Go.Proofs.Ytbnpglljloaclaa
open Go.RowKit Go.Maps

/-- both loads, line by line -/
def sumL (L M : List Int) : List Int := (List.range L.length).map (fun i => ldAt L i + ldAt M i)
def sumTo (L M : List Int) (k : Nat) : List Int := (List.range k).map (fun i => ldAt L i + ldAt M i)
theorem sumTo_succ (L M : List Int) (k : Nat) : sumTo L M (k + 1) = sumTo L M k ++ [ldAt L k + ldAt M k] := by unfold sumTo; rw [List.range_succ, List.map_append]; rfl
theorem sumTo_len (L M : List Int) (k : Nat) : (sumTo L M k).length = k := by simp [sumTo]
theorem sumL_len (L M : List Int) : (sumL L M).length = L.length := by simp [sumL]
/-- what has been added already: of the keys that are not left -/
def adL (L M : List Int) (left : Lit → Bool) : List Int := (List.range L.length).map (fun i => ldAt L i + if left (.int .i64 (i : Int)) then 0 else ldAt M i)
theorem adL_len (L M : List Int) (left : Lit → Bool) : (adL L M left).length = L.length := by simp [adL]
theorem adL_get (L M : List Int) (left : Lit → Bool) {i : Nat} (h : i < L.length) : ldAt (adL L M left) i = ldAt L i + if left (.int .i64 (i : Int)) then 0 else ldAt M i := by simp [ldAt, adL, h]
theorem ldAt_ext {L M : List Int} (hl : L.length = M.length) (h : ∀ i, i < L.length → ldAt L i = ldAt M i) : L = M := by
  apply List.ext_getElem hl
  intro i h1 h2
  have := h i h1
  simpa [ldAt, h1, h2] using this
theorem adL_start {L M : List Int} {left : Lit → Bool} (h : ∀ i : Nat, i < L.length → left (.int .i64 (i : Int)) = true) : adL L M left = L := by
  apply ldAt_ext (adL_len _ _ _)
  intro i hi
  rw [adL_len] at hi
  rw [adL_get _ _ _ hi, h i hi, if_pos rfl, Int.add_zero]
theorem adL_end {L M : List Int} {left : Lit → Bool} (h : ∀ kl, left kl = false) : adL L M left = sumL L M := by
  apply ldAt_ext (by rw [adL_len, sumL_len])
  intro i hi
  rw [adL_len] at hi
  rw [adL_get _ _ _ hi, h]
  simp [ldAt, sumL, hi]
theorem adL_step {L M : List Int} {left : Lit → Bool} {i : Nat} (hi : i < L.length) (hl : left (.int .i64 (i : Int)) = true) (hw : (Lit.int .i64 (i : Int)).wf = true) :
    adL L M (fun z => left z && !z.sameKey (.int .i64 (i : Int))) = (adL L M left).set i (ldAt L i + ldAt M i) := by
  apply ldAt_ext (by rw [adL_len, List.length_set, adL_len])
  intro k hk
  rw [adL_len] at hk
  rw [adL_get _ _ _ hk, ldAt_set (by rw [adL_len]; exact hi)]
  by_cases e : k = i
  · subst e
    rw [if_pos rfl]
    simp only [same_self k hw, Bool.not_true, Bool.and_false, Bool.false_eq_true, ↓reduceIte]
  · rw [if_neg e, adL_get _ _ _ hk]
    rw [sameKey_ne (lit_inj e), Bool.not_false, Bool.and_true]
theorem adL_at {L M : List Int} {left : Lit → Bool} {i : Nat} (hi : i < L.length) (hl : left (.int .i64 (i : Int)) = true) : ldAt (adL L M left) i = ldAt L i := by
  rw [adL_get _ _ _ hi, hl, if_pos rfl, Int.add_zero]
/-- THE LOAD OF BOTH -/
def addB (n : Int) (N : List Lin) (f t : Int) (L M : List Int) : Bool := (loadB n N f t L && loadB n N f t M) && loadB n N f t (sumL L M)
def addV (n : Int) (N : List Lin) (f t : Int) (L M : List Int) : List Int := if addB n N f t L M then sumL L M else []
section
variable {n : Int} {N : List Lin} {f t : Int} {L M : List Int}
theorem add_no (h : addB n N f t L M = false) : addV n N f t L M = [] := by unfold addV; rw [h]; rfl
theorem add_no1 (h : loadB n N f t L = false) : addB n N f t L M = false := by unfold addB; rw [h]; rfl
theorem add_no2 (h : loadB n N f t M = false) : addB n N f t L M = false := by unfold addB; rw [h, Bool.and_false]; rfl
theorem add_no3 (h : loadB n N f t (sumL L M) = false) : addB n N f t L M = false := by unfold addB; rw [h, Bool.and_false]
theorem add_yes (h1 : loadB n N f t L = true) (h2 : loadB n N f t M = true) (h3 : loadB n N f t (sumL L M) = true) : addB n N f t L M = true ∧ addV n N f t L M = sumL L M := by
  have h : addB n N f t L M = true := by unfold addB; rw [h1, h2, h3]; rfl
  exact ⟨h, by unfold addV; rw [h]; rfl⟩
end
end Go.Proofs.Ytbnpglljloaclaa
