/-
  Mathematics of crossings: all that must be lifted ahead of a route, found in two ways. Nothing here speaks of the program.
-/
import Derived.Test.YtjboamhjfncgdaaRtM
namespace Go.Proofs.Ytjboamhjfncgdaa

theorem nsub_len : ∀ {A B : List Nat}, A.Nodup → (∀ x ∈ A, x ∈ B) → A.length ≤ B.length
  | [], _, _, _ => by simp
  | a :: A, B, h, hs => by
    rw [List.nodup_cons] at h
    have hb : a ∈ B := hs a (by simp)
    have := nsub_len (A := A) (B := B.erase a) h.2 fun x hx => by
      have hne : x ≠ a := fun e => h.1 (e ▸ hx)
      exact (List.mem_erase_of_ne hne).2 (hs x (by simp [hx]))
    rw [List.length_erase_of_mem hb] at this
    have hp := List.length_pos_of_mem hb
    simp only [List.length_cons]; omega

/-- it lies on route k, or on one that does, and so on -/
inductive Up (R : List Rot) (k : Nat) : Nat → Prop
  | base : Up R k k
  | step (h i : Nat) (hu : Up R k h) (hi : i ∈ abvN R h) : Up R k i
theorem Up.ge {R : List Rot} {k x : Nat} (h : Up R k x) : k ≤ x := by
  induction h with
  | base => omega
  | step h i _ hi ih => have := (abvN_mem.1 hi).1; omega
theorem Up.lt {R : List Rot} {k x : Nat} (h : Up R k x) (hk : k < R.length) : x < R.length := by
  cases h with
  | base => exact hk
  | step h i _ hi => exact (abvN_mem.1 hi).2.1
/-- the heap, one route after the other -/
def heapTo (R : List Rot) (k : Nat) : Nat → List Nat
  | 0 => [k]
  | m + 1 => if (heapTo R k m).any (fun h => crI R (k + 1 + m) h) then heapTo R k m ++ [k + 1 + m] else heapTo R k m
theorem heapTo_yes {R : List Rot} {k m : Nat} (h : (heapTo R k m).any (fun h => crI R (k + 1 + m) h) = true) : heapTo R k (m + 1) = heapTo R k m ++ [k + 1 + m] := by rw [heapTo, if_pos h]
theorem heapTo_no {R : List Rot} {k m : Nat} (h : (heapTo R k m).any (fun h => crI R (k + 1 + m) h) = false) : heapTo R k (m + 1) = heapTo R k m := by rw [heapTo, if_neg (by simp [h])]
theorem heap_len (R : List Rot) (k : Nat) : ∀ m, 1 ≤ (heapTo R k m).length ∧ (heapTo R k m).length ≤ m + 1
  | 0 => by simp [heapTo]
  | m + 1 => by
    have ih := heap_len R k m
    rw [heapTo]; split
    · rw [List.length_append, List.length_singleton]; omega
    · omega
theorem heap_mem {R : List Rot} {k : Nat} (hk : k < R.length) : ∀ m, k + 1 + m ≤ R.length → ∀ x, x ∈ heapTo R k m ↔ Up R k x ∧ x < k + 1 + m
  | 0, _, x => by
    simp only [heapTo, List.mem_singleton]
    constructor
    · rintro rfl; exact ⟨.base, by omega⟩
    · rintro ⟨h, h2⟩; have := h.ge; omega
  | m + 1, hm, x => by
    have ih := heap_mem hk m (by omega)
    have key : (heapTo R k m).any (fun h => crI R (k + 1 + m) h) = true ↔ Up R k (k + 1 + m) := by
      rw [List.any_eq_true]
      constructor
      · rintro ⟨h, h1, h2⟩
        obtain ⟨h3, h4⟩ := (ih h).1 h1
        exact .step h _ h3 (abvN_mem.2 ⟨by omega, by omega, h2⟩)
      · intro hu
        generalize hz : k + 1 + m = z at hu
        cases hu with
        | base => omega
        | step h i hh hi =>
          obtain ⟨h1, h2, h3⟩ := abvN_mem.1 hi
          exact ⟨h, (ih h).2 ⟨hh, by omega⟩, h3⟩
    by_cases h : (heapTo R k m).any (fun h => crI R (k + 1 + m) h) = true
    · rw [heapTo_yes h, List.mem_append, ih, List.mem_singleton]
      constructor
      · rintro (⟨h1, h2⟩ | rfl)
        · exact ⟨h1, by omega⟩
        · exact ⟨key.1 h, by omega⟩
      · rintro ⟨h1, h2⟩
        by_cases h3 : x < k + 1 + m
        · exact .inl ⟨h1, h3⟩
        · exact .inr (by omega)
    · rw [heapTo_no (Bool.eq_false_iff.2 h), ih]
      constructor
      · rintro ⟨h1, h2⟩; exact ⟨h1, by omega⟩
      · rintro ⟨h1, h2⟩
        refine ⟨h1, ?_⟩
        rcases (by omega : x < k + 1 + m ∨ x = k + 1 + m) with h3 | h3
        · exact h3
        · exact absurd (key.2 (h3 ▸ h1)) h
theorem heap_nodup {R : List Rot} {k : Nat} (hk : k < R.length) : ∀ m, k + 1 + m ≤ R.length → (heapTo R k m).Nodup
  | 0, _ => by simp [heapTo]
  | m + 1, hm => by
    have ih := heap_nodup hk m (by omega)
    rw [heapTo]; split
    · refine List.nodup_append.2 ⟨ih, by simp, fun x hx y hy e => ?_⟩
      have := ((heap_mem hk m (by omega) x).1 hx).2
      rw [List.mem_singleton] at hy
      omega
    · exact ih
def clrN (R : List Rot) (k : Nat) : Nat := (heapTo R k (R.length - (k + 1))).length - 1
def clrV (R : List Rot) (k : Int) : Int := if hasR R k then (clrN R k.toNat : Int) else -1
theorem clrV_no {R : List Rot} {k : Int} (h : hasR R k = false) : clrV R k = -1 := by unfold clrV; rw [h]; rfl
theorem clrV_yes {R : List Rot} {k : Nat} (h : hasR R (k : Int) = true) : clrV R (k : Int) = (clrN R k : Int) := by unfold clrV; rw [if_pos h, Int.toNat_natCast]
theorem clrN_le {R : List Rot} {k : Nat} (hk : k < R.length) : clrN R k + k < R.length := by
  have := heap_len R k (R.length - (k + 1)); unfold clrN; omega

/-! ### the model's way: a list that grows while it is gone through -/
def addN (L : List Nat) (y : Nat) : List Nat := if y ∈ L then L else L ++ [y]
/-- what is found so far: the routes ahead of place i have been looked at, of the one there the first m that lie on it -/
structure ClrInv (R : List Rot) (k : Nat) (L : List Nat) (i m : Nat) : Prop where
  nd : L.Nodup
  st : k ∈ L
  up : ∀ x ∈ L, Up R k x
  le : i ≤ L.length
  cl : ∀ j, j < i → ∀ y ∈ abvN R (L[j]?.getD 0), y ∈ L
  pt : ∀ y ∈ (abvN R (L[i]?.getD 0)).take m, y ∈ L
theorem ClrInv.start (R : List Rot) (k : Nat) : ClrInv R k [k] 0 0 :=
  ⟨by simp, by simp, by intro x hx; rw [List.mem_singleton] at hx; exact hx ▸ .base, by simp, by intro j h; omega, by intro y hy; simp at hy⟩
theorem ClrInv.few {R : List Rot} {k : Nat} {L : List Nat} {i m : Nat} (h : ClrInv R k L i m) (hk : k < R.length) : L.length ≤ R.length - k := by
  have := nsub_len (B := heapTo R k (R.length - (k + 1))) h.nd fun x hx => (heap_mem hk _ (by omega) x).2 ⟨h.up x hx, by have := (h.up x hx).lt hk; omega⟩
  have h2 := (heap_len R k (R.length - (k + 1))).2
  omega
theorem ClrInv.next {R : List Rot} {k : Nat} {L : List Nat} {i : Nat} (h : ClrInv R k L i (abvN R (L[i]?.getD 0)).length) (hi : i < L.length) : ClrInv R k L (i + 1) 0 := by
  refine ⟨h.nd, h.st, h.up, hi, fun j hj y hy => ?_, by intro y hy; simp at hy⟩
  rcases (by omega : j < i ∨ j = i) with h1 | rfl
  · exact h.cl j h1 y hy
  · exact h.pt y (by rw [List.take_length]; exact hy)
theorem take_next {l : List Nat} {m y : Nat} (hm : m < l.length) (h : y ∈ l.take (m + 1)) : y ∈ l.take m ∨ y = l[m]?.getD 0 := by
  rw [List.take_succ_eq_append_getElem hm] at h
  rcases List.mem_append.1 h with h | h
  · exact .inl h
  · exact .inr (by simp at h; simp [hm, h])
theorem ClrInv.old {R : List Rot} {k : Nat} {L : List Nat} {i m : Nat} (h : ClrInv R k L i m) (hm : m < (abvN R (L[i]?.getD 0)).length) (hy : (abvN R (L[i]?.getD 0))[m]?.getD 0 ∈ L) : ClrInv R k L i (m + 1) :=
  ⟨h.nd, h.st, h.up, h.le, h.cl, fun y hy2 => by
    rcases take_next hm hy2 with h1 | h1
    · exact h.pt y h1
    · exact h1 ▸ hy⟩
theorem ClrInv.new {R : List Rot} {k : Nat} {L : List Nat} {i m : Nat} (h : ClrInv R k L i m) (hi : i < L.length) (hm : m < (abvN R (L[i]?.getD 0)).length) (hy : (abvN R (L[i]?.getD 0))[m]?.getD 0 ∉ L) : ClrInv R k (L ++ [(abvN R (L[i]?.getD 0))[m]?.getD 0]) i (m + 1) := by
  have e : ∀ j, j ≤ i → (L ++ [(abvN R (L[i]?.getD 0))[m]?.getD 0])[j]?.getD 0 = L[j]?.getD 0 := fun j hj => by rw [List.getElem?_append_left (by omega)]
  refine ⟨?_, List.mem_append.2 (.inl h.st), ?_, ?_, ?_, ?_⟩
  · refine List.nodup_append.2 ⟨h.nd, by simp, fun x hx y hy2 e2 => ?_⟩
    rw [List.mem_singleton] at hy2
    exact hy (hy2 ▸ e2 ▸ hx)
  · intro x hx
    rcases List.mem_append.1 hx with hx | hx
    · exact h.up x hx
    · rw [List.mem_singleton] at hx
      rw [hx]
      refine .step (L[i]?.getD 0) _ (h.up _ (by simp [hi])) ?_
      simp [hm]
  · have := h.le; simp; omega
  · intro j hj y hy2
    rw [e j (by omega)] at hy2
    exact List.mem_append.2 (.inl (h.cl j hj y hy2))
  · intro y hy2
    rw [e i (Nat.le_refl _)] at hy2
    rcases take_next hm hy2 with h1 | h1
    · exact List.mem_append.2 (.inl (h.pt y h1))
    · exact List.mem_append.2 (.inr (by rw [h1]; simp))
theorem ClrInv.all {R : List Rot} {k : Nat} {L : List Nat} (h : ClrInv R k L L.length 0) (hk : k < R.length) : L.length = clrN R k + 1 := by
  have hall : ∀ x, Up R k x → x ∈ L := fun x hx => by
    induction hx with
    | base => exact h.st
    | step a i _ hi ih =>
      obtain ⟨j, hj, e⟩ := List.getElem_of_mem ih
      exact h.cl j hj i (by simp [hj, e, hi])
  have hp : L.Perm (heapTo R k (R.length - (k + 1))) := (List.perm_ext_iff_of_nodup h.nd (heap_nodup hk _ (by omega))).2 fun x => by
    rw [heap_mem hk _ (by omega)]
    exact ⟨fun hx => ⟨h.up x hx, by have := (h.up x hx).lt hk; omega⟩, fun hx => hall x hx.1⟩
  have := hp.length_eq
  have := (heap_len R k (R.length - (k + 1))).1
  unfold clrN; omega
theorem ClrInv.lt {R : List Rot} {k : Nat} {L : List Nat} {i m : Nat} (h : ClrInv R k L i m) (hk : k < R.length) (hi : i < L.length) : L[i]?.getD 0 < R.length := (h.up _ (by simp [hi])).lt hk

end Go.Proofs.Ytjboamhjfncgdaa
