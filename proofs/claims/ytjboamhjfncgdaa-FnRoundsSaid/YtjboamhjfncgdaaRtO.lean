/-
  Mathematics of crossings: orders of lifting, the first one, and rounds. Nothing here speaks of the program.
-/
import Derived.Test.YtjboamhjfncgdaaRtC
namespace Go.Proofs.Ytjboamhjfncgdaa

/-- a number that can be lifted next -/
def freeAt (R : List Rot) (L : List Int) (x : Int) : Bool := inB x 0 ((R.length : Int) - 1) && freeB R L x.toNat
theorem freeAt_nat {R : List Rot} {L : List Int} {k : Nat} (hk : k < R.length) : freeAt R L (k : Int) = freeB R L k := by
  unfold freeAt; rw [inB_true.2 ⟨by omega, by omega⟩, Int.toNat_natCast]; rfl
theorem freeAt_mem (R : List Rot) (L : List Int) (x : Int) : decide (x ∈ ints (freeN R L)) = freeAt R L x := by
  cases h : inB x 0 ((R.length : Int) - 1)
  · rw [show freeAt R L x = false by unfold freeAt; rw [h]; rfl]
    refine decide_eq_false fun hm => ?_
    obtain ⟨k, rfl, hk⟩ := ints_mem'.1 hm
    have := (freeN_mem.1 hk).1
    rcases inB_false.1 h with h | h <;> omega
  · obtain ⟨h1, h2⟩ := inB_true.1 h
    obtain ⟨k, rfl⟩ : ∃ k : Nat, x = (k : Int) := ⟨x.toNat, by omega⟩
    rw [freeAt_nat (by omega)]
    cases hf : freeB R L k
    · refine decide_eq_false fun hm => ?_
      have := (freeN_mem.1 (ints_mem.1 hm)).2
      rw [hf] at this; cases this
    · exact decide_eq_true (ints_mem.2 (freeN_mem.2 ⟨by omega, hf⟩))
def liftTo (R : List Rot) (O : List Int) (j : Nat) : Prop := ∀ i, i < j → freeAt R (O.take i) (O[i]?.getD 0) = true
theorem liftTo_zero (R : List Rot) (O : List Int) : liftTo R O 0 := fun i h => absurd h (by omega)
theorem liftTo_succ {R : List Rot} {O : List Int} {j : Nat} (h : liftTo R O j) (hp : freeAt R (O.take j) (O[j]?.getD 0) = true) : liftTo R O (j + 1) := fun i hi => by
  rcases (by omega : i < j ∨ i = j) with h1 | rfl
  · exact h i h1
  · exact hp
def liftB (R : List Rot) (O : List Int) : Bool := chartB R && decide (O.length = R.length) && (List.range O.length).all fun i => freeAt R (O.take i) (O[i]?.getD 0)
theorem liftB_true {R : List Rot} {O : List Int} : liftB R O = true ↔ chartB R = true ∧ O.length = R.length ∧ liftTo R O O.length := by
  unfold liftB liftTo
  simp only [Bool.and_eq_true, decide_eq_true_eq, List.all_eq_true, List.mem_range]
  exact ⟨fun ⟨⟨a, b⟩, c⟩ => ⟨a, b, c⟩, fun ⟨a, b, c⟩ => ⟨⟨a, b⟩, c⟩⟩
theorem lift_no {R : List Rot} {O : List Int} (h : chartB R = false) : liftB R O = false := by unfold liftB; rw [h]; rfl
theorem lift_len {R : List Rot} {O : List Int} (h : ¬ O.length = R.length) : liftB R O = false := by unfold liftB; rw [decide_eq_false h, Bool.and_false]; rfl
theorem lift_not {R : List Rot} {O : List Int} {j : Nat} (hj : j < O.length) (hp : freeAt R (O.take j) (O[j]?.getD 0) = false) : liftB R O = false := by
  apply Bool.eq_false_iff.2
  intro h
  have := (liftB_true.1 h).2.2 j hj
  rw [hp] at this; cases this
theorem lift_all {R : List Rot} {O : List Int} (h : chartB R = true) (hl : liftTo R O O.length) : liftB R O = decide (O.length = R.length) := by
  cases hd : decide (O.length = R.length)
  · exact lift_len (of_decide_eq_false hd)
  · exact liftB_true.2 ⟨h, of_decide_eq_true hd, hl⟩
theorem freeAt_no {R : List Rot} {L : List Int} {x : Int} (h : inB x 0 ((R.length : Int) - 1) = false) : freeAt R L x = false := by unfold freeAt; rw [h]; rfl
theorem freeAt_in {R : List Rot} {L : List Int} {x : Int} (h : inB x 0 ((R.length : Int) - 1) = true) : freeAt R L x = freeB R L x.toNat := by unfold freeAt; rw [h]; rfl

/-! ### how many are left -/
theorem leftN_nodup (R : List Rot) (L : List Int) : (leftN R L).Nodup := List.nodup_range.sublist List.filter_sublist
theorem freeN_nodup (R : List Rot) (L : List Int) : (freeN R L).Nodup := List.nodup_range.sublist List.filter_sublist
theorem free_left {R : List Rot} {L : List Int} {k : Nat} (h : k ∈ freeN R L) : k ∈ leftN R L := leftN_mem.2 ⟨(freeN_mem.1 h).1, freeB_in (freeN_mem.1 h).2⟩
theorem rest_len {l F : List Nat} (hl : l.Nodup) (hF : F.Nodup) (h : ∀ x ∈ F, x ∈ l) : (l.filter fun i => !inL (ints F) i).length + F.length = l.length := by
  have h1 : (l.filter fun i => inL (ints F) i).Perm F := (List.perm_ext_iff_of_nodup (hl.sublist List.filter_sublist) hF).2 fun x => by
    rw [List.mem_filter]
    unfold inL
    rw [decide_eq_true_eq, ints_mem]
    exact ⟨fun h => h.2, fun hx => ⟨h x hx, hx⟩⟩
  have h2 := h1.length_eq
  have h3 := List.length_eq_countP_add_countP (fun i => inL (ints F) i) (l := l)
  rw [List.countP_eq_length_filter, List.countP_eq_length_filter] at h3
  have h4 : (l.filter fun i => decide ¬ inL (ints F) i = true) = l.filter fun i => !inL (ints F) i := List.filter_congr fun k _ => by cases inL (ints F) k <;> rfl
  rw [h4] at h3
  omega
theorem left_rest {R : List Rot} {L : List Int} {F : List Nat} (hF : F.Nodup) (h : ∀ x ∈ F, x ∈ freeN R L) : (leftN R (L ++ ints F)).length + F.length = (leftN R L).length := by
  rw [← leftN_more]
  exact rest_len (leftN_nodup R L) hF fun x hx => free_left (h x hx)
theorem leftN_all (R : List Rot) : (leftN R []).length = R.length := by rw [leftN_nil]; simp
theorem free_some {R : List Rot} {L : List Int} (h : leftN R L ≠ []) : freeN R L ≠ [] := by
  obtain ⟨k, hk⟩ := List.exists_mem_of_ne_nil _ h
  have := (leftN_mem.1 hk).1
  exact freeN_some R L (R.length - k) k (by omega) hk

/-! ### the first order -/
def firstN (R : List Rot) (L : List Int) : Nat := (freeN R L).head?.getD 0
theorem firstN_mem {R : List Rot} {L : List Int} (h : leftN R L ≠ []) : firstN R L ∈ freeN R L := by
  have := free_some h
  unfold firstN
  cases hf : freeN R L with
  | nil => exact absurd hf this
  | cons a r => simp
theorem firstN_least {R : List Rot} {L : List Int} {j : Nat} (hj : j < firstN R L) : freeB R L j = false := by
  apply Bool.eq_false_iff.2
  intro h
  have hs : (freeN R L).Pairwise (· < ·) := List.pairwise_lt_range.sublist List.filter_sublist
  unfold firstN at hj
  cases hf : freeN R L with
  | nil => rw [hf] at hj; simp at hj
  | cons a r =>
    rw [hf] at hj hs
    simp only [List.head?_cons, Option.getD_some] at hj
    have hk : j < R.length := by
      have : a ∈ freeN R L := by rw [hf]; simp
      have := (freeN_mem.1 this).1
      omega
    have hm : j ∈ freeN R L := freeN_mem.2 ⟨hk, h⟩
    rw [hf] at hm
    rcases List.mem_cons.1 hm with e | e
    · omega
    · have := (List.pairwise_cons.1 hs).1 j e; omega
theorem firstN_is {R : List Rot} {L : List Int} {k : Nat} (hl : leftN R L ≠ []) (hf : freeB R L k = true) (hb : ∀ j, j < k → freeB R L j = false) : k = firstN R L := by
  rcases (by omega : k < firstN R L ∨ firstN R L < k ∨ k = firstN R L) with h | h | h
  · have := firstN_least h
    rw [hf] at this; cases this
  · have := hb _ h
    rw [(freeN_mem.1 (firstN_mem hl)).2] at this; cases this
  · exact h
def ordF (R : List Rot) : Nat → List Int
  | 0 => []
  | k + 1 => ordF R k ++ [(firstN R (ordF R k) : Int)]
theorem ordF_len (R : List Rot) : ∀ k, (ordF R k).length = k
  | 0 => rfl
  | k + 1 => by rw [ordF, List.length_append, ordF_len R k]; rfl
theorem ordF_left (R : List Rot) : ∀ k, k ≤ R.length → (leftN R (ordF R k)).length + k = R.length
  | 0, _ => by rw [ordF, leftN_all]; rfl
  | k + 1, hk => by
    have ih := ordF_left R k (by omega)
    have hn : leftN R (ordF R k) ≠ [] := fun e => by rw [e] at ih; simp at ih; omega
    have := left_rest (R := R) (L := ordF R k) (F := [firstN R (ordF R k)]) (by simp) (by intro x hx; rw [List.mem_singleton] at hx; exact hx ▸ firstN_mem hn)
    rw [ordF]
    simp only [ints_cons, List.length_singleton] at this
    have e : ints ([] : List Nat) = [] := rfl
    rw [e] at this
    omega
theorem ordF_more (R : List Rot) {k : Nat} (hk : k < R.length) : leftN R (ordF R k) ≠ [] := fun e => by
  have := ordF_left R k (by omega); rw [e] at this; simp at this; omega
theorem ordF_take (R : List Rot) : ∀ k j, j ≤ k → (ordF R k).take j = ordF R j
  | 0, j, h => by obtain rfl : j = 0 := by omega
                  rfl
  | k + 1, j, h => by
    rcases (by omega : j ≤ k ∨ j = k + 1) with h1 | rfl
    · rw [ordF, List.take_append_of_le_length (by rw [ordF_len]; omega), ordF_take R k j h1]
    · rw [List.take_of_length_le (by rw [ordF_len]; omega)]
theorem ordF_at (R : List Rot) {k j : Nat} (h : j < k) : (ordF R k)[j]?.getD 0 = (firstN R (ordF R j) : Int) := by
  have h1 : (ordF R k)[j]? = (ordF R (j + 1))[j]? := by rw [← ordF_take R k (j + 1) (by omega), List.getElem?_take_of_lt (by omega)]
  rw [h1, ordF, List.getElem?_append_right (by rw [ordF_len]; omega), ordF_len]; simp
def firstV (R : List Rot) : List Int := if chartB R then ordF R R.length else []
theorem firstV_no {R : List Rot} (h : chartB R = false) : firstV R = [] := by unfold firstV; rw [h]; rfl
theorem firstV_yes {R : List Rot} (h : chartB R = true) : firstV R = ordF R R.length := by unfold firstV; rw [if_pos h]
theorem firstV_len (R : List Rot) : (firstV R).length ≤ R.length := by
  unfold firstV; split
  · rw [ordF_len]; omega
  · simp

/-! ### rounds -/
/-- what is lifted in each round: so many at most -/
def rndF (R : List Rot) (most : Nat) : Nat → List Int → List (List Nat)
  | 0, _ => []
  | f + 1, L => if leftN R L = [] then [] else (freeN R L).take most :: rndF R most f (L ++ ints ((freeN R L).take most))
theorem rndF_nil {R : List Rot} {most f : Nat} {L : List Int} (h : leftN R L = []) : rndF R most f L = [] := by
  cases f with
  | zero => rfl
  | succ f => rw [rndF, if_pos h]
theorem rndF_cons {R : List Rot} {most f : Nat} {L : List Int} (h : leftN R L ≠ []) : rndF R most (f + 1) L = (freeN R L).take most :: rndF R most f (L ++ ints ((freeN R L).take most)) := by rw [rndF, if_neg h]
theorem round_left {R : List Rot} {L : List Int} {most : Nat} (h : leftN R L ≠ []) (hm : 1 ≤ most) : (leftN R (L ++ ints ((freeN R L).take most))).length < (leftN R L).length := by
  have := left_rest (R := R) (L := L) (F := (freeN R L).take most) ((freeN_nodup R L).sublist (List.take_sublist _ _)) fun x hx => List.mem_of_mem_take hx
  have h2 : 1 ≤ ((freeN R L).take most).length := by
    have := List.length_pos_iff.2 (free_some h)
    rw [List.length_take]; omega
  omega
theorem rndF_len (R : List Rot) (most : Nat) : ∀ f L, (rndF R most f L).length ≤ f
  | 0, _ => by simp [rndF]
  | f + 1, L => by
    rw [rndF]; split
    · simp
    · have := rndF_len R most f (L ++ ints ((freeN R L).take most))
      simp only [List.length_cons]; omega
/-- one at a time: the first order -/
theorem rndF_one (R : List Rot) : ∀ f k, k + f = R.length → rndF R 1 f (ordF R k) = (List.range' k f).map fun j => [firstN R (ordF R j)]
  | 0, k, _ => rfl
  | f + 1, k, h => by
    have hn := ordF_more R (k := k) (by omega)
    have h1 : (freeN R (ordF R k)).take 1 = [firstN R (ordF R k)] := by
      have := free_some hn
      unfold firstN
      cases hf : freeN R (ordF R k) with
      | nil => exact absurd hf this
      | cons a r => simp
    rw [rndF_cons hn, h1, List.range'_succ, List.map_cons, show ordF R k ++ ints [firstN R (ordF R k)] = ordF R (k + 1) from rfl, rndF_one R f (k + 1) (by omega)]
theorem ordF_flat (R : List Rot) : ∀ m, ordF R m = ints ((List.range m).map fun j => firstN R (ordF R j))
  | 0 => rfl
  | m + 1 => by rw [ordF, List.range_succ, List.map_append, ints_append, ← ordF_flat R m]; rfl
def rdsN (R : List Rot) : Nat := (rndF R 8 R.length []).length
def rdsV (R : List Rot) : Int := if chartB R then (rdsN R : Int) else -1
theorem rdsV_no {R : List Rot} (h : chartB R = false) : rdsV R = -1 := by unfold rdsV; rw [h]; rfl
theorem rdsV_yes {R : List Rot} (h : chartB R = true) : rdsV R = (rdsN R : Int) := by unfold rdsV; rw [if_pos h]
/-- the model's rounds: all that can be lifted -/
structure RdsInv (R : List Rot) (L : List Int) (t : Nat) : Prop where
  le : (leftN R L).length + L.length = R.length
  tt : t + (rndF R 8 (R.length - t) L).length = rdsN R
  tl : t ≤ L.length
theorem RdsInv.start (R : List Rot) : RdsInv R [] 0 := ⟨by rw [leftN_all]; rfl, by rw [Nat.zero_add]; rfl, by simp⟩
theorem RdsInv.next {R : List Rot} {L : List Int} {t : Nat} (h8 : R.length ≤ 8) (h : RdsInv R L t) (hl : L.length < R.length) : RdsInv R (L ++ ints (freeN R L)) (t + 1) := by
  have hn : leftN R L ≠ [] := fun e => by have := h.le; rw [e] at this; simp at this; omega
  have ht : (freeN R L).take 8 = freeN R L := List.take_of_length_le (Nat.le_trans (freeN_len R L) h8)
  have h1 := left_rest (R := R) (L := L) (freeN_nodup R L) fun x hx => hx
  have hp := List.length_pos_iff.2 (free_some hn)
  have h0 := h.le
  have h2 := h.tl
  refine ⟨by rw [List.length_append, ints_length]; omega, ?_, by rw [List.length_append, ints_length]; omega⟩
  have h3 := h.tt
  rw [show R.length - t = (R.length - (t + 1)) + 1 by omega, rndF_cons hn, ht, List.length_cons] at h3
  omega
theorem RdsInv.all {R : List Rot} {L : List Int} {t : Nat} (h : RdsInv R L t) (hl : R.length ≤ L.length) : t = rdsN R := by
  have hn : leftN R L = [] := List.eq_nil_of_length_eq_zero (by have := h.le; omega)
  have := h.tt
  rw [rndF_nil hn] at this
  simpa using this

end Go.Proofs.Ytjboamhjfncgdaa
