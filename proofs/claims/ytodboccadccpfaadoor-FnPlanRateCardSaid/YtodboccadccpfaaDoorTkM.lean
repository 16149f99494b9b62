/-
  Orders: the mathematics. Nothing here speaks of the program.
-/
import Derived.Test.YtodboccadccpfaaDoorTkH0
namespace Go.Proofs.YtodboccadccpfaaDoor
open Go.RowKit

theorem getD_at {L : List Int} {k : Nat} (h : k < L.length) : L[k]?.getD 0 = L[k] := by rw [List.getElem?_eq_getElem h]; rfl
theorem getD_mem {L : List Int} {k : Nat} (h : k < L.length) : L[k]?.getD 0 ∈ L := by rw [getD_at h]; exact List.getElem_mem h
theorem mem_getD {L : List Int} {x : Int} (h : x ∈ L) : ∃ k, k < L.length ∧ L[k]?.getD 0 = x := by
  obtain ⟨k, hk, e⟩ := List.mem_iff_getElem.1 h
  exact ⟨k, hk, by rw [getD_at hk, e]⟩

/-- as many different ones as there are places -/
theorem pig : ∀ {A B : List Int}, A.Nodup → (∀ x ∈ A, x ∈ B) → B.length ≤ A.length → B.Nodup ∧ ∀ x ∈ B, x ∈ A
  | [], B, _, _, hl => by
    obtain rfl : B = [] := List.length_eq_zero_iff.1 (by simpa using hl)
    exact ⟨List.nodup_nil, fun x h => h⟩
  | a :: A, B, hA, hs, hl => by
    have h1 := hs a (by simp)
    have hp := List.perm_cons_erase h1
    obtain ⟨hn, hA2⟩ := List.nodup_cons.1 hA
    have h2 : ∀ x ∈ A, x ∈ B.erase a := fun x hx => (List.mem_erase_of_ne (fun e : x = a => hn (by rw [← e]; exact hx))).2 (hs x (by simp [hx]))
    have h3 := hp.length_eq
    simp only [List.length_cons] at h3 hl
    obtain ⟨h4, h5⟩ := pig hA2 h2 (by omega)
    refine ⟨hp.nodup_iff.2 (List.nodup_cons.2 ⟨fun h => hn (h5 a h), h4⟩), fun x hx => ?_⟩
    rcases List.mem_cons.1 (hp.mem_iff.1 hx) with rfl | h
    · simp
    · simp [h5 x h]

/-- ORDERS -/
def ordB (L : List Int) : Bool := decide (L.length ≤ 10) && (List.range L.length).all fun (i : Nat) => decide ((i : Int) ∈ L)
theorem rangeI_nodup (n : Nat) : ((List.range n).map fun (i : Nat) => (i : Int)).Nodup := by
  unfold List.Nodup
  rw [List.pairwise_map]
  exact List.nodup_range.imp fun h e => h (by omega)
theorem ordB_true {L : List Int} : ordB L = true ↔ L.length ≤ 10 ∧ L.Nodup ∧ ∀ x ∈ L, 0 ≤ x ∧ x < L.length := by
  unfold ordB
  rw [Bool.and_eq_true, decide_eq_true_eq, List.all_eq_true]
  constructor
  · rintro ⟨h1, h2⟩
    have h3 := pig (rangeI_nodup L.length) (B := L) (fun x hx => by
      obtain ⟨i, hi, rfl⟩ := List.mem_map.1 hx
      simpa using h2 i hi) (by simp)
    refine ⟨h1, h3.1, fun x hx => ?_⟩
    obtain ⟨i, hi, rfl⟩ := List.mem_map.1 (h3.2 x hx)
    have := List.mem_range.1 hi
    omega
  · rintro ⟨h1, h2, h3⟩
    refine ⟨h1, fun i hi => ?_⟩
    have h4 := pig h2 (B := (List.range L.length).map fun (i : Nat) => (i : Int)) (fun x hx => by
      have := h3 x hx
      exact List.mem_map.2 ⟨x.toNat, List.mem_range.2 (by omega), by omega⟩) (by simp)
    exact decide_eq_true (h4.2 _ (List.mem_map.2 ⟨i, hi, rfl⟩))

/-- the first k numbers are there -/
theorem ordI_all {L : List Int} (h : L.length ≤ 10) (h2 : ∀ i : Nat, i < L.length → (i : Int) ∈ L) : ordB L = true := by
  unfold ordB
  rw [Bool.and_eq_true, decide_eq_true_eq, List.all_eq_true]
  exact ⟨h, fun i hi => decide_eq_true (h2 i (List.mem_range.1 hi))⟩
theorem ordI_long {L : List Int} (h : 10 < L.length) : ordB L = false := by
  unfold ordB
  rw [decide_eq_false (by omega)]
  rfl
theorem ordI_not {L : List Int} {k : Nat} (hk : k < L.length) (h : (k : Int) ∉ L) : ordB L = false := by
  rw [Bool.eq_false_iff]
  intro h2
  unfold ordB at h2
  rw [Bool.and_eq_true, List.all_eq_true] at h2
  exact h (by simpa using h2.2 k (List.mem_range.2 hk))
/-- the first k ones are numbers, none twice -/
def ordTo (L : List Int) (k : Nat) : Prop := ∀ j, j < k → (0 ≤ L[j]?.getD 0 ∧ L[j]?.getD 0 ≤ (L.length : Int) - 1) ∧ L[j]?.getD 0 ∉ L.take j
theorem ordTo_zero (L : List Int) : ordTo L 0 := fun j hj => absurd hj (by omega)
theorem ordTo_succ {L : List Int} {k : Nat} (h : ordTo L k) (h1 : inB (L[k]?.getD 0) 0 ((L.length : Int) - 1) = true) (h2 : L[k]?.getD 0 ∉ L.take k) : ordTo L (k + 1) := fun j hj => by
  rcases Nat.lt_or_ge j k with h3 | h3
  · exact h j h3
  · obtain rfl : j = k := by omega
    exact ⟨inB_true.1 h1, h2⟩
theorem nodup_of_take {L : List Int} (h : ∀ j, j < L.length → L[j]?.getD 0 ∉ L.take j) : ∀ k, k ≤ L.length → (L.take k).Nodup
  | 0, _ => by simp
  | k + 1, hk => by
    rw [List.take_succ_eq_append_getElem (by omega), List.nodup_append]
    refine ⟨nodup_of_take h k (by omega), by simp, fun a ha b hb e => ?_⟩
    obtain rfl : b = L[k] := by simpa using hb
    have := h k (by omega)
    rw [getD_at (by omega), ← e] at this
    exact this ha
theorem ordTo_all {L : List Int} (h : ordTo L L.length) : ordB L = decide (L.length ≤ 10) := by
  by_cases h1 : L.length ≤ 10
  · rw [decide_eq_true h1]
    have h2 := nodup_of_take (fun j hj => (h j hj).2) L.length (Nat.le_refl _)
    rw [List.take_length] at h2
    refine ordB_true.2 ⟨h1, h2, fun x hx => ?_⟩
    obtain ⟨k, hk, rfl⟩ := mem_getD hx
    have := (h k hk).1
    omega
  · rw [decide_eq_false h1, ordI_long (by omega)]
theorem ord_len {L : List Int} (h : ordB L = true) : L.length ≤ 10 := (ordB_true.1 h).1
theorem ord_at {L : List Int} (h : ordB L = true) {k : Nat} (hk : k < L.length) : 0 ≤ L[k]?.getD 0 ∧ L[k]?.getD 0 < L.length := (ordB_true.1 h).2.2 _ (getD_mem hk)
theorem ord_inj {L : List Int} (h : ordB L = true) {i j : Nat} (hi : i < L.length) (hj : j < L.length) (e : L[i]?.getD 0 = L[j]?.getD 0) : i = j := by
  rw [getD_at hi, getD_at hj] at e
  exact (List.getElem_inj (ordB_true.1 h).2.1).1 e
theorem ord_notin {L : List Int} (h : ordB L = true) {k : Nat} (hk : k < L.length) : L[k]?.getD 0 ∉ L.take k := by
  intro h2
  obtain ⟨j, hj, e⟩ := mem_getD h2
  simp only [List.length_take] at hj
  rw [List.getElem?_take_of_lt (by omega)] at e
  have := ord_inj h (by omega) hk e
  omega
theorem ordTo_not {L : List Int} {k : Nat} (hk : k < L.length) (h : inB (L[k]?.getD 0) 0 ((L.length : Int) - 1) = false ∨ L[k]?.getD 0 ∈ L.take k) : ordB L = false := by
  rw [Bool.eq_false_iff]
  intro h2
  rcases h with h | h
  · have := ord_at h2 hk
    rw [inB_false] at h
    omega
  · exact ord_notin h2 hk h
/-- when the coil is loaded that is paid out as the k-th one -/
def invN (L : List Int) (k : Nat) : Nat := L.idxOf (k : Int)
theorem ord_has {L : List Int} (h : ordB L = true) {k : Nat} (hk : k < L.length) : (k : Int) ∈ L := by
  unfold ordB at h
  rw [Bool.and_eq_true, List.all_eq_true] at h
  simpa using h.2 k (List.mem_range.2 hk)
theorem inv_lt {L : List Int} (h : ordB L = true) {k : Nat} (hk : k < L.length) : invN L k < L.length := List.idxOf_lt_length_iff.2 (ord_has h hk)
theorem inv_at {L : List Int} (h : ordB L = true) {k : Nat} (hk : k < L.length) : L[invN L k]?.getD 0 = k := by
  rw [getD_at (inv_lt h hk)]
  exact List.getElem_idxOf (inv_lt h hk)
theorem inv_of {L : List Int} (h : ordB L = true) {j k : Nat} (hj : j < L.length) (hk : k < L.length) (e : L[j]?.getD 0 = k) : invN L k = j :=
  ord_inj h (inv_lt h hk) hj (by rw [inv_at h hk, e])
theorem inv_iff {L : List Int} (h : ordB L = true) {j k : Nat} (hj : j < L.length) (hk : k < L.length) : invN L k = j ↔ L[j]?.getD 0 = k :=
  ⟨fun e => by rw [← e]; exact inv_at h hk, inv_of h hj hk⟩

/-- TWO COILS AGREE -/
def agrB (L : List Int) (a b : Int) : Bool := ordB L && (inB a 0 ((L.length : Int) - 1) && (inB b 0 ((L.length : Int) - 1) && decide (L[(max a b).toNat]?.getD 0 < L[(min a b).toNat]?.getD 0)))
theorem agrB_symm (L : List Int) (a b : Int) : agrB L a b = agrB L b a := by
  unfold agrB
  rw [show max a b = max b a by omega, show min a b = min b a by omega]
  cases ordB L <;> cases inB a 0 ((L.length : Int) - 1) <;> cases inB b 0 ((L.length : Int) - 1) <;> rfl
theorem agrB_self (L : List Int) (a : Int) : agrB L a a = false := by
  unfold agrB
  rw [show max a a = min a a by omega, decide_eq_false (by omega)]
  simp
theorem agrB_lt {L : List Int} (h : ordB L = true) {i k : Nat} (hk : k < i) (hi : i < L.length) : agrB L k i = decide (L[i]?.getD 0 < L[k]?.getD 0) := by
  unfold agrB
  rw [h, inB_true.2 (by omega), inB_true.2 (by omega), show (max (k : Int) (i : Int)).toNat = i by omega, show (min (k : Int) (i : Int)).toNat = k by omega]
  rfl
theorem agrB_gt {L : List Int} (h : ordB L = true) {i k : Nat} (hk : k < i) (hi : i < L.length) : agrB L i k = decide (L[i]?.getD 0 < L[k]?.getD 0) := by
  rw [agrB_symm, agrB_lt h hk hi]
theorem agr_no {L : List Int} {a b : Int} (h : ordB L = false ∨ inB a 0 ((L.length : Int) - 1) = false ∨ inB b 0 ((L.length : Int) - 1) = false) : agrB L a b = false := by
  unfold agrB
  rcases h with h | h | h <;> rw [h] <;> simp
theorem agr_val {L : List Int} {a b : Int} (h : ordB L = true) (h1 : inB a 0 ((L.length : Int) - 1) = true) (h2 : inB b 0 ((L.length : Int) - 1) = true) : agrB L a b = decide (L[(max a b).toNat]?.getD 0 < L[(min a b).toNat]?.getD 0) := by
  unfold agrB
  rw [h, h1, h2]
  rfl
/-- the model's way to say it -/
theorem agr_spec {L : List Int} {a b : Int} (h : ordB L = true) (h1 : inB a 0 ((L.length : Int) - 1) = true) (h2 : inB b 0 ((L.length : Int) - 1) = true) (hne : a ≠ b) :
    agrB L a b = decide (decide (a < b) = decide (L[b.toNat]?.getD 0 < L[a.toNat]?.getD 0)) := by
  rw [agr_val h h1 h2]
  rw [inB_true] at h1 h2
  have hd : L[b.toNat]?.getD 0 ≠ L[a.toNat]?.getD 0 := fun e => by
    have := ord_inj h (by omega) (by omega) e
    omega
  by_cases hab : a < b
  · rw [show max a b = b by omega, show min a b = a by omega]
    simp [hab]
  · rw [show max a b = a by omega, show min a b = b by omega]
    by_cases h3 : L[a.toNat]?.getD 0 < L[b.toNat]?.getD 0
    · rw [decide_eq_true h3, decide_eq_false hab, decide_eq_false (show ¬ L[b.toNat]?.getD 0 < L[a.toNat]?.getD 0 by omega)]; rfl
    · rw [decide_eq_false h3, decide_eq_false hab, decide_eq_true (show L[b.toNat]?.getD 0 < L[a.toNat]?.getD 0 by omega)]; rfl

/-- THE PAIRS THAT DO NOT AGREE: the coil b with the first a, then all of the first b -/
def rowP (L : List Int) (b : Nat) : Nat → Nat
  | 0 => 0
  | a + 1 => rowP L b a + if agrB L a b then 0 else 1
def totP (L : List Int) : Nat → Nat
  | 0 => 0
  | b + 1 => totP L b + rowP L b b
def prsI (L : List Int) : Int := if ordB L then totP L L.length else -1
theorem rowP_le (L : List Int) (b : Nat) : ∀ a, rowP L b a ≤ a
  | 0 => Nat.le_refl _
  | a + 1 => by
    have := rowP_le L b a
    rw [rowP]
    split <;> omega
theorem totP_le (L : List Int) : ∀ b, b ≤ 10 → totP L b ≤ b * 10
  | 0, _ => Nat.zero_le _
  | b + 1, h => by
    have h1 := totP_le L b (by omega)
    have h2 := rowP_le L b b
    rw [totP]
    omega

end Go.Proofs.YtodboccadccpfaaDoor
