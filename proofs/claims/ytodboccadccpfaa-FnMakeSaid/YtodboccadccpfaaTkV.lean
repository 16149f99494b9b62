/-
  Stowages: piles from which all can be paid out. Nothing here speaks of the program.
-/
import Derived.Test.YtodboccadccpfaaTkS
namespace Go.Proofs.Ytodboccadccpfaa
open Go.RowKit

/-! ### stowages -/

/-- THE COILS OF THE TANK t, of the first k -/
def pileTo (L T : List Int) (t : Int) : Nat → List Int
  | 0 => []
  | k + 1 => if T[k]?.getD 0 = t then pileTo L T t k ++ [L[k]?.getD 0] else pileTo L T t k
def baseB (L T : List Int) : Bool := ordB L && (decide (T.length = L.length) && T.all fun x => inB x 0 4)
theorem baseB_true {L T : List Int} : baseB L T = true ↔ ordB L = true ∧ T.length = L.length ∧ ∀ j, j < L.length → 0 ≤ T[j]?.getD 0 ∧ T[j]?.getD 0 ≤ 4 := by
  unfold baseB
  rw [Bool.and_eq_true, Bool.and_eq_true, decide_eq_true_eq, List.all_eq_true]
  constructor
  · rintro ⟨h1, h2, h3⟩
    refine ⟨h1, h2, fun j hj => inB_true.1 (h3 _ (getD_mem (by omega)))⟩
  · rintro ⟨h1, h2, h3⟩
    refine ⟨h1, h2, fun x hx => ?_⟩
    obtain ⟨k, hk, rfl⟩ := mem_getD hx
    exact inB_true.2 (h3 k (by omega))
/-- any two coils of one tank agree -/
def sameP (L T : List Int) (i : Nat) : Bool := (List.range i).all fun k => decide (T[i]?.getD 0 = T[k]?.getD 0 → L[i]?.getD 0 < L[k]?.getD 0)
/-- A STOWAGE -/
def stowB (L T : List Int) : Bool := baseB L T && (List.range L.length).all fun i => sameP L T i
theorem stowB_true {L T : List Int} : stowB L T = true ↔ baseB L T = true ∧ ∀ i, i < L.length → ∀ k, k < i → T[i]?.getD 0 = T[k]?.getD 0 → L[i]?.getD 0 < L[k]?.getD 0 := by
  unfold stowB sameP
  rw [Bool.and_eq_true, List.all_eq_true]
  simp only [List.mem_range, List.all_eq_true, decide_eq_true_eq]
theorem stow_base {L T : List Int} (h : stowB L T = true) : baseB L T = true := (stowB_true.1 h).1
theorem stow_ord {L T : List Int} (h : stowB L T = true) : ordB L = true := (baseB_true.1 (stow_base h)).1
theorem stow_len {L T : List Int} (h : stowB L T = true) : T.length = L.length := (baseB_true.1 (stow_base h)).2.1
theorem stow_at {L T : List Int} (h : stowB L T = true) {j : Nat} (hj : j < L.length) : 0 ≤ T[j]?.getD 0 ∧ T[j]?.getD 0 ≤ 4 := (baseB_true.1 (stow_base h)).2.2 j hj
theorem stow_no {L T : List Int} (h : baseB L T = false) : stowB L T = false := by unfold stowB; rw [h]; rfl

theorem pileTo_mem (L T : List Int) (t : Int) : ∀ k x, x ∈ pileTo L T t k ↔ ∃ j, j < k ∧ T[j]?.getD 0 = t ∧ L[j]?.getD 0 = x
  | 0, x => by simp [pileTo]
  | k + 1, x => by
    have ih := pileTo_mem L T t k x
    rw [pileTo]
    split
    · rename_i h
      rw [List.mem_append, ih, List.mem_singleton]
      constructor
      · rintro (⟨j, h1, h2, h3⟩ | h1)
        · exact ⟨j, by omega, h2, h3⟩
        · exact ⟨k, by omega, h, h1.symm⟩
      · rintro ⟨j, h1, h2, h3⟩
        rcases Nat.lt_or_ge j k with h4 | h4
        · exact .inl ⟨j, h4, h2, h3⟩
        · obtain rfl : j = k := by omega
          exact .inr h3.symm
    · rename_i h
      rw [ih]
      constructor
      · rintro ⟨j, h1, h2, h3⟩
        exact ⟨j, by omega, h2, h3⟩
      · rintro ⟨j, h1, h2, h3⟩
        rcases Nat.lt_or_ge j k with h4 | h4
        · exact ⟨j, h4, h2, h3⟩
        · obtain rfl : j = k := by omega
          exact absurd h2 h
theorem pileTo_len (L T : List Int) (t : Int) : ∀ k, (pileTo L T t k).length ≤ k
  | 0 => Nat.le_refl _
  | k + 1 => by
    have := pileTo_len L T t k
    rw [pileTo]
    split
    · simp; omega
    · omega
theorem pileTo_nodup {L : List Int} (h : ordB L = true) (T : List Int) (t : Int) : ∀ k, k ≤ L.length → (pileTo L T t k).Nodup
  | 0, _ => by simp [pileTo]
  | k + 1, hk => by
    have ih := pileTo_nodup h T t k (by omega)
    rw [pileTo]
    split
    · rw [List.nodup_append]
      refine ⟨ih, by simp, fun a ha b hb e => ?_⟩
      obtain ⟨j, h1, _, h3⟩ := (pileTo_mem L T t k a).1 ha
      rw [List.mem_singleton] at hb
      have := ord_inj h (show j < L.length by omega) (show k < L.length by omega) (by rw [h3, e, hb])
      omega
    · exact ih
theorem pileTo_down {L T : List Int} (t : Int) : ∀ k, (pileTo L T t k).Pairwise (fun a b => b < a) ↔ ∀ i, i < k → ∀ j, j < i → T[i]?.getD 0 = t → T[j]?.getD 0 = t → L[i]?.getD 0 < L[j]?.getD 0
  | 0 => by simp [pileTo]
  | k + 1 => by
    have ih := pileTo_down (L := L) (T := T) t k
    rw [pileTo]
    split
    · rename_i h
      rw [List.pairwise_append, ih]
      constructor
      · rintro ⟨h1, _, h2⟩ i hi j hj e1 e2
        rcases Nat.lt_or_ge i k with h3 | h3
        · exact h1 i h3 j hj e1 e2
        · obtain rfl : i = k := by omega
          exact h2 _ ((pileTo_mem L T t i _).2 ⟨j, hj, e2, rfl⟩) _ (by simp)
      · intro h1
        refine ⟨fun i hi j hj => h1 i (by omega) j hj, by simp, fun a ha b hb => ?_⟩
        obtain ⟨j, h3, h4, rfl⟩ := (pileTo_mem L T t k a).1 ha
        rw [List.mem_singleton] at hb
        subst hb
        exact h1 k (by omega) j h3 h h4
    · rename_i h
      rw [ih]
      constructor
      · intro h1 i hi j hj e1 e2
        rcases Nat.lt_or_ge i k with h3 | h3
        · exact h1 i h3 j hj e1 e2
        · obtain rfl : i = k := by omega
          exact absurd e1 h
      · intro h1 i hi j hj
        exact h1 i (by omega) j hj

/-- what is left of a pile when the first m coils are paid out -/
def leftP (P : List Int) (m : Int) : List Int := P.filter fun x => decide (m ≤ x)
theorem down_of_left : ∀ {P : List Int} {n : Int}, P.Nodup → (∀ x ∈ P, 0 ≤ x ∧ x < n) → (∀ m : Int, 0 ≤ m → m ≤ n → leftP P m <+: P) → P.Pairwise (fun a b => b < a)
  | [], _, _, _, _ => List.Pairwise.nil
  | x :: P, n, hn, hb, h => by
    obtain ⟨h1, h2⟩ := List.nodup_cons.1 hn
    have hx := hb x (by simp)
    have h3 : ∀ y ∈ P, y < x := fun y hy => by
      rcases Int.lt_trichotomy y x with h4 | h4 | h4
      · exact h4
      · exact absurd (h4 ▸ hy) h1
      · exfalso
        have h5 := h (x + 1) (by omega) (by omega)
        have e : leftP (x :: P) (x + 1) = leftP P (x + 1) := by unfold leftP; rw [List.filter_cons_of_neg (by simp; omega)]
        rw [e] at h5
        have h6 : y ∈ leftP P (x + 1) := List.mem_filter.2 ⟨hy, by simp; omega⟩
        obtain ⟨s, hs⟩ := h5
        cases hl : leftP P (x + 1) with
        | nil => rw [hl] at h6; simp at h6
        | cons z r =>
          rw [hl] at hs
          have e2 : z = x := by
            have := congrArg List.head? hs
            simpa using this
          have h7 : z ∈ leftP P (x + 1) := by rw [hl]; simp
          exact h1 (e2 ▸ (List.mem_filter.1 h7).1)
    refine List.Pairwise.cons h3 (down_of_left h2 (fun y hy => hb y (by simp [hy])) fun m hm0 hm => ?_)
    have h4 := h m hm0 hm
    by_cases hmx : m ≤ x
    · have e : leftP (x :: P) m = x :: leftP P m := by unfold leftP; rw [List.filter_cons_of_pos (by simpa using hmx)]
      rw [e] at h4
      exact (List.cons_prefix_cons.1 h4).2
    · have e : leftP P m = [] := by
        unfold leftP
        rw [List.filter_eq_nil_iff]
        intro y hy
        have := h3 y hy
        simp
        omega
      rw [e]
      exact List.nil_prefix
theorem left_of_down : ∀ {P : List Int} (m : Int), P.Pairwise (fun a b => b < a) → leftP P m <+: P
  | [], _, _ => List.nil_prefix
  | x :: P, m, h => by
    obtain ⟨h1, h2⟩ := List.pairwise_cons.1 h
    by_cases hmx : m ≤ x
    · have e : leftP (x :: P) m = x :: leftP P m := by unfold leftP; rw [List.filter_cons_of_pos (by simpa using hmx)]
      rw [e]
      exact List.cons_prefix_cons.2 ⟨rfl, left_of_down m h2⟩
    · have e : leftP (x :: P) m = [] := by
        unfold leftP
        rw [List.filter_eq_nil_iff]
        intro y hy
        rcases List.mem_cons.1 hy with rfl | hy
        · simpa using hmx
        · have := h1 y hy
          simp
          omega
      rw [e]
      exact List.nil_prefix

/-- THE PILES OF THE TANK t when the first m coils are paid out -/
def pileOut (L T : List Int) (m : Nat) (t : Nat) : List Int := leftP (pileTo L T t L.length) m
/-- the first m coils could be paid out -/
def outTo (L T : List Int) (m : Nat) : Prop := ∀ j : Nat, j ≤ m → ∀ t : Nat, t < 5 → pileOut L T j t <+: pileTo L T t L.length
theorem leftP_zero {P : List Int} (h : ∀ x ∈ P, 0 ≤ x) : leftP P 0 = P := by
  unfold leftP
  rw [List.filter_eq_self]
  intro x hx
  have := h x hx
  simpa using this
theorem pile_pos {L : List Int} (h : ordB L = true) (T : List Int) (t : Int) : ∀ x ∈ pileTo L T t L.length, 0 ≤ x ∧ x < L.length := fun x hx => by
  obtain ⟨j, h1, _, rfl⟩ := (pileTo_mem L T t _ x).1 hx
  exact ord_at h h1
theorem pileOut_zero {L : List Int} (h : ordB L = true) (T : List Int) (t : Nat) : pileOut L T 0 t = pileTo L T t L.length := leftP_zero fun x hx => (pile_pos h T t x hx).1
theorem outTo_zero {L : List Int} (h : ordB L = true) (T : List Int) : outTo L T 0 := fun j hj t _ => by
  obtain rfl : j = 0 := by omega
  rw [pileOut_zero h]
  exact List.prefix_refl _
/-- A STOWAGE IS ONE FROM WHICH ALL CAN BE PAID OUT -/
theorem stow_of_out {L T : List Int} (hb : baseB L T = true) (h : outTo L T L.length) : stowB L T = true := by
  obtain ⟨ho, hl, ht⟩ := baseB_true.1 hb
  refine stowB_true.2 ⟨hb, fun i hi k hk e => ?_⟩
  have h1 := ht i hi
  have h2 : (pileTo L T (T[i]?.getD 0) L.length).Pairwise (fun a b => b < a) := by
    refine down_of_left (n := L.length) (pileTo_nodup ho T _ _ (Nat.le_refl _)) (pile_pos ho T _) fun m hm0 hm => ?_
    have h3 := h m.toNat (by omega) (T[i]?.getD 0).toNat (by omega)
    unfold pileOut at h3
    rw [show ((T[i]?.getD 0).toNat : Int) = T[i]?.getD 0 by omega, show (m.toNat : Int) = m by omega] at h3
    exact h3
  exact (pileTo_down _ _).1 h2 i hi k hk rfl e.symm
theorem out_of_stow {L T : List Int} (h : stowB L T = true) : outTo L T L.length := fun j _ t _ =>
  left_of_down _ ((pileTo_down _ _).2 fun i hi k hk e1 e2 => (stowB_true.1 h).2 i hi k hk (by rw [e1, e2]))
theorem outTo_mono {L T : List Int} {m n : Nat} (h : outTo L T m) (hn : n ≤ m) : outTo L T n := fun j hj t ht => h j (by omega) t ht

/-- the next coil lies in the pile of its tank alone -/
theorem next_in {L T : List Int} (hb : baseB L T = true) {m : Nat} (hm : m < L.length) (t : Nat) : (m : Int) ∈ pileOut L T m t ↔ T[invN L m]?.getD 0 = t := by
  obtain ⟨ho, hl, ht⟩ := baseB_true.1 hb
  unfold pileOut leftP
  rw [List.mem_filter, pileTo_mem]
  constructor
  · rintro ⟨⟨j, h1, h2, h3⟩, _⟩
    rw [inv_of ho h1 hm h3]
    exact h2
  · intro h
    exact ⟨⟨invN L m, inv_lt ho hm, h, inv_at ho hm⟩, by simp⟩
theorem filter_next {P : List Int} {m : Int} (h : m ∉ P) : leftP P (m + 1) = leftP P m := by
  unfold leftP
  refine List.filter_congr fun x hx => ?_
  have : x ≠ m := fun e => h (e ▸ hx)
  exact decide_eq_decide.2 (by omega)
theorem left_left (P : List Int) (m : Int) : leftP (leftP P m) (m + 1) = leftP P (m + 1) := by
  unfold leftP
  rw [List.filter_filter]
  refine List.filter_congr fun x hx => ?_
  rw [← Bool.decide_and]
  exact decide_eq_decide.2 (by omega)
theorem left_nodup {P : List Int} (h : P.Nodup) (m : Int) : (leftP P m).Nodup := h.sublist List.filter_sublist
/-- other piles stay -/
theorem out_other {L T : List Int} (hb : baseB L T = true) {m : Nat} (hm : m < L.length) {t : Nat} (h : T[invN L m]?.getD 0 ≠ t) : pileOut L T (m + 1) t = pileOut L T m t := by
  unfold pileOut
  rw [show ((m + 1 : Nat) : Int) = (m : Int) + 1 by omega, ← left_left]
  have h1 : (m : Int) ∉ pileOut L T m t := fun h2 => h ((next_in hb hm t).1 h2)
  refine (filter_next h1).trans ?_
  unfold pileOut leftP
  rw [List.filter_filter]
  exact List.filter_congr fun x _ => by simp
/-- the next coil lies on top of its tank: it is taken off -/
theorem out_top {L T : List Int} (hb : baseB L T = true) {m : Nat} (hm : m < L.length) {t : Nat} (h : (pileOut L T m t).getLast? = some (m : Int)) :
    T[invN L m]?.getD 0 = t ∧ pileOut L T (m + 1) t = (pileOut L T m t).dropLast := by
  obtain ⟨ho, hl, ht⟩ := baseB_true.1 hb
  obtain ⟨q, hq⟩ := List.getLast?_eq_some_iff.1 h
  refine ⟨(next_in hb hm t).1 (by rw [hq]; simp), ?_⟩
  have hn := left_nodup (pileTo_nodup ho T t L.length (Nat.le_refl _)) m
  change (pileOut L T m t).Nodup at hn
  rw [hq] at hn
  have h1 : (m : Int) ∉ q := fun h2 => (List.nodup_append.1 hn).2.2 _ h2 (m : Int) (by simp) rfl
  have h2 : ∀ x ∈ q, (m : Int) ≤ x := fun x hx => by
    have h3 : x ∈ pileOut L T m t := by rw [hq]; simp [hx]
    simpa using (List.mem_filter.1 h3).2
  have e : pileOut L T (m + 1) t = leftP (pileOut L T m t) (m + 1) := by
    unfold pileOut
    rw [show ((m + 1 : Nat) : Int) = (m : Int) + 1 by omega, left_left]
  rw [e, hq, List.dropLast_concat]
  unfold leftP
  rw [List.filter_append, List.filter_cons_of_neg (by simp; omega), List.filter_nil, List.append_nil, List.filter_eq_self]
  intro x hx
  have h4 := h2 x hx
  have : x ≠ m := fun e => h1 (e ▸ hx)
  simp
  omega
theorem out_next {L T : List Int} (hb : baseB L T = true) {m : Nat} (hm : m < L.length) {t : Nat} (ht : t < 5) (h : (pileOut L T m t).getLast? = some (m : Int)) (ho : outTo L T m) : outTo L T (m + 1) := fun j hj u hu => by
  rcases Nat.lt_or_ge m j with h1 | h1
  · obtain rfl : j = m + 1 := by omega
    have h2 := ho m (Nat.le_refl _) u hu
    obtain ⟨e1, e2⟩ := out_top hb hm h
    by_cases e : u = t
    · subst e
      rw [e2]
      exact (List.dropLast_prefix _).trans h2
    · rw [out_other hb hm (t := u) (by rw [e1]; omega)]
      exact h2
  · exact ho j h1 u hu
/-- the next coil lies on top of no tank: they are no stowage -/
theorem out_stuck {L T : List Int} (hb : baseB L T = true) {m : Nat} (hm : m < L.length) (h : ∀ t : Nat, t < 5 → (pileOut L T m t).getLast? ≠ some (m : Int)) : stowB L T = false := by
  rw [Bool.eq_false_iff]
  intro hs
  obtain ⟨ho, hl, ht⟩ := baseB_true.1 hb
  have h0 := ht _ (inv_lt ho hm)
  obtain ⟨t, hte⟩ : ∃ t : Nat, T[invN L m]?.getD 0 = t := ⟨(T[invN L m]?.getD 0).toNat, by omega⟩
  have h1 := (next_in hb hm t).2 hte
  have h2 := h t (by omega)
  have h3 : (pileOut L T m t).Pairwise (fun a b => b < a) := by
    refine List.Pairwise.sublist List.filter_sublist ((pileTo_down _ _).2 fun i hi k hk e1 e2 => (stowB_true.1 hs).2 i hi k hk (by rw [e1, e2]))
  obtain ⟨q, z, hq⟩ : ∃ q z, pileOut L T m t = q ++ [z] := by
    obtain ⟨q, hq⟩ := List.getLast?_eq_some_iff.1 (List.getLast?_eq_some_getLast (List.ne_nil_of_mem h1))
    exact ⟨q, _, hq⟩
  have h4 : z ∈ pileOut L T m t := by rw [hq]; simp
  have h5 : (m : Int) ≤ z := by simpa using (List.mem_filter.1 h4).2
  rw [hq] at h1 h3
  rcases List.mem_append.1 h1 with h6 | h6
  · have := (List.pairwise_append.1 h3).2.2 _ h6 z (by simp)
    omega
  · rw [List.mem_singleton] at h6
    exact h2 (by rw [hq, ← h6]; simp)

/-- THE TANKS FROM WHICH THE FIRST m COILS COME -/
def outL (L T : List Int) (m : Nat) : List Int := (List.range m).map fun k => T[invN L k]?.getD 0
theorem outL_succ (L T : List Int) (m : Nat) : outL L T (m + 1) = outL L T m ++ [T[invN L m]?.getD 0] := by simp [outL, List.range_succ]
theorem outL_len (L T : List Int) (m : Nat) : (outL L T m).length = m := by simp [outL]
/-- .. as they are filled in in the order of loading -/
def fillL (L T : List Int) (i : Nat) : List Int := (List.range L.length).map fun k => if invN L k < i then T[invN L k]?.getD 0 else 0
theorem fillL_len (L T : List Int) (i : Nat) : (fillL L T i).length = L.length := by simp [fillL]
theorem fillL_zero (L T : List Int) : fillL L T 0 = List.replicate L.length 0 := by
  unfold fillL
  apply List.ext_getElem (by simp)
  intro k h1 h2
  simp
theorem fillL_succ {L : List Int} (h : ordB L = true) (T : List Int) {i : Nat} (hi : i < L.length) : fillL L T (i + 1) = (fillL L T i).set (L[i]?.getD 0).toNat (T[i]?.getD 0) := by
  have h0 := ord_at h hi
  apply List.ext_getElem (by simp [fillL])
  intro k h1 h2
  have hk : k < L.length := by simpa [fillL] using h1
  rw [List.getElem_set]
  simp only [fillL, List.getElem_map, List.getElem_range]
  by_cases e : (L[i]?.getD 0).toNat = k
  · rw [if_pos e, inv_of h hi hk (by omega), if_pos (by omega)]
  · rw [if_neg e]
    have h3 : invN L k ≠ i := fun e2 => e (by rw [← e2, inv_at h hk]; omega)
    by_cases h4 : invN L k < i
    · rw [if_pos h4, if_pos (by omega)]
    · rw [if_neg h4, if_neg (by omega)]
theorem fillL_all {L : List Int} (h : ordB L = true) (T : List Int) : fillL L T L.length = outL L T L.length := by
  unfold fillL outL
  refine List.map_congr_left fun k hk => ?_
  rw [if_pos (inv_lt h (List.mem_range.1 hk))]

/-! ### how many coils lie in a tank -/

/-- as many of the first k coils in the tank t -/
def cnt (T : List Int) (t : Int) : Nat → Nat
  | 0 => 0
  | k + 1 => cnt T t k + if T[k]?.getD 0 = t then 1 else 0
theorem cnt_leK (T : List Int) (t : Int) : ∀ k, cnt T t k ≤ k
  | 0 => Nat.le_refl _
  | k + 1 => by
    have := cnt_leK T t k
    rw [cnt]
    split <;> omega
theorem cnt_pos (T : List Int) (t : Int) : ∀ k, 0 < cnt T t k ↔ ∃ j, j < k ∧ T[j]?.getD 0 = t
  | 0 => by simp [cnt]
  | k + 1 => by
    have ih := cnt_pos T t k
    rw [cnt]
    constructor
    · intro h
      split at h
      · rename_i e
        exact ⟨k, by omega, e⟩
      · obtain ⟨j, h1, h2⟩ := ih.1 (by omega)
        exact ⟨j, by omega, h2⟩
    · rintro ⟨j, h1, h2⟩
      rcases Nat.lt_or_ge j k with h3 | h3
      · have := ih.2 ⟨j, h3, h2⟩
        omega
      · obtain rfl : j = k := by omega
        rw [if_pos h2]
        omega
theorem take_mem {T : List Int} {k : Nat} (hk : k ≤ T.length) (t : Int) : t ∈ T.take k ↔ ∃ j, j < k ∧ T[j]?.getD 0 = t := by
  constructor
  · intro h
    obtain ⟨j, hj, e⟩ := mem_getD h
    simp only [List.length_take] at hj
    rw [List.getElem?_take_of_lt (by omega)] at e
    exact ⟨j, by omega, e⟩
  · rintro ⟨j, hj, rfl⟩
    have h1 : j < (T.take k).length := by simp; omega
    have := getD_mem h1
    rw [List.getElem?_take_of_lt hj] at this
    exact this
/-- as many of the first m tanks hold some of the first k coils -/
def usedK (T : List Int) (k : Nat) : Nat → Nat
  | 0 => 0
  | m + 1 => usedK T k m + if 0 < cnt T m k then 1 else 0
/-- as many of the first k coils lie in a tank that none ahead of them lies in -/
def newK (T : List Int) : Nat → Nat
  | 0 => 0
  | k + 1 => newK T k + if T[k]?.getD 0 ∈ T.take k then 0 else 1
theorem usedK_le (T : List Int) (k : Nat) : ∀ m, usedK T k m ≤ m
  | 0 => Nat.le_refl _
  | m + 1 => by
    have := usedK_le T k m
    rw [usedK]
    split <;> omega
theorem newK_le (T : List Int) : ∀ k, newK T k ≤ k
  | 0 => Nat.le_refl _
  | k + 1 => by
    have := newK_le T k
    rw [newK]
    split <;> omega
theorem usedK_succ (T : List Int) {k : Nat} (hk : k < T.length) : ∀ m : Nat, usedK T (k + 1) m = usedK T k m + if T[k]?.getD 0 ∈ T.take k ∨ ¬ (0 ≤ T[k]?.getD 0 ∧ T[k]?.getD 0 < m) then 0 else 1
  | 0 => by rw [if_pos (.inr (by omega))]; rfl
  | m + 1 => by
    rw [usedK, usedK, usedK_succ T hk m, cnt]
    have hm := (take_mem (Nat.le_of_lt hk) (T[k]?.getD 0))
    have h0 := cnt_pos T m k
    by_cases e : T[k]?.getD 0 = m
    · rw [e] at hm ⊢
      by_cases h1 : (m : Int) ∈ T.take k
      · have h2 := h0.2 (hm.1 h1)
        simp only [h1, h2, true_or, if_true]
        rw [if_pos (by omega)]
      · have h2 : ¬ 0 < cnt T m k := fun h => h1 (hm.2 (h0.1 h))
        simp only [h1, h2, false_or, if_true, if_false]
        rw [if_pos (by omega), if_pos (by omega), if_neg (by omega)]
    · by_cases h1 : T[k]?.getD 0 ∈ T.take k
      · simp only [e, h1, true_or, if_true, if_false, Nat.add_zero]
      · by_cases h2 : 0 ≤ T[k]?.getD 0 ∧ T[k]?.getD 0 < m
        · simp only [e, h1, false_or, if_false, Nat.add_zero]
          generalize (if 0 < cnt T m k then 1 else 0) = u
          rw [if_neg (by omega), if_neg (by omega)]
          omega
        · simp only [e, h1, false_or, if_false, Nat.add_zero]
          generalize (if 0 < cnt T m k then 1 else 0) = u
          rw [if_pos (by omega), if_pos (by omega)]
          omega
theorem usedK_zero (T : List Int) : ∀ m, usedK T 0 m = 0
  | 0 => rfl
  | m + 1 => by rw [usedK, usedK_zero T m]; rfl
theorem used_new {T : List Int} (h : ∀ j, j < T.length → 0 ≤ T[j]?.getD 0 ∧ T[j]?.getD 0 ≤ 4) : ∀ k, k ≤ T.length → usedK T k 5 = newK T k
  | 0, _ => usedK_zero T 5
  | k + 1, hk => by
    have h1 := h k (by omega)
    rw [usedK_succ T (by omega), newK, used_new h k (by omega)]
    by_cases h2 : T[k]?.getD 0 ∈ T.take k
    · rw [if_pos (.inl h2), if_pos h2]
    · rw [if_neg (by intro h3; rcases h3 with h3 | h3; exact h2 h3; exact h3 (by omega)), if_neg h2]
def tnkI (L T : List Int) : Int := if stowB L T then usedK T T.length 5 else -1
/-- the most coils in one of the first m tanks -/
def mostK (T : List Int) : Nat → Nat
  | 0 => 0
  | m + 1 => max (mostK T m) (cnt T m T.length)
theorem mostK_le (T : List Int) : ∀ m, mostK T m ≤ T.length
  | 0 => Nat.zero_le _
  | m + 1 => by
    have h1 := mostK_le T m
    have h2 := cnt_leK T m T.length
    rw [mostK]
    omega
def mstI (L T : List Int) : Int := if stowB L T then mostK T 5 else -1

end Go.Proofs.Ytodboccadccpfaa
