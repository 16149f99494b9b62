/-
  Stowing: the first tank that takes a coil; the least tanks are the longest row. Nothing here speaks of the program.
-/
import Derived.Test.YtodboccadccpfaaTkM
namespace Go.Proofs.Ytodboccadccpfaa
open Go.RowKit

/-- what lies on top of a pile -/
def topI (p : List Int) : Int := p.getLast?.getD 0
theorem topI_snoc (p : List Int) (x : Int) : topI (p ++ [x]) = x := by simp [topI]
theorem topI_mem {p : List Int} (h : p ≠ []) : topI p ∈ p := by
  unfold topI
  rw [List.getLast?_eq_some_getLast h]
  exact List.getLast_mem h
def pileAt (P : List (List Int)) (t : Nat) : List Int := P[t]?.getD []
/-- the first pile on which something greater lies; as many as there are, if there is none -/
def pickP (P : List (List Int)) (x : Int) : Nat := P.findIdx fun p => decide (x < topI p)
def putP (P : List (List Int)) (x : Int) (t : Nat) : List (List Int) := if t < P.length then P.set t (pileAt P t ++ [x]) else P ++ [[x]]
/-- THE PILES AFTER THE FIRST k COILS -/
def stP (L : List Int) : Nat → List (List Int)
  | 0 => []
  | k + 1 => putP (stP L k) (L[k]?.getD 0) (pickP (stP L k) (L[k]?.getD 0))
/-- the tank of the coil k -/
def stN (L : List Int) (k : Nat) : Nat := pickP (stP L k) (L[k]?.getD 0)
/-- the tanks of the first k coils -/
def stT (L : List Int) (k : Nat) : List Int := (List.range k).map fun (i : Nat) => (stN L i : Int)
theorem stT_succ (L : List Int) (k : Nat) : stT L (k + 1) = stT L k ++ [(stN L k : Int)] := by simp [stT, List.range_succ]
theorem stT_len (L : List Int) (k : Nat) : (stT L k).length = k := by simp [stT]
/-- as many tanks as are needed -/
def cntN (L : List Int) : Nat := (stP L L.length).length
def lstI (L : List Int) : Int := if ordB L then cntN L else -1
def tpN (L : List Int) (k t : Nat) : Int := topI (pileAt (stP L k) t)

theorem stN_le (L : List Int) (k : Nat) : stN L k ≤ (stP L k).length := List.findIdx_le_length
theorem stP_succ (L : List Int) (k : Nat) : stP L (k + 1) = putP (stP L k) (L[k]?.getD 0) (stN L k) := rfl
theorem put_len (P : List (List Int)) (x : Int) (t : Nat) : (putP P x t).length = if t < P.length then P.length else P.length + 1 := by
  unfold putP
  split <;> simp
theorem put_at {P : List (List Int)} (x : Int) {t : Nat} (ht : t ≤ P.length) (u : Nat) : pileAt (putP P x t) u = if u = t then pileAt P t ++ [x] else pileAt P u := by
  unfold putP pileAt
  split
  · rename_i h
    by_cases hu : u = t
    · subst hu
      simp [h]
    · rw [List.getElem?_set_ne (fun e => hu e.symm), if_neg hu]
  · rename_i h
    obtain rfl : t = P.length := by omega
    by_cases hu : u = P.length
    · subst hu
      simp
    · rw [if_neg hu]
      rcases Nat.lt_or_ge u P.length with h1 | h1
      · rw [List.getElem?_append_left h1]
      · rw [List.getElem?_eq_none (by simp; omega), List.getElem?_eq_none (by omega)]
theorem st_len (L : List Int) (k : Nat) : (stP L (k + 1)).length = if stN L k < (stP L k).length then (stP L k).length else (stP L k).length + 1 := by rw [stP_succ, put_len]
theorem st_len_le (L : List Int) : ∀ k, (stP L k).length ≤ k
  | 0 => Nat.le_refl _
  | k + 1 => by
    have := st_len_le L k
    rw [st_len]
    split <;> omega
theorem tp_succ (L : List Int) (k u : Nat) : tpN L (k + 1) u = if u = stN L k then L[k]?.getD 0 else tpN L k u := by
  unfold tpN
  rw [stP_succ, put_at _ (stN_le L k)]
  split
  · rw [topI_snoc]
  · rfl
theorem pile_succ (L : List Int) (k u : Nat) : pileAt (stP L (k + 1)) u = if u = stN L k then pileAt (stP L k) u ++ [L[k]?.getD 0] else pileAt (stP L k) u := by
  rw [stP_succ, put_at _ (stN_le L k)]
  split
  · rename_i h; subst h; rfl
  · rfl
theorem pile_out (P : List (List Int)) {t : Nat} (h : P.length ≤ t) : pileAt P t = [] := by
  unfold pileAt
  rw [List.getElem?_eq_none h]
  rfl

/-- what a pile holds was loaded -/
theorem pile_mem (L : List Int) : ∀ k, k ≤ L.length → ∀ u, ∀ y ∈ pileAt (stP L k) u, y ∈ L.take k
  | 0, _, u, y, h => by simp [stP, pileAt] at h
  | k + 1, hk, u, y, h => by
    rw [pile_succ] at h
    rw [List.take_succ_eq_append_getElem (by omega), List.mem_append]
    split at h
    · rcases List.mem_append.1 h with h1 | h1
      · exact .inl (pile_mem L k (by omega) u y h1)
      · rw [getD_at (by omega)] at h1
        exact .inr h1
    · exact .inl (pile_mem L k (by omega) u y h)
theorem pile_ne (L : List Int) : ∀ k u, u < (stP L k).length → pileAt (stP L k) u ≠ []
  | 0, u, h => by simp [stP] at h
  | k + 1, u, h => by
    rw [pile_succ]
    rw [st_len] at h
    have := stN_le L k
    split
    · simp
    · exact pile_ne L k u (by split at h <;> omega)
theorem pile_small (L : List Int) : ∀ k u, (pileAt (stP L k) u).length ≤ k
  | 0, u => by simp [stP, pileAt]
  | k + 1, u => by
    have := pile_small L k u
    rw [pile_succ]
    split
    · simp; omega
    · omega

theorem pick_at {P : List (List Int)} {x : Int} (h : pickP P x < P.length) : x < topI (pileAt P (pickP P x)) := by
  have h1 := List.findIdx_getElem (xs := P) (p := fun p => decide (x < topI p)) (w := h)
  unfold pickP at h
  unfold pileAt pickP
  rw [List.getElem?_eq_getElem h]
  simpa using h1
theorem pick_before {P : List (List Int)} {x : Int} {j : Nat} (h : j < pickP P x) : topI (pileAt P j) ≤ x := by
  have h0 : pickP P x ≤ P.length := List.findIdx_le_length
  have h1 := List.not_of_lt_findIdx h
  unfold pileAt
  rw [List.getElem?_eq_getElem (by omega)]
  simp at h1 ⊢
  exact h1
theorem pick_is {P : List (List Int)} {x : Int} {k : Nat} (hk : k < P.length) (h : x < topI (pileAt P k)) (h2 : ∀ j, j < k → topI (pileAt P j) ≤ x) : pickP P x = k := by
  rcases Nat.lt_trichotomy (pickP P x) k with h3 | h3 | h3
  · have := h2 _ h3
    have := pick_at (P := P) (x := x) (by omega)
    omega
  · exact h3
  · have := pick_before h3
    omega
theorem pick_none {P : List (List Int)} {x : Int} (h2 : ∀ j, j < P.length → topI (pileAt P j) ≤ x) : pickP P x = P.length := by
  have h0 : pickP P x ≤ P.length := List.findIdx_le_length
  rcases Nat.lt_or_ge (pickP P x) P.length with h3 | h3
  · have := h2 _ h3
    have := pick_at h3
    omega
  · omega
theorem tp_ne {L : List Int} (h : ordB L = true) {k u : Nat} (hk : k < L.length) (hu : u < (stP L k).length) : tpN L k u ≠ L[k]?.getD 0 := by
  intro e
  have h1 := pile_mem L k (by omega) u _ (topI_mem (pile_ne L k u hu))
  exact ord_notin h hk (by rw [← e]; exact h1)

/-- WHAT HOLDS WHILE STOWING -/
structure StI (L : List Int) (k : Nat) : Prop where
  from_ : ∀ t, t < (stP L k).length → ∃ i, i < k ∧ stN L i = t ∧ tpN L k t = L[i]?.getD 0
  lt : ∀ i, i < k → stN L i < (stP L k).length ∧ tpN L k (stN L i) ≤ L[i]?.getD 0
  up : ∀ t u, t < u → u < (stP L k).length → tpN L k t < tpN L k u
theorem stI {L : List Int} (h : ordB L = true) : ∀ k, k ≤ L.length → StI L k
  | 0, _ => ⟨fun t ht => by simp [stP] at ht, fun i hi => absurd hi (by omega), fun t u _ hu => by simp [stP] at hu⟩
  | k + 1, hk => by
    have I := stI h k (by omega)
    have hle := stN_le L k
    have hlen := st_len L k
    have hb : ∀ j, j < stN L k → tpN L k j < L[k]?.getD 0 := fun j hj => by
      have h1 : tpN L k j ≤ L[k]?.getD 0 := pick_before hj
      have h2 := tp_ne h (k := k) (u := j) (by omega) (by omega)
      omega
    have ha : stN L k < (stP L k).length → L[k]?.getD 0 < tpN L k (stN L k) := fun h1 => pick_at h1
    refine ⟨fun t ht => ?_, fun i hi => ?_, fun t u htu hu => ?_⟩
    · rw [tp_succ]
      by_cases e : t = stN L k
      · exact ⟨k, by omega, e.symm, by rw [if_pos e]⟩
      · obtain ⟨i, hi, h1, h2⟩ := I.from_ t (by rw [hlen] at ht; split at ht <;> omega)
        exact ⟨i, by omega, h1, by rw [if_neg e, h2]⟩
    · rw [tp_succ]
      rcases Nat.lt_or_ge i k with h1 | h1
      · obtain ⟨h2, h3⟩ := I.lt i h1
        refine ⟨by rw [hlen]; split <;> omega, ?_⟩
        split
        · rename_i e
          have := ha (by omega)
          rw [e] at h3
          omega
        · exact h3
      · obtain rfl : i = k := by omega
        exact ⟨by rw [hlen]; split <;> omega, by rw [if_pos rfl]; omega⟩
    · rw [tp_succ, tp_succ]
      rw [hlen] at hu
      split <;> split
      · omega
      · rename_i e1 e2
        have h1 := ha (by split at hu <;> omega)
        have h2 := I.up (stN L k) u (by omega) (by split at hu <;> omega)
        omega
      · rename_i e1 e2
        exact hb _ (by omega)
      · exact I.up t u htu (by split at hu <;> omega)
/-- a coil that is paid out later than one ahead of it lies in a greater tank -/
theorem st_lt {L : List Int} (h : ordB L = true) {i k : Nat} (hik : i < k) (hk : k < L.length) (hl : L[i]?.getD 0 < L[k]?.getD 0) : stN L i < stN L k := by
  have I := stI h k (by omega)
  obtain ⟨h1, h2⟩ := I.lt i hik
  rcases Nat.lt_or_ge (stN L i) (stN L k) with h3 | h3
  · exact h3
  · exfalso
    have h4 : L[k]?.getD 0 < tpN L k (stN L k) := pick_at (P := stP L k) (x := L[k]?.getD 0) (Nat.lt_of_le_of_lt h3 h1)
    rcases Nat.lt_or_ge (stN L k) (stN L i) with h5 | h5
    · have := I.up _ _ h5 h1
      omega
    · have e : stN L k = stN L i := by omega
      rw [e] at h4
      omega
/-- a coil in a further tank has one ahead of it in the tank before -/
theorem st_pred {L : List Int} (h : ordB L = true) {k t : Nat} (hk : k < L.length) (ht : stN L k = t + 1) : ∃ i, i < k ∧ stN L i = t ∧ L[i]?.getD 0 < L[k]?.getD 0 := by
  have I := stI h k (by omega)
  have hle := stN_le L k
  obtain ⟨i, hi, h1, h2⟩ := I.from_ t (by omega)
  have h3 : tpN L k t ≤ L[k]?.getD 0 := pick_before (P := stP L k) (x := L[k]?.getD 0) (show t < stN L k by omega)
  have h4 := tp_ne h (k := k) (u := t) hk (by omega)
  exact ⟨i, hi, h1, by omega⟩
theorem st_max {L : List Int} (h : ordB L = true) {i : Nat} (hi : i < L.length) : stN L i < cntN L := ((stI h _ (Nat.le_refl _)).lt i hi).1
theorem st_has {L : List Int} (h : ordB L = true) {t : Nat} (ht : t < cntN L) : ∃ i, i < L.length ∧ stN L i = t := by
  obtain ⟨i, hi, h1, _⟩ := (stI h _ (Nat.le_refl _)).from_ t ht
  exact ⟨i, hi, h1⟩
theorem cnt_le (L : List Int) : cntN L ≤ L.length := st_len_le L _

/-! ### rows of coils of which no two agree -/

/-- the greatest number at a coil behind i, up to k, that does not agree with i -/
def mxR (L : List Int) (f : Nat → Nat) (i : Nat) : Nat → Nat
  | 0 => 0
  | k + 1 => if i < k ∧ L[i]?.getD 0 < L[k]?.getD 0 then max (mxR L f i k) (f k) else mxR L f i k
theorem mxR_congr (L : List Int) {f g : Nat → Nat} (i : Nat) : ∀ k, (∀ j, i < j → j < k → f j = g j) → mxR L f i k = mxR L g i k
  | 0, _ => rfl
  | k + 1, h => by
    rw [mxR, mxR, mxR_congr L i k (fun j h1 h2 => h j h1 (by omega))]
    split
    · rename_i h1
      rw [h k h1.1 (by omega)]
    · rfl
theorem mxR_ge (L : List Int) (f : Nat → Nat) (i : Nat) : ∀ k j, i < j → j < k → L[i]?.getD 0 < L[j]?.getD 0 → f j ≤ mxR L f i k
  | 0, j, _, h, _ => absurd h (by omega)
  | k + 1, j, h1, h2, h3 => by
    rw [mxR]
    rcases Nat.lt_or_ge j k with h4 | h4
    · have := mxR_ge L f i k j h1 h4 h3
      split <;> omega
    · obtain rfl : j = k := by omega
      rw [if_pos ⟨h1, h3⟩]
      omega
theorem mxR_from (L : List Int) (f : Nat → Nat) (i : Nat) : ∀ k, mxR L f i k = 0 ∨ ∃ j, i < j ∧ j < k ∧ L[i]?.getD 0 < L[j]?.getD 0 ∧ mxR L f i k = f j
  | 0 => .inl rfl
  | k + 1 => by
    rw [mxR]
    have ih := mxR_from L f i k
    split
    · rename_i h
      rcases Nat.le_total (mxR L f i k) (f k) with h1 | h1
      · exact .inr ⟨k, h.1, by omega, h.2, by omega⟩
      · rcases ih with h2 | ⟨j, h3, h4, h5, h6⟩
        · exact .inr ⟨k, h.1, by omega, h.2, by omega⟩
        · exact .inr ⟨j, h3, by omega, h5, by omega⟩
    · rcases ih with h2 | ⟨j, h3, h4, h5, h6⟩
      · exact .inl h2
      · exact .inr ⟨j, h3, by omega, h5, h6⟩
theorem mxR_low (L : List Int) (f : Nat → Nat) (i : Nat) : ∀ k, k ≤ i + 1 → mxR L f i k = 0
  | 0, _ => rfl
  | k + 1, h => by rw [mxR, if_neg (by omega), mxR_low L f i k (by omega)]
def rowF (L : List Int) : Nat → Nat → Nat
  | 0, _ => 0
  | f + 1, i => 1 + mxR L (rowF L f) i L.length
theorem rowF_stable (L : List Int) : ∀ f g i, i < L.length → L.length - i ≤ f → L.length - i ≤ g → rowF L f i = rowF L g i
  | 0, g, i, h, h1, _ => by omega
  | f + 1, 0, i, h, _, h2 => by omega
  | f + 1, g + 1, i, h, h1, h2 => by
    rw [rowF, rowF, mxR_congr L i _ (fun j h3 h4 => rowF_stable L f g j h4 (by omega) (by omega))]
/-- THE GREATEST NUMBER OF COILS, OF WHICH NO TWO AGREE, THAT BEGIN WITH THE COIL i -/
def rowL (L : List Int) (i : Nat) : Nat := rowF L (L.length - i) i
theorem rowL_eq {L : List Int} {i : Nat} (h : i < L.length) : rowL L i = 1 + mxR L (rowL L) i L.length := by
  unfold rowL
  rw [show L.length - i = (L.length - i - 1) + 1 by omega, rowF, mxR_congr L i _ (fun j h3 h4 => rowF_stable L _ (L.length - j) j h4 (by omega) (by omega))]
theorem rowL_pos {L : List Int} {i : Nat} (h : i < L.length) : 1 ≤ rowL L i := by rw [rowL_eq h]; omega
theorem rowL_step {L : List Int} {i j : Nat} (hij : i < j) (hj : j < L.length) (hl : L[i]?.getD 0 < L[j]?.getD 0) : rowL L j + 1 ≤ rowL L i := by
  rw [rowL_eq (i := i) (by omega)]
  have := mxR_ge L (rowL L) i L.length j hij hj hl
  omega
theorem rowL_next {L : List Int} {i : Nat} (h : i < L.length) : rowL L i = 1 ∨ ∃ j, i < j ∧ j < L.length ∧ L[i]?.getD 0 < L[j]?.getD 0 ∧ rowL L i = rowL L j + 1 := by
  rw [rowL_eq h]
  rcases mxR_from L (rowL L) i L.length with h1 | ⟨j, h1, h2, h3, h4⟩
  · exact .inl (by omega)
  · exact .inr ⟨j, h1, h2, h3, by omega⟩
theorem row_cnt {L : List Int} (h : ordB L = true) : ∀ d i, i < L.length → L.length - i ≤ d → rowL L i + stN L i ≤ cntN L
  | 0, i, h1, h2 => by omega
  | d + 1, i, h1, h2 => by
    rcases rowL_next h1 with h3 | ⟨j, h3, h4, h5, h6⟩
    · have := st_max h h1
      omega
    · have h7 := row_cnt h d j h4 (by omega)
      have h8 := st_lt h h3 h4 h5
      omega
theorem row_le {L : List Int} (h : ordB L = true) {i : Nat} (hi : i < L.length) : rowL L i ≤ cntN L := by
  have := row_cnt h _ i hi (Nat.le_refl _)
  omega
theorem row_has {L : List Int} (h : ordB L = true) : ∀ t c, c < L.length → stN L c = t → ∃ i, i < L.length ∧ stN L i = 0 ∧ rowL L c + t ≤ rowL L i
  | 0, c, hc, ht => ⟨c, hc, ht, Nat.le_refl _⟩
  | t + 1, c, hc, ht => by
    obtain ⟨i, hi, h1, h2⟩ := st_pred h hc ht
    obtain ⟨j, hj, h3, h4⟩ := row_has h t i (by omega) h1
    have := rowL_step hi hc h2
    exact ⟨j, hj, h3, by omega⟩
/-- the greatest row of the first k coils -/
def mxA (L : List Int) : Nat → Nat
  | 0 => 0
  | k + 1 => max (mxA L k) (rowL L k)
theorem mxA_ge (L : List Int) : ∀ k i, i < k → rowL L i ≤ mxA L k
  | 0, i, h => absurd h (by omega)
  | k + 1, i, h => by
    rw [mxA]
    rcases Nat.lt_or_ge i k with h1 | h1
    · have := mxA_ge L k i h1
      omega
    · obtain rfl : i = k := by omega
      omega
theorem mxA_le {L : List Int} (h : ordB L = true) : ∀ k, k ≤ L.length → mxA L k ≤ cntN L
  | 0, _ => Nat.zero_le _
  | k + 1, hk => by
    have h1 := mxA_le h k (by omega)
    have h2 := row_le h (i := k) (by omega)
    rw [mxA]
    omega
/-- THE LEAST TANKS ARE THE LONGEST ROW -/
theorem mxA_cnt {L : List Int} (h : ordB L = true) : mxA L L.length = cntN L := by
  have h1 := mxA_le h L.length (Nat.le_refl _)
  rcases Nat.eq_zero_or_pos (cntN L) with h2 | h2
  · omega
  · obtain ⟨c, hc, h3⟩ := st_has h (t := cntN L - 1) (by omega)
    obtain ⟨i, hi, h4, h5⟩ := row_has h _ c hc h3
    have := mxA_ge L L.length i hi
    have := rowL_pos hc
    omega

/-- THE LONGEST ROW THAT IS LOADED FIRST: of the first k coils -/
def lgO (L : List Int) : Nat → List Nat
  | 0 => []
  | k + 1 => if (rowL L k : Int) = cntN L - (lgO L k).length ∧ ∀ j, (lgO L k).getLast? = some j → L[j]?.getD 0 < L[k]?.getD 0 then lgO L k ++ [k] else lgO L k
def lgI (L : List Int) (k : Nat) : List Int := (lgO L k).map fun (i : Nat) => (i : Int)
theorem lgO_len (L : List Int) : ∀ k, (lgO L k).length ≤ k
  | 0 => Nat.le_refl _
  | k + 1 => by
    have := lgO_len L k
    rw [lgO]
    split
    · simp; omega
    · omega
theorem lgO_lt (L : List Int) : ∀ k, ∀ j ∈ lgO L k, j < k
  | 0, j, h => by simp [lgO] at h
  | k + 1, j, h => by
    rw [lgO] at h
    split at h
    · rcases List.mem_append.1 h with h1 | h1
      · have := lgO_lt L k j h1
        omega
      · have : j = k := by simpa using h1
        omega
    · have := lgO_lt L k j h
      omega
/-- what the last coil of the row is paid out as; -1 if there is none -/
def lgA (L : List Int) (k : Nat) : Int := match (lgO L k).getLast? with
  | none => -1
  | some j => L[j]?.getD 0
theorem lgO_yes {L : List Int} {k : Nat} (h1 : (rowL L k : Int) = cntN L - (lgO L k).length) (h2 : lgA L k < L[k]?.getD 0) :
    lgO L (k + 1) = lgO L k ++ [k] ∧ lgA L (k + 1) = L[k]?.getD 0 := by
  have e : lgO L (k + 1) = lgO L k ++ [k] := by
    rw [lgO, if_pos]
    refine ⟨h1, fun j hj => ?_⟩
    unfold lgA at h2
    rw [hj] at h2
    exact h2
  exact ⟨e, by unfold lgA; rw [e]; simp⟩
theorem lgO_no {L : List Int} (h : ordB L = true) {k : Nat} (hk : k < L.length) (h1 : ¬ ((rowL L k : Int) = cntN L - (lgO L k).length ∧ lgA L k < L[k]?.getD 0)) :
    lgO L (k + 1) = lgO L k ∧ lgA L (k + 1) = lgA L k := by
  have e : lgO L (k + 1) = lgO L k := by
    rw [lgO, if_neg]
    rintro ⟨h2, h3⟩
    refine h1 ⟨h2, ?_⟩
    unfold lgA
    cases hl : (lgO L k).getLast? with
    | none =>
      have := ord_at h hk
      show (-1 : Int) < _
      omega
    | some j => exact h3 j hl
  exact ⟨e, by unfold lgA; rw [e]⟩

end Go.Proofs.Ytodboccadccpfaa
