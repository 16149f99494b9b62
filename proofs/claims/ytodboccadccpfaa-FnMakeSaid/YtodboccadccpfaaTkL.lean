/-
  Orders, pairs, the longest row, stowages of the other ship: the mathematics of P50, P55 and P58. Nothing here speaks of the program.
-/
import Derived.Test.YtodboccadccpfaaTkV
import Derived.Test.YtodboccadccpfaaBkB
namespace Go.Proofs.Ytodboccadccpfaa
open Go.RowKit

theorem nodup_len : ∀ {A B : List Int}, A.Nodup → (∀ x ∈ A, x ∈ B) → A.length ≤ B.length
  | [], _, _, _ => Nat.zero_le _
  | a :: A, B, hA, hs => by
    have h1 := hs a (by simp)
    have hp := (List.perm_cons_erase h1).length_eq
    obtain ⟨hn, hA2⟩ := List.nodup_cons.1 hA
    have h2 : ∀ x ∈ A, x ∈ B.erase a := fun x hx => (List.mem_erase_of_ne (fun e : x = a => hn (by rw [← e]; exact hx))).2 (hs x (by simp [hx]))
    have h3 := nodup_len hA2 h2
    simp only [List.length_cons] at hp ⊢
    omega

/-! ### the orders of the other ship -/
theorem backL_at (L : List Int) {k : Nat} (h : k < L.length) : (backL L)[k]?.getD 0 = (L.length : Int) - 1 - invN L (L.length - 1 - k) := by
  unfold backL
  rw [List.getElem?_map, List.getElem?_range h]
  rfl
theorem back_ord {L : List Int} (h : ordB L = true) : ordB (backL L) = true := by
  refine ordI_all (by rw [backL_len]; exact ord_len h) fun i hi => ?_
  rw [backL_len] at hi
  -- the coil n-1-i is paid out as L[n-1-i]
  have h1 := ord_at h (k := L.length - 1 - i) (by omega)
  obtain ⟨k, hk⟩ : ∃ k : Nat, (L.length : Int) - 1 - L[L.length - 1 - i]?.getD 0 = k := ⟨((L.length : Int) - 1 - L[L.length - 1 - i]?.getD 0).toNat, by omega⟩
  have hkl : k < L.length := by omega
  have h2 := backL_at L hkl
  rw [inv_of h (j := L.length - 1 - i) (k := L.length - 1 - k) (by omega) (by omega) (by omega)] at h2
  have h3 := getD_mem (L := backL L) (k := k) (by rw [backL_len]; exact hkl)
  rw [h2] at h3
  rw [show ((i : Nat) : Int) = (L.length : Int) - 1 - ((L.length - 1 - i : Nat) : Int) by omega]
  exact h3

/-! ### pairs -/
def sumN (f : Nat → Nat) : Nat → Nat
  | 0 => 0
  | k + 1 => sumN f k + f k
theorem sumN_congr {f g : Nat → Nat} : ∀ k, (∀ j, j < k → f j = g j) → sumN f k = sumN g k
  | 0, _ => rfl
  | k + 1, h => by rw [sumN, sumN, sumN_congr k (fun j hj => h j (by omega)), h k (by omega)]
theorem sumN_add (f g : Nat → Nat) : ∀ k, sumN (fun j => f j + g j) k = sumN f k + sumN g k
  | 0 => rfl
  | k + 1 => by rw [sumN, sumN, sumN, sumN_add f g k]; omega
theorem sumN_zero : ∀ k, sumN (fun _ => 0) k = 0
  | 0 => rfl
  | k + 1 => by rw [sumN, sumN_zero k]
theorem sumN_comm (f : Nat → Nat → Nat) (m : Nat) : ∀ k, sumN (fun i => sumN (f i) m) k = sumN (fun j => sumN (fun i => f i j) k) m
  | 0 => by
    show 0 = _
    rw [show (fun j => sumN (fun i => f i j) 0) = fun _ => 0 from rfl, sumN_zero]
  | k + 1 => by
    rw [sumN, sumN_comm f m k, ← sumN_add]
    rfl
theorem sumN_list (f : Nat → Nat) : ∀ k, sumN f k = ((List.range k).map f).sum
  | 0 => rfl
  | k + 1 => by rw [sumN, sumN_list f k, List.range_succ, List.map_append, List.sum_append]; simp
theorem sum_perm {A B : List Nat} (h : A.Perm B) : A.sum = B.sum := by
  induction h with
  | nil => rfl
  | cons x _ ih => simp [ih]
  | swap x y l => simp; omega
  | trans _ _ h1 h2 => rw [h1, h2]
theorem nodup_perm {A B : List Nat} (hA : A.Nodup) (hB : B.Nodup) (h : ∀ x, x ∈ A ↔ x ∈ B) : A.Perm B := (List.perm_ext_iff_of_nodup hA hB).2 h
/-- a sum over all places, taken in another order -/
theorem sumN_perm (f : Nat → Nat) (n : Nat) (s t : Nat → Nat) (hs : ∀ i, i < n → s i < n) (ht : ∀ i, i < n → t i < n) (h1 : ∀ i, i < n → t (s i) = i) (h2 : ∀ i, i < n → s (t i) = i) : sumN (fun i => f (s i)) n = sumN f n := by
  rw [sumN_list, sumN_list, show (List.range n).map (fun i => f (s i)) = ((List.range n).map s).map f by simp]
  refine sum_perm (List.Perm.map f (nodup_perm ?_ List.nodup_range fun x => ?_))
  · unfold List.Nodup
    rw [List.pairwise_map]
    refine List.Pairwise.imp_of_mem ?_ List.nodup_range
    intro a b ha hb hab e
    have h3 := h1 a (List.mem_range.1 ha)
    rw [e, h1 b (List.mem_range.1 hb)] at h3
    exact hab h3.symm
  · rw [List.mem_map, List.mem_range]
    constructor
    · rintro ⟨i, hi, rfl⟩
      exact hs i (List.mem_range.1 hi)
    · intro hx
      exact ⟨t x, List.mem_range.2 (ht x hx), h2 x hx⟩

/-- the pair a, b does not agree, a ahead of b -/
def pr (L : List Int) (b a : Nat) : Nat := if a < b ∧ L[a]?.getD 0 < L[b]?.getD 0 then 1 else 0
theorem rowP_sum {L : List Int} (h : ordB L = true) {b : Nat} (hb : b < L.length) : ∀ a, a ≤ b → rowP L b a = sumN (pr L b) a
  | 0, _ => rfl
  | a + 1, ha => by
    rw [rowP, sumN, rowP_sum h hb a (by omega), agrB_lt h (by omega) hb]
    congr 1
    unfold pr
    have hne : L[a]?.getD 0 ≠ L[b]?.getD 0 := fun e => by
      have := ord_inj h (by omega) hb e
      omega
    by_cases hlt : L[b]?.getD 0 < L[a]?.getD 0
    · rw [decide_eq_true hlt, if_pos rfl, if_neg (by omega)]
    · rw [decide_eq_false hlt, if_neg (by simp), if_pos (by omega)]
theorem pr_high (L : List Int) (b : Nat) : ∀ k, b ≤ k → sumN (pr L b) k = sumN (pr L b) b
  | 0, h => by rw [show b = 0 by omega]
  | k + 1, h => by
    rcases Nat.lt_or_ge k b with h1 | h1
    · rw [show b = k + 1 by omega]
    · rw [sumN, pr_high L b k h1]
      unfold pr
      rw [if_neg (by omega), Nat.add_zero]
theorem totP_sum {L : List Int} (h : ordB L = true) : ∀ b, b ≤ L.length → totP L b = sumN (fun i => sumN (pr L i) L.length) b
  | 0, _ => rfl
  | b + 1, hb => by rw [totP, sumN, totP_sum h b (by omega), rowP_sum h (by omega) b (Nat.le_refl _), pr_high L b L.length (by omega)]
/-- THE OTHER SHIP HAS AS MANY -/
theorem back_pairs {L : List Int} (h : ordB L = true) : totP (backL L) (backL L).length = totP L L.length := by
  have hb := back_ord h
  rw [totP_sum hb _ (Nat.le_refl _), totP_sum h _ (Nat.le_refl _), backL_len]
  obtain ⟨s, hs⟩ : ∃ s : Nat → Nat, s = fun i => L.length - 1 - (L[i]?.getD 0).toNat := ⟨_, rfl⟩
  obtain ⟨t, ht⟩ : ∃ t : Nat → Nat, t = fun p => invN L (L.length - 1 - p) := ⟨_, rfl⟩
  have hs1 : ∀ i, i < L.length → s i < L.length := fun i hi => by rw [hs]; dsimp only; omega
  have ht1 : ∀ i, i < L.length → t i < L.length := fun i hi => by rw [ht]; exact inv_lt h (by omega)
  have h1 : ∀ i, i < L.length → t (s i) = i := fun i hi => by
    have := ord_at h hi
    rw [ht, hs]
    dsimp only
    exact inv_of h hi (by omega) (by omega)
  have h2 : ∀ i, i < L.length → s (t i) = i := fun i hi => by
    have := inv_at h (k := L.length - 1 - i) (by omega)
    rw [ht, hs]
    dsimp only
    rw [this]
    omega
  have hB : ∀ i, i < L.length → (backL L)[s i]?.getD 0 = (L.length : Int) - 1 - i := fun i hi => by
    have e := h1 i hi
    rw [ht] at e
    dsimp only at e
    rw [backL_at L (hs1 i hi), e]
  rw [← sumN_perm (fun q => sumN (pr (backL L) q) L.length) L.length s t hs1 ht1 h1 h2]
  rw [sumN_congr (g := fun k => sumN (fun i => pr L i k) L.length) L.length fun k hk => by
    rw [← sumN_perm (pr (backL L) (s k)) L.length s t hs1 ht1 h1 h2]
    refine sumN_congr _ fun i hi => ?_
    unfold pr
    rw [hB i hi, hB k hk]
    have e1 := ord_at h hi
    have e2 := ord_at h hk
    have e3 : s i = L.length - 1 - (L[i]?.getD 0).toNat := by rw [hs]
    have e4 : s k = L.length - 1 - (L[k]?.getD 0).toNat := by rw [hs]
    by_cases h9 : k < i ∧ L[k]?.getD 0 < L[i]?.getD 0
    · rw [if_pos h9, if_pos (by omega)]
    · rw [if_neg h9, if_neg (by omega)]]
  exact sumN_comm (fun k i => pr L i k) L.length L.length

/-- the pairs that agree -/
def rowA (L : List Int) (b : Nat) : Nat → Nat
  | 0 => 0
  | a + 1 => rowA L b a + if agrB L b a then 1 else 0
def totA (L : List Int) : Nat → Nat
  | 0 => 0
  | b + 1 => totA L b + rowA L b b
theorem rowA_le (L : List Int) (b : Nat) : ∀ a, rowA L b a ≤ a
  | 0 => Nat.le_refl _
  | a + 1 => by
    have := rowA_le L b a
    rw [rowA]
    split <;> omega
theorem totA_le (L : List Int) : ∀ b, b ≤ 10 → totA L b ≤ b * 10
  | 0, _ => Nat.zero_le _
  | b + 1, h => by
    have h1 := totA_le L b (by omega)
    have h2 := rowA_le L b b
    rw [totA]
    omega
theorem row_all (L : List Int) (b : Nat) : ∀ a, rowA L b a + rowP L b a = a
  | 0 => rfl
  | a + 1 => by
    have := row_all L b a
    rw [rowA, rowP, agrB_symm L b a]
    cases agrB L a b <;> simp <;> omega
theorem tot_all (L : List Int) : ∀ b : Nat, 2 * ((totA L b : Int) + totP L b) = (b : Int) * ((b : Int) - 1)
  | 0 => rfl
  | b + 1 => by
    have h1 := tot_all L b
    have h2 := row_all L b b
    rw [totA, totP]
    have h3 : ((b + 1 : Nat) : Int) * (((b + 1 : Nat) : Int) - 1) = (b : Int) * ((b : Int) - 1) + 2 * b := by
      rw [show ((b + 1 : Nat) : Int) = (b : Int) + 1 by omega, show (b : Int) + 1 - 1 = b by omega, Int.add_mul, Int.mul_sub]
      omega
    rw [h3, ← h1]
    omega
/-- all coils agree: they share a tank -/
theorem pairs_one {L : List Int} (h : ordB L = true) : totP L L.length = 0 ↔ cntN L ≤ 1 := by
  constructor
  · intro h0
    have hp : ∀ b, b < L.length → ∀ a, a < b → ¬ L[a]?.getD 0 < L[b]?.getD 0 := fun b hb a ha hlt => by
      have h1 : ∀ m, m ≤ L.length → b < m → totP L m ≠ 0 := fun m => by
        induction m with
        | zero => intro _ h2; omega
        | succ m ih =>
          intro hm h2 e
          rw [totP] at e
          rcases Nat.lt_or_ge b m with h3 | h3
          · exact ih (by omega) h3 (by omega)
          · obtain rfl : b = m := by omega
            have h4 : ∀ j, a < j → j ≤ b → rowP L b j ≠ 0 := fun j => by
              induction j with
              | zero => intro h5; omega
              | succ j ih2 =>
                intro h5 h6 e2
                rw [rowP] at e2
                rcases Nat.lt_or_ge a j with h7 | h7
                · exact ih2 h7 (by omega) (by omega)
                · obtain rfl : a = j := by omega
                  rw [agrB_lt h ha hb, decide_eq_false (by omega)] at e2
                  simp at e2
            exact h4 b ha (Nat.le_refl _) (by omega)
      exact h1 L.length (Nat.le_refl _) hb h0
    rcases Nat.lt_or_ge 1 (cntN L) with h1 | h1
    · exfalso
      obtain ⟨c, hc, e⟩ := st_has h (t := 1) h1
      obtain ⟨i, hi, _, h3⟩ := st_pred h (t := 0) hc e
      exact hp c hc i hi h3
    · exact h1
  · intro h1
    have h2 : ∀ m, m ≤ L.length → totP L m = 0 := fun m => by
      induction m with
      | zero => intro _; rfl
      | succ m ih =>
        intro hm
        rw [totP, ih (by omega)]
        have h4 : ∀ j, j ≤ m → rowP L m j = 0 := fun j => by
          induction j with
          | zero => intro _; rfl
          | succ j ih2 =>
            intro hj
            have h5 : L[m]?.getD 0 < L[j]?.getD 0 := by
              rcases Int.lt_trichotomy (L[m]?.getD 0) (L[j]?.getD 0) with h6 | h6 | h6
              · exact h6
              · have := ord_inj h (show m < L.length by omega) (show j < L.length by omega) h6
                omega
              · have h7 := st_lt h (show j < m by omega) (by omega) h6
                have h8 := st_max h (show m < L.length by omega)
                omega
            rw [rowP, ih2 (by omega), agrB_lt h (by omega) (by omega), decide_eq_true h5]
            rfl
        rw [h4 m (Nat.le_refl _)]
    exact h2 _ (Nat.le_refl _)

/-! ### the longest row -/
theorem lgO_pre (L : List Int) (k : Nat) : ∀ d, ∃ r, lgO L (k + d) = lgO L k ++ r ∧ ∀ j ∈ r, k ≤ j
  | 0 => ⟨[], by simp, fun j h => by simp at h⟩
  | d + 1 => by
    obtain ⟨r, h1, h2⟩ := lgO_pre L k d
    rw [show k + (d + 1) = (k + d) + 1 by omega, lgO]
    split
    · refine ⟨r ++ [k + d], by rw [h1]; simp, fun j hj => ?_⟩
      rcases List.mem_append.1 hj with h | h
      · exact h2 j h
      · have : j = k + d := by simpa using h
        omega
    · exact ⟨r, h1, h2⟩
/-- what holds of it -/
theorem lgO_chain {L : List Int} : ∀ k, k ≤ L.length → (lgO L k).Pairwise (fun a b => a < b ∧ L[a]?.getD 0 < L[b]?.getD 0) ∧ ∀ j, (lgO L k).getLast? = some j → (rowL L j : Int) = cntN L - ((lgO L k).length - 1)
  | 0, _ => ⟨List.Pairwise.nil, fun j h => by simp [lgO] at h⟩
  | k + 1, hk => by
    obtain ⟨h1, h2⟩ := lgO_chain (L := L) k (by omega)
    rw [lgO]
    split
    · rename_i h
      obtain ⟨h3, h4⟩ := h
      refine ⟨List.pairwise_append.2 ⟨h1, by simp, fun a ha b hb => ?_⟩, fun j hj => ?_⟩
      · obtain rfl : b = k := by simpa using hb
        refine ⟨lgO_lt L b a ha, ?_⟩
        cases hl : (lgO L b).getLast? with
        | none => rw [List.getLast?_eq_none_iff] at hl; rw [hl] at ha; simp at ha
        | some m =>
          obtain ⟨q, hq⟩ := List.getLast?_eq_some_iff.1 hl
          have h5 := h4 m hl
          rw [hq] at ha h1
          rcases List.mem_append.1 ha with h6 | h6
          · have := ((List.pairwise_append.1 h1).2.2 a h6 m (by simp)).2
            omega
          · obtain rfl : a = m := by simpa using h6
            exact h5
      · simp at hj
        subst hj
        simp
        omega
    · exact ⟨h1, h2⟩
/-- IT HAS AS MANY COILS AS THE LEAST TANKS -/
theorem lgO_full {L : List Int} (h : ordB L = true) : (lgO L L.length).length = cntN L := by
  have hle : (lgO L L.length).length ≤ cntN L := by
    obtain ⟨h1, _⟩ := lgO_chain (L := L) L.length (Nat.le_refl _)
    have h2 := nodup_len (A := (lgO L L.length).map fun j => (stN L j : Int)) (B := (List.range (cntN L)).map fun (j : Nat) => (j : Int)) (by
      unfold List.Nodup
      rw [List.pairwise_map]
      refine List.Pairwise.imp_of_mem ?_ h1
      intro a b ha hb hab e
      have := st_lt h hab.1 (lgO_lt L _ b hb) hab.2
      omega) (fun x hx => by
      obtain ⟨j, hj, rfl⟩ := List.mem_map.1 hx
      exact List.mem_map.2 ⟨stN L j, List.mem_range.2 (st_max h (lgO_lt L _ j hj)), rfl⟩)
    simpa using h2
  rcases Nat.lt_or_ge (lgO L L.length).length (cntN L) with hlt | hge
  · exfalso
    -- the next coil
    obtain ⟨c, hc, hrow, hlast⟩ : ∃ c, c < L.length ∧ (rowL L c : Int) = cntN L - (lgO L L.length).length ∧ ∀ j, (lgO L L.length).getLast? = some j → j < c ∧ L[j]?.getD 0 < L[c]?.getD 0 := by
      cases hl : (lgO L L.length).getLast? with
      | none =>
        rw [List.getLast?_eq_none_iff] at hl
        rw [hl] at hlt ⊢
        obtain ⟨c, hc, h3⟩ := st_has h (t := cntN L - 1) (by simp at hlt; omega)
        obtain ⟨i, hi, h4, h5⟩ := row_has h _ c hc h3
        have h6 := row_le h hi
        have h7 := rowL_pos hc
        exact ⟨i, hi, by simp at hlt ⊢; omega, fun j hj => by cases hj⟩
      | some j =>
        have h3 := (lgO_chain (L := L) L.length (Nat.le_refl _)).2 j hl
        have hjm : j ∈ lgO L L.length := by
          obtain ⟨q, hq⟩ := List.getLast?_eq_some_iff.1 hl
          rw [hq]; simp
        have hjl := lgO_lt L _ j hjm
        have hp : 0 < (lgO L L.length).length := List.length_pos_iff.2 (List.ne_nil_of_mem hjm)
        rcases rowL_next hjl with h4 | ⟨i, h4, h5, h6, h7⟩
        · omega
        · exact ⟨i, h5, by omega, fun m hm => by injection hm with hm; subst hm; exact ⟨h4, h6⟩⟩
    obtain ⟨r, h1, h2⟩ := lgO_pre L c (L.length - c)
    rw [show c + (L.length - c) = L.length by omega] at h1
    have hr : r = [] := by
      cases hrr : r.getLast? with
      | none => exact List.getLast?_eq_none_iff.1 hrr
      | some m =>
        have h3 : (lgO L L.length).getLast? = some m := by
          rw [h1, List.getLast?_append, hrr]
          rfl
        have h4 := hlast m h3
        have h5 := h2 m (by obtain ⟨q, hq⟩ := List.getLast?_eq_some_iff.1 hrr; rw [hq]; simp)
        omega
    rw [hr, List.append_nil] at h1
    obtain ⟨r2, h3, h4⟩ := lgO_pre L (c + 1) (L.length - (c + 1))
    rw [show c + 1 + (L.length - (c + 1)) = L.length by omega] at h3
    have h5 : lgO L (c + 1) = lgO L c ++ [c] := by
      rw [lgO, if_pos]
      refine ⟨by rw [← h1]; exact hrow, fun j hj => (hlast j (by rw [h1]; exact hj)).2⟩
    rw [h5, h1] at h3
    have := congrArg List.length h3
    simp at this
  · omega
/-- each other coil agrees with one of them -/
theorem lgO_max {L : List Int} (h : ordB L = true) {c : Nat} (hc : c < L.length) (hn : c ∉ lgO L L.length) : ∃ j ∈ lgO L L.length, agrB L c j = true := by
  by_cases hex : ∃ j ∈ lgO L L.length, agrB L c j = true
  · exact hex
  · exfalso
    have hno : ∀ j ∈ lgO L L.length, stN L j ≠ stN L c := fun j hj e => by
      have hjl := lgO_lt L _ j hj
      have hag : agrB L c j = false := by
        cases ha : agrB L c j
        · rfl
        · exact absurd ⟨j, hj, ha⟩ hex
      rcases Nat.lt_trichotomy j c with h1 | h1 | h1
      · rw [agrB_gt h h1 hc] at hag
        have hne : L[j]?.getD 0 ≠ L[c]?.getD 0 := fun e2 => by have := ord_inj h hjl hc e2; omega
        have := st_lt h h1 hc (by simp at hag; omega)
        omega
      · subst h1; exact hn hj
      · rw [agrB_lt h h1 hjl] at hag
        have hne : L[j]?.getD 0 ≠ L[c]?.getD 0 := fun e2 => by have := ord_inj h hjl hc e2; omega
        have := st_lt h h1 hjl (by simp at hag; omega)
        omega
    obtain ⟨h1, _⟩ := lgO_chain (L := L) L.length (Nat.le_refl _)
    have h2 := nodup_len (A := (stN L c : Int) :: (lgO L L.length).map fun j => (stN L j : Int)) (B := (List.range (cntN L)).map fun (j : Nat) => (j : Int)) (by
      rw [List.nodup_cons]
      refine ⟨fun hm => ?_, ?_⟩
      · obtain ⟨j, hj, e⟩ := List.mem_map.1 hm
        exact hno j hj (by omega)
      · unfold List.Nodup
        rw [List.pairwise_map]
        refine List.Pairwise.imp_of_mem ?_ h1
        intro a b ha hb hab e
        have := st_lt h hab.1 (lgO_lt L _ b hb) hab.2
        omega) (fun x hx => by
      rcases List.mem_cons.1 hx with rfl | hx
      · exact List.mem_map.2 ⟨stN L c, List.mem_range.2 (st_max h hc), rfl⟩
      · obtain ⟨j, hj, rfl⟩ := List.mem_map.1 hx
        exact List.mem_map.2 ⟨stN L j, List.mem_range.2 (st_max h (lgO_lt L _ j hj)), rfl⟩)
    simp [lgO_full h] at h2
    omega
theorem lgO_empty {L : List Int} (h : ordB L = true) : (lgO L L.length).length = 0 ↔ L.length = 0 := by
  rw [lgO_full h]
  constructor
  · intro h1
    rcases Nat.eq_zero_or_pos L.length with h2 | h2
    · exact h2
    · have := st_max h h2
      omega
  · intro h1
    have := cnt_le L
    omega

/-! ### paid out, and the other ship's stowage -/
theorem outL_at {L T : List Int} (h : ordB L = true) {i : Nat} (hi : i < L.length) : (outL L T L.length)[(L[i]?.getD 0).toNat]?.getD 0 = T[i]?.getD 0 := by
  have h1 := ord_at h hi
  unfold outL
  rw [List.getElem?_map, List.getElem?_range (by omega)]
  show T[invN L (L[i]?.getD 0).toNat]?.getD 0 = _
  rw [inv_of h hi (by omega) (by omega)]
theorem outL_get (L T : List Int) {k : Nat} (hk : k < L.length) : (outL L T L.length)[k]?.getD 0 = T[invN L k]?.getD 0 := by
  unfold outL
  rw [List.getElem?_map, List.getElem?_range hk]
  rfl
theorem rev_at {X : List Int} {n k : Nat} (hn : X.length = n) (hk : k < n) : X.reverse[k]?.getD 0 = X[n - 1 - k]?.getD 0 := by
  subst hn
  rw [List.getElem?_reverse hk]
theorem back_stow {L T : List Int} (hs : stowB L T = true) : stowB (backL L) (outL L T L.length).reverse = true := by
  have h := stow_ord hs
  have hl := outL_len L T L.length
  have hat : ∀ k, k < L.length → (outL L T L.length).reverse[k]?.getD 0 = T[invN L (L.length - 1 - k)]?.getD 0 := fun k hk => by
    rw [rev_at hl hk, outL_get L T (by omega)]
  refine stowB_true.2 ⟨baseB_true.2 ⟨back_ord h, by rw [List.length_reverse, hl, backL_len], fun j hj => ?_⟩, fun i hi k hk e => ?_⟩
  · rw [backL_len] at hj
    rw [hat j hj]
    exact stow_at hs (inv_lt h (by omega))
  · rw [backL_len] at hi
    rw [hat i hi, hat k (by omega)] at e
    rw [backL_at L hi, backL_at L (by omega)]
    have a1 := inv_lt h (show L.length - 1 - i < L.length by omega)
    have b1 := inv_lt h (show L.length - 1 - k < L.length by omega)
    have a2 := inv_at h (show L.length - 1 - i < L.length by omega)
    have b2 := inv_at h (show L.length - 1 - k < L.length by omega)
    rcases Nat.lt_trichotomy (invN L (L.length - 1 - i)) (invN L (L.length - 1 - k)) with h1 | h1 | h1
    · have := (stowB_true.1 hs).2 _ b1 _ h1 e.symm
      omega
    · rw [h1] at a2
      omega
    · omega

end Go.Proofs.Ytodboccadccpfaa
