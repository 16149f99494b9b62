/-
  Mathematics of crossings for the laws: a chart without one route, orders with two neighbors exchanged. Nothing here speaks of the program.
-/
import Derived.Test.YtjboamhjfncgdaaRtQ
namespace Go.Proofs.Ytjboamhjfncgdaa

/-! ### counting crossings by routes -/
def cntR (r : Rot) (l : List Rot) : Nat := (l.map fun s => one (crB s r)).sum
def pcR : List Rot → Nat
  | [] => 0
  | r :: l => cntR r l + pcR l
theorem cntR_append (r : Rot) (a b : List Rot) : cntR r (a ++ b) = cntR r a + cntR r b := by unfold cntR; rw [List.map_append, List.sum_append]
theorem cntR_cons (r s : Rot) (l : List Rot) : cntR r (s :: l) = one (crB s r) + cntR r l := rfl
theorem pcR_mid (r : Rot) : ∀ (a b : List Rot), pcR (a ++ r :: b) = pcR (a ++ b) + cntR r a + cntR r b
  | [], b => by simp [pcR, cntR]; omega
  | s :: a, b => by
    show cntR s (a ++ r :: b) + pcR (a ++ r :: b) = cntR s (a ++ b) + pcR (a ++ b) + cntR r (s :: a) + cntR r b
    rw [pcR_mid r a b, cntR_append, cntR_append, cntR_cons, cntR_cons, crB_comm r s]; omega
theorem rotAt_append {a : List Rot} {r : Rot} {b : List Rot} {k : Nat} (h : k < a.length) : rotAt (a ++ r :: b) k = rotAt a k := by unfold rotAt; rw [List.getElem?_append_left h]
theorem crsN_snoc (a : List Rot) (r : Rot) : crsN (a ++ [r]) (a.length + 1) = crsN a a.length + cntR r a := by
  have h1 : crsN (a ++ [r]) (a.length + 1) = crsN (a ++ [r]) a.length + crsTo (a ++ [r]) a.length a.length := sumTo_succ _ _
  have h2 : crsN (a ++ [r]) a.length = crsN a a.length := sumTo_congr fun i hi => sumTo_congr fun k hk => by
    unfold crI; rw [rotAt_append hi, rotAt_append (by omega)]
  have h3 : ∀ m, m ≤ a.length → crsTo (a ++ [r]) a.length m = cntR r (a.take m) := fun m => by
    induction m with
    | zero => intro _; rfl
    | succ m ih =>
      intro hm
      have e : crsTo (a ++ [r]) a.length (m + 1) = crsTo (a ++ [r]) a.length m + one (crI (a ++ [r]) a.length m) := sumTo_succ _ _
      rw [e, ih (by omega), List.take_succ_eq_append_getElem (by omega), cntR_append]
      have e2 : crI (a ++ [r]) a.length m = crB a[m] r := by
        unfold crI
        rw [show rotAt (a ++ [r]) a.length = r by unfold rotAt; simp, rotAt_append (k := m) (b := []) (by omega), rotAt_lt (show m < a.length by omega), crB_comm]
      rw [e2]; rfl
  rw [h1, h2, h3 a.length (Nat.le_refl _), List.take_length]
theorem pcR_snoc (a : List Rot) (r : Rot) : pcR (a ++ [r]) = pcR a + cntR r a := by
  have := pcR_mid r a []
  rw [List.append_nil] at this
  rw [this]; rfl
theorem crs_pc (R : List Rot) : crsN R R.length = pcR R := by
  have h : ∀ m, m ≤ R.length → crsN (R.take m) (R.take m).length = pcR (R.take m) := fun m => by
    induction m with
    | zero => intro _; rfl
    | succ m ih =>
      intro hm
      have e : R.take (m + 1) = R.take m ++ [R[m]] := List.take_succ_eq_append_getElem (by omega)
      rw [e, List.length_append, List.length_singleton, crsN_snoc, pcR_snoc, ih (by omega)]
  have := h R.length (Nat.le_refl _)
  rwa [List.take_length] at this
theorem cnt_sum (R : List Rot) (k : Nat) : sumTo (fun i => one (crI R i k)) R.length = cntR (rotAt R k) R := by
  have h : ∀ m, m ≤ R.length → sumTo (fun i => one (crI R i k)) m = cntR (rotAt R k) (R.take m) := fun m => by
    induction m with
    | zero => intro _; rfl
    | succ m ih =>
      intro hm
      rw [sumTo_succ, ih (by omega), List.take_succ_eq_append_getElem (by omega), cntR_append]
      have : crI R m k = crB R[m] (rotAt R k) := by unfold crI; rw [rotAt_lt (show m < R.length by omega)]
      rw [this]; rfl
  have := h R.length (Nat.le_refl _)
  rwa [List.take_length] at this
theorem rsplit_at {R : List Rot} {k : Nat} (hk : k < R.length) : R = R.take k ++ rotAt R k :: R.drop (k + 1) := by
  rw [rotAt_lt hk, ← List.drop_eq_getElem_cons hk, List.take_append_drop]
/-- without one route: as many fewer as cross it -/
theorem crs_drop {R : List Rot} {k : Nat} (hk : k < R.length) : crsN (R.take k ++ R.drop (k + 1)) (R.take k ++ R.drop (k + 1)).length + sumTo (fun i => one (crI R i k)) R.length = crsN R R.length := by
  rw [crs_pc, crs_pc, cnt_sum]
  have h1 := pcR_mid (rotAt R k) (R.take k) (R.drop (k + 1))
  rw [← rsplit_at hk] at h1
  have h2 : cntR (rotAt R k) R = cntR (rotAt R k) (R.take k) + cntR (rotAt R k) (R.drop (k + 1)) := by
    have h3 := congrArg (cntR (rotAt R k)) (rsplit_at hk)
    rw [cntR_append, cntR_cons, crB_own] at h3
    simpa [one] using h3
  omega

/-! ### orders -/
theorem freeB_mem {R : List Rot} {L : List Int} {k : Nat} : freeB R L k = true ↔ (∀ i ∈ abvN R k, (i : Int) ∈ L) ∧ (k : Int) ∉ L := by
  unfold freeB inL
  rw [Bool.and_eq_true, List.all_eq_true]
  simp
theorem freeB_same {R : List Rot} {L M : List Int} (h : ∀ x : Int, x ∈ L ↔ x ∈ M) (k : Nat) : freeB R L k = freeB R M k := by
  refine Bool.eq_iff_iff.2 ?_
  rw [freeB_mem, freeB_mem]
  simp only [h]
theorem freeAt_same {R : List Rot} {L M : List Int} (h : ∀ x : Int, x ∈ L ↔ x ∈ M) (x : Int) : freeAt R L x = freeAt R M x := by unfold freeAt; rw [freeB_same h]
theorem freeAt_is {R : List Rot} {L : List Int} {x : Int} (h : freeAt R L x = true) : ∃ k : Nat, x = (k : Int) ∧ k < R.length ∧ freeB R L k = true := by
  unfold freeAt at h
  rw [Bool.and_eq_true, inB_true] at h
  obtain ⟨⟨h1, h2⟩, h3⟩ := h
  exact ⟨x.toNat, by omega, by omega, h3⟩
/-- in an order of lifting, what lies on a route comes ahead of it -/
theorem lift_above {R : List Rot} {O : List Int} (h : liftB R O = true) {i k : Nat} (hi : i < O.length) (hk : k < i) :
    ∃ a b : Nat, O[k]?.getD 0 = (a : Int) ∧ O[i]?.getD 0 = (b : Int) ∧ a < R.length ∧ b < R.length ∧ b ∉ abvN R a ∧ a ≠ b := by
  obtain ⟨h1, h2, h3⟩ := liftB_true.1 h
  obtain ⟨a, ea, ha, fa⟩ := freeAt_is (h3 k (by omega))
  obtain ⟨b, eb, hb, fb⟩ := freeAt_is (h3 i hi)
  have hm : (a : Int) ∈ O.take i := by
    rw [← ea, List.mem_iff_getElem?]
    exact ⟨k, by rw [List.getElem?_take_of_lt hk]; simp [show k < O.length by omega]⟩
  refine ⟨a, b, ea, eb, ha, hb, fun hab => ?_, fun e => ?_⟩
  · have h4 := (freeB_mem.1 fa).1 b hab
    have h5 := (freeB_mem.1 fb).2
    have : (b : Int) ∈ O.take i := by
      have := List.take_sublist_take_left (l := O) (show k ≤ i by omega)
      exact this.subset h4
    exact h5 this
  · exact (freeB_mem.1 fb).2 (e ▸ hm)
theorem take_succ' {O : List Int} {i : Nat} (h : i < O.length) : O.take (i + 1) = O.take i ++ [O[i]?.getD 0] := by
  rw [List.take_succ_eq_append_getElem h]; simp [h]
theorem swapI_at1 (O : List Int) {i : Nat} (h : i + 1 < O.length) : (swapI O i)[i + 1]?.getD 0 = O[i]?.getD 0 := by
  unfold swapI
  rw [List.getElem?_set_ne (by omega), List.getElem?_set_self (by omega)]; rfl
theorem swapI_other (O : List Int) {i j : Nat} (h1 : j ≠ i) (h2 : j ≠ i + 1) : (swapI O i)[j]? = O[j]? := by
  unfold swapI
  rw [List.getElem?_set_ne (by omega), List.getElem?_set_ne (by omega)]
theorem swapI_take1 (O : List Int) {i : Nat} (h : i + 1 < O.length) : (swapI O i).take (i + 1) = O.take i ++ [O[i + 1]?.getD 0] := by
  rw [take_succ' (by rw [swapI_len]; omega), swapI_take, swapI_at _ h]
theorem swapI_mem (O : List Int) {i : Nat} (h : i + 1 < O.length) : ∀ d (x : Int), i + 2 + d ≤ O.length → (x ∈ (swapI O i).take (i + 2 + d) ↔ x ∈ O.take (i + 2 + d))
  | 0, x, _ => by
    rw [show i + 2 + 0 = (i + 1) + 1 by omega, take_succ' (by rw [swapI_len]; omega), swapI_take1 _ h, swapI_at1 _ h, take_succ' h, take_succ' (show i < O.length by omega)]
    simp only [List.mem_append, List.mem_singleton]
    constructor
    · rintro ((h | h) | h)
      · exact .inl (.inl h)
      · exact .inr h
      · exact .inl (.inr h)
    · rintro ((h | h) | h)
      · exact .inl (.inl h)
      · exact .inr h
      · exact .inl (.inr h)
  | d + 1, x, hd => by
    have ih := swapI_mem O h d x (by omega)
    rw [show i + 2 + (d + 1) = (i + 2 + d) + 1 by omega, take_succ' (by rw [swapI_len]; omega), take_succ' (show i + 2 + d < O.length by omega), swapI_other _ (by omega) (by omega)]
    rw [List.mem_append, List.mem_append, ih]
/-- two neighbors that do not cross can be exchanged, two that cross cannot -/
theorem lift_swap {R : List Rot} {O : List Int} (h : liftB R O = true) {i : Nat} (hi : i + 1 < O.length) :
    liftB R (swapI O i) = !crossB R (O[i]?.getD 0) (O[i + 1]?.getD 0) := by
  obtain ⟨a, b, ea, eb, ha, hb, hab, hne⟩ := lift_above h hi (Nat.lt_succ_self i)
  obtain ⟨h1, h2, h3⟩ := liftB_true.1 h
  have hcr : crossB R (O[i]?.getD 0) (O[i + 1]?.getD 0) = crI R a b := by
    unfold crossB
    rw [ea, eb, hasR_nat h1 ha, hasR_nat h1 hb, Int.toNat_natCast, Int.toNat_natCast]; rfl
  rw [hcr]
  have fa := h3 i (by omega)
  have fb := h3 (i + 1) hi
  rw [ea, freeAt_nat ha, freeB_mem] at fa
  rw [eb, freeAt_nat hb, take_succ' (show i < O.length by omega), ea, freeB_mem] at fb
  cases hc : crI R a b
  · refine liftB_true.2 ⟨h1, by rw [swapI_len]; exact h2, fun j hj => ?_⟩
    rw [swapI_len] at hj
    rcases (by omega : j < i ∨ j = i ∨ j = i + 1 ∨ i + 1 < j) with hj2 | rfl | rfl | hj2
    · have e1 : (swapI O i).take j = O.take j := by
        have := congrArg (List.take j) (swapI_take O i)
        rwa [List.take_take, List.take_take, Nat.min_eq_left (by omega)] at this
      rw [e1, swapI_other _ (by omega) (by omega)]
      exact h3 j hj
    · rw [swapI_take, swapI_at _ hi, eb, freeAt_nat hb, freeB_mem]
      refine ⟨fun x hx => ?_, fun hx => fb.2 (List.mem_append.2 (.inl hx))⟩
      rcases List.mem_append.1 (fb.1 x hx) with h4 | h4
      · exact h4
      · rw [List.mem_singleton] at h4
        have : x = a := by omega
        rw [this] at hx
        have := (abvN_mem.1 hx).2.2
        rw [hc] at this; cases this
    · rw [swapI_take1 _ hi, swapI_at1 _ hi, ea, eb, freeAt_nat ha, freeB_mem]
      refine ⟨fun x hx => List.mem_append.2 (.inl (fa.1 x hx)), fun hx => ?_⟩
      rcases List.mem_append.1 hx with h4 | h4
      · exact fa.2 h4
      · rw [List.mem_singleton] at h4; omega
    · have e1 : ∀ x : Int, x ∈ (swapI O i).take j ↔ x ∈ O.take j := fun x => by
        have := swapI_mem O hi (j - (i + 2)) x (by omega)
        rwa [show i + 2 + (j - (i + 2)) = j by omega] at this
      rw [freeAt_same e1, swapI_other _ (by omega) (by omega)]
      exact h3 j hj
  · -- a lies on b, as b does not lie on a
    have hin : a ∈ abvN R b := by
      refine abvN_mem.2 ⟨?_, ha, hc⟩
      rcases (by omega : b < a ∨ a < b) with h4 | h4
      · exact h4
      · exact absurd (abvN_mem.2 ⟨h4, hb, by rw [crI_comm]; exact hc⟩) hab
    refine lift_not (j := i) (by rw [swapI_len]; omega) ?_
    rw [swapI_take, swapI_at _ hi, eb, freeAt_nat hb]
    exact Bool.eq_false_iff.2 fun h4 => fa.2 ((freeB_mem.1 h4).1 a hin)

end Go.Proofs.Ytjboamhjfncgdaa
