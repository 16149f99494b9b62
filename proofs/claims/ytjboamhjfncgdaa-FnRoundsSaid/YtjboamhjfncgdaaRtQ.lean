/-
  Mathematics of crossings for the laws: a route from its other end, the first order is valid and the least one, turned charts. Nothing here speaks of the program.
-/
import Derived.Test.YtjboamhjfncgdaaRtN
namespace Go.Proofs.Ytjboamhjfncgdaa

def backR (r : Rot) : Rot := ⟨r.c, r.d, r.a, r.b⟩
theorem rtOk_true {r : Rot} : rtOk r = true ↔ onB r.a r.b = true ∧ onB r.c r.d = true ∧ (r.a ≠ r.c ∨ r.b ≠ r.d) := by
  unfold rtOk; simp only [Bool.and_eq_true, Bool.or_eq_true, decide_eq_true_eq]
  exact ⟨fun ⟨⟨a, b⟩, c⟩ => ⟨a, b, c⟩, fun ⟨a, b, c⟩ => ⟨⟨a, b⟩, c⟩⟩
theorem rtOk_back {r : Rot} (h : rtOk r = true) : chartB [backR r] = true := by
  obtain ⟨h1, h2, h3⟩ := rtOk_true.1 h
  have : rtOk (backR r) = true := rtOk_true.2 ⟨h2, h1, by
    rcases h3 with h | h
    · exact .inl (fun e => h e.symm)
    · exact .inr (fun e => h e.symm)⟩
  unfold chartB; simp [this]

/-! ### turned charts -/
def turnR (r : Rot) : Rot := ⟨r.b, r.a, r.d, r.c⟩
def turnL (R : List Rot) : List Rot := R.map turnR
theorem turnL_len (R : List Rot) : (turnL R).length = R.length := by simp [turnL]
theorem turn_turn (R : List Rot) : turnL (turnL R) = R := by unfold turnL; rw [List.map_map]; exact List.map_id'' (fun r => by cases r; rfl) R
theorem turnL_at {R : List Rot} {k : Nat} (h : k < R.length) : rotAt (turnL R) k = turnR (rotAt R k) := by
  rw [rotAt_lt h, rotAt_lt (by rw [turnL_len]; exact h)]; simp [turnL]
theorem on_turn (x y : Int) : onB x y = onB y x := by unfold onB; exact Bool.and_comm _ _
theorem rtOk_turn (r : Rot) : rtOk (turnR r) = rtOk r := by
  unfold rtOk turnR
  dsimp only
  rw [on_turn r.b, on_turn r.d, Bool.or_comm]
theorem chart_turn (R : List Rot) : chartB (turnL R) = chartB R := by
  unfold chartB
  rw [turnL_len]
  congr 1
  unfold turnL
  rw [List.all_map]
  congr 1
  funext r
  exact rtOk_turn r
theorem side_turn (r : Rot) (x y : Int) : sideV (turnR r) y x = - sideV r x y := by
  unfold sideV turnR
  dsimp only
  rw [← sgn_minus]
  congr 1
  omega
theorem part_turn (r s : Rot) : partB (turnR r) (turnR s) = partB r s := by
  unfold partB
  have e1 : sideV (turnR r) (turnR s).a (turnR s).b = - sideV r s.a s.b := side_turn r s.a s.b
  have e2 : sideV (turnR r) (turnR s).c (turnR s).d = - sideV r s.c s.d := side_turn r s.c s.d
  rw [e1, e2, Int.neg_mul_neg]
theorem cr_turn (r s : Rot) : crB (turnR r) (turnR s) = crB r s := by unfold crB; rw [part_turn, part_turn]
theorem crI_turn {R : List Rot} {i k : Nat} (hi : i < R.length) (hk : k < R.length) : crI (turnL R) i k = crI R i k := by
  unfold crI; rw [turnL_at hi, turnL_at hk, cr_turn]
theorem hasR_turn (R : List Rot) (k : Int) : hasR (turnL R) k = hasR R k := by unfold hasR; rw [chart_turn, turnL_len]
theorem crossB_turn (R : List Rot) (i k : Int) : crossB (turnL R) i k = crossB R i k := by
  unfold crossB
  rw [hasR_turn, hasR_turn]
  cases hi : hasR R i
  · rfl
  cases hk : hasR R k
  · rfl
  have h1 := hasR_true.1 hi
  have h2 := hasR_true.1 hk
  rw [crI_turn (by omega) (by omega)]
theorem abvN_turn {R : List Rot} {k : Nat} (hk : k < R.length) : abvN (turnL R) k = abvN R k := by
  unfold abvN abvTo
  rw [turnL_len]
  refine List.filter_congr fun i hi => ?_
  have := List.mem_range'_1.1 hi
  exact crI_turn (by omega) hk
theorem freeB_turn {R : List Rot} {L : List Int} {k : Nat} (hk : k < R.length) : freeB (turnL R) L k = freeB R L k := by unfold freeB; rw [abvN_turn hk]
theorem freeN_turn (R : List Rot) (L : List Int) : freeN (turnL R) L = freeN R L := by
  unfold freeN
  rw [turnL_len]
  exact List.filter_congr fun i hi => freeB_turn (List.mem_range.1 hi)
theorem leftN_turn (R : List Rot) (L : List Int) : leftN (turnL R) L = leftN R L := by unfold leftN; rw [turnL_len]
theorem ordF_turn (R : List Rot) : ∀ k, ordF (turnL R) k = ordF R k
  | 0 => rfl
  | k + 1 => by rw [ordF, ordF, ordF_turn R k]; unfold firstN; rw [freeN_turn]
theorem firstV_turn (R : List Rot) : firstV (turnL R) = firstV R := by unfold firstV; rw [chart_turn, turnL_len, ordF_turn]
theorem rndF_turn (R : List Rot) (most : Nat) : ∀ f L, rndF (turnL R) most f L = rndF R most f L
  | 0, _ => rfl
  | f + 1, L => by rw [rndF, rndF, leftN_turn, freeN_turn, rndF_turn R most f]
theorem rdsV_turn (R : List Rot) : rdsV (turnL R) = rdsV R := by unfold rdsV rdsN; rw [chart_turn, turnL_len, rndF_turn]
theorem sumTo_congr' {f g : Nat → Nat} {m : Nat} (h : ∀ k, k < m → f k = g k) : sumTo f m = sumTo g m := sumTo_congr h
theorem crsV_turn (R : List Rot) : crsV (turnL R) = crsV R := by
  unfold crsV
  rw [chart_turn, turnL_len]
  have : crsN (turnL R) R.length = crsN R R.length := sumTo_congr fun i hi => sumTo_congr fun k hk => by rw [crI_turn hi (by omega)]
  rw [this]

/-! ### the first order -/
theorem ordF_free {R : List Rot} {i : Nat} (hi : i < R.length) : freeAt R (ordF R i) (firstN R (ordF R i) : Int) = true := by
  have h := freeN_mem.1 (firstN_mem (ordF_more R hi))
  rw [freeAt_nat h.1]; exact h.2
theorem ordF_valid {R : List Rot} (h : chartB R = true) : liftB R (ordF R R.length) = true := by
  refine liftB_true.2 ⟨h, ordF_len R _, fun i hi => ?_⟩
  rw [ordF_len] at hi
  rw [ordF_take R _ i (by omega), ordF_at R hi]
  exact ordF_free hi
/-- two neighbors exchanged -/
def swapI (O : List Int) (i : Nat) : List Int := (O.set (i + 1) (O[i]?.getD 0)).set i (O[i + 1]?.getD 0)
theorem swapI_len (O : List Int) (i : Nat) : (swapI O i).length = O.length := by simp [swapI]
theorem swapI_take (O : List Int) (i : Nat) : (swapI O i).take i = O.take i := by
  unfold swapI
  rw [List.take_set_of_le (Nat.le_refl _), List.take_set_of_le (by omega)]
theorem swapI_at (O : List Int) {i : Nat} (h : i + 1 < O.length) : (swapI O i)[i]?.getD 0 = O[i + 1]?.getD 0 := by
  unfold swapI
  rw [List.getElem?_set_self (by simp; omega)]; rfl
theorem ordF_least {R : List Rot} {i : Nat} (hi : i + 1 < R.length) (hlt : (ordF R R.length)[i + 1]?.getD 0 < (ordF R R.length)[i]?.getD 0) : liftB R (swapI (ordF R R.length) i) = false := by
  refine lift_not (j := i) (by rw [swapI_len, ordF_len]; omega) ?_
  rw [swapI_take, swapI_at _ (by rw [ordF_len]; omega), ordF_take R _ i (by omega)]
  rw [ordF_at R hi, ordF_at R (by omega)] at hlt
  rw [ordF_at R hi]
  have h1 := freeN_mem.1 (firstN_mem (ordF_more R hi))
  rw [freeAt_nat h1.1]
  exact firstN_least (by omega)
/-- without crossings nothing lies on any other one -/
theorem crs_none {R : List Rot} (h : crsN R R.length = 0) {k : Nat} (hk : k < R.length) : abvN R k = [] := by
  rw [← crs_abv] at h
  have : ∀ m, m ≤ R.length → sumTo (fun k => (abvN R k).length) m = 0 → ∀ k, k < m → (abvN R k).length = 0 := fun m => by
    induction m with
    | zero => intro _ _ k hk; omega
    | succ m ih =>
      intro hm h0 k hk
      rw [sumTo_succ] at h0
      rcases (by omega : k < m ∨ k = m) with h1 | rfl
      · exact ih (by omega) (by omega) k h1
      · omega
  exact List.eq_nil_of_length_eq_zero (this R.length (Nat.le_refl _) h k hk)
theorem ordF_plain {R : List Rot} (h : crsN R R.length = 0) : ∀ k, k ≤ R.length → ordF R k = ints (List.range k)
  | 0, _ => rfl
  | k + 1, hk => by
    have ih := ordF_plain h k (by omega)
    have hf : freeB R (ordF R k) k = true := by
      unfold freeB
      rw [crs_none h (by omega), ih]
      simp [inL, ints_mem]
    have := firstN_is (ordF_more R (k := k) (by omega)) hf fun j hj => by
      unfold freeB
      have : inL (ordF R k) j = true := by rw [ih]; simp [inL, ints_mem, hj]
      rw [this]; simp
    rw [ordF, ← this, ih, List.range_succ, ints_append]; rfl
theorem ordF_up {R : List Rot} (h : crsN R R.length = 0) {i : Nat} (hi : i + 1 < R.length) : (ordF R R.length)[i]?.getD 0 < (ordF R R.length)[i + 1]?.getD 0 := by
  rw [ordF_plain h _ (Nat.le_refl _), ints_at (by simp; omega), ints_at (by simp; omega)]
  simp [show i < R.length by omega, hi]
  omega

/-! ### crossings -/
theorem side_zero {r : Rot} {x y : Int} (h : (x = r.a ∧ y = r.b) ∨ (x = r.c ∧ y = r.d)) : sideV r x y = 0 := by
  rcases h with ⟨rfl, rfl⟩ | ⟨rfl, rfl⟩
  · exact side_own r
  · exact side_end r
/-- with a common end they do not cross -/
theorem cr_common {r s : Rot} (h : (r.a = s.a ∧ r.b = s.b) ∨ (r.a = s.c ∧ r.b = s.d) ∨ (r.c = s.a ∧ r.d = s.b) ∨ (r.c = s.c ∧ r.d = s.d)) : crB r s = false := by
  refine cr_no' ?_
  rcases h with ⟨h1, h2⟩ | ⟨h1, h2⟩ | ⟨h1, h2⟩ | ⟨h1, h2⟩
  · exact .inl (side_zero (.inl ⟨h1.symm, h2.symm⟩))
  · exact .inr (side_zero (.inl ⟨h1.symm, h2.symm⟩))
  · exact .inl (side_zero (.inr ⟨h1.symm, h2.symm⟩))
  · exact .inr (side_zero (.inr ⟨h1.symm, h2.symm⟩))
where
  cr_no' {r s : Rot} (h : sideV r s.a s.b = 0 ∨ sideV r s.c s.d = 0) : crB r s = false := by
    have : partB r s = false := by
      unfold partB
      rcases h with h | h
      · rw [h, Int.zero_mul]; rfl
      · rw [h, Int.mul_zero]; rfl
    unfold crB; rw [this]; rfl
theorem crI_own (R : List Rot) (k : Nat) : crI R k k = false := crB_own _

/-! ### what must be lifted -/
theorem heap_all {R : List Rot} {k : Nat} (hk : k < R.length) (x : Nat) : x ∈ heapTo R k (R.length - (k + 1)) ↔ Up R k x := by
  rw [heap_mem hk _ (by omega)]
  exact ⟨fun h => h.1, fun h => ⟨h, by have := h.lt hk; omega⟩⟩
theorem clr_len {R : List Rot} {k : Nat} : (heapTo R k (R.length - (k + 1))).length = clrN R k + 1 := by
  have := (heap_len R k (R.length - (k + 1))).1
  unfold clrN; omega
theorem Up.trans {R : List Rot} {k i x : Nat} (h : Up R k i) (h2 : Up R i x) : Up R k x := by
  induction h2 with
  | base => exact h
  | step a b _ hb ih => exact .step a b ih hb
theorem clr_less {R : List Rot} {k i : Nat} (hk : k < R.length) (hi : i ∈ abvN R k) : clrN R i < clrN R k := by
  obtain ⟨h1, h2, _⟩ := abvN_mem.1 hi
  have hs := nsub_len (A := k :: heapTo R i (R.length - (i + 1))) (B := heapTo R k (R.length - (k + 1)))
    (List.nodup_cons.2 ⟨fun h => by have := ((heap_all h2 k).1 h).ge; omega, heap_nodup h2 _ (by omega)⟩) fun x hx => by
      rcases List.mem_cons.1 hx with rfl | hx
      · exact (heap_all hk x).2 .base
      · exact (heap_all hk x).2 (Up.trans (.step k i .base hi) ((heap_all h2 x).1 hx))
  rw [List.length_cons, clr_len, clr_len] at hs
  omega
theorem abv_nodup (R : List Rot) (k : Nat) : (abvN R k).Nodup := (List.nodup_range' (step := 1)).sublist List.filter_sublist
theorem clr_abv {R : List Rot} {k : Nat} (hk : k < R.length) : (abvN R k).length ≤ clrN R k := by
  have hs := nsub_len (A := k :: abvN R k) (B := heapTo R k (R.length - (k + 1)))
    (List.nodup_cons.2 ⟨fun h => by have := (abvN_mem.1 h).1; omega, abv_nodup R k⟩) fun x hx => by
      rcases List.mem_cons.1 hx with rfl | hx
      · exact (heap_all hk x).2 .base
      · exact (heap_all hk x).2 (.step k x .base hx)
  rw [List.length_cons, clr_len] at hs
  omega
theorem clr_none {R : List Rot} {k : Nat} (hk : k < R.length) (h : abvN R k = []) : clrN R k = 0 := by
  have hs := nsub_len (A := heapTo R k (R.length - (k + 1))) (B := [k]) (heap_nodup hk _ (by omega)) fun x hx => by
    have hu := (heap_all hk x).1 hx
    have : ∀ x, Up R k x → x = k := fun x hx => by
      induction hx with
      | base => rfl
      | step a b _ hb ih => rw [ih, h] at hb; cases hb
    simp [this x hu]
  rw [clr_len] at hs
  simp at hs
  omega

end Go.Proofs.Ytjboamhjfncgdaa
