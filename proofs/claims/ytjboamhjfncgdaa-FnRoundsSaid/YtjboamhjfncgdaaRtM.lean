/-
  Mathematics of crossings: sides, routes that cross, what lies above, what can be lifted. Nothing here speaks of the program.
-/
import Derived.Test.YtjboamhjfncgdaaMemK
import Derived.Test.YtjboamhjfncgdaaInB
namespace Go.Proofs.Ytjboamhjfncgdaa

def sgn (n : Int) : Int := if 0 < n then 1 else if n < 0 then -1 else 0
theorem sgn_pos {n : Int} (h : 0 < n) : sgn n = 1 := by unfold sgn; rw [if_pos h]
theorem sgn_neg {n : Int} (h : n < 0) : sgn n = -1 := by unfold sgn; rw [if_neg (by omega), if_pos h]
theorem sgn_zero {n : Int} (h : n = 0) : sgn n = 0 := by subst h; rfl
theorem sgn_bd (n : Int) : -1 ≤ sgn n ∧ sgn n ≤ 1 := by
  rcases (by omega : 0 < n ∨ n < 0 ∨ n = 0) with h | h | h
  · rw [sgn_pos h]; decide
  · rw [sgn_neg h]; decide
  · rw [sgn_zero h]; decide
theorem sgn_minus (n : Int) : sgn (-n) = - sgn n := by
  rcases (by omega : 0 < n ∨ n < 0 ∨ n = 0) with h | h | h
  · rw [sgn_pos h, sgn_neg (by omega)]
  · rw [sgn_neg h, sgn_pos (by omega)]; rfl
  · subst h; rfl
def sideV (r : Rot) (x y : Int) : Int := sgn ((r.c - r.a) * (y - r.b) - (r.d - r.b) * (x - r.a))
theorem side_bd (r : Rot) (x y : Int) : -1 ≤ sideV r x y ∧ sideV r x y ≤ 1 := sgn_bd _
theorem sides_bd (u v : Int) (hu : -1 ≤ u ∧ u ≤ 1) (hv : -1 ≤ v ∧ v ≤ 1) : -1 ≤ u * v ∧ u * v ≤ 1 := by
  obtain h | h | h : u = -1 ∨ u = 0 ∨ u = 1 := by omega
  all_goals subst h; omega
theorem rprod_bd (u v : Int) (h1 : -20 ≤ u) (h2 : u ≤ 20) (h3 : -20 ≤ v) (h4 : v ≤ 20) : -400 ≤ u * v ∧ u * v ≤ 400 := by
  have a1 := Int.mul_nonneg (show (0 : Int) ≤ 20 - u by omega) (show (0 : Int) ≤ 20 - v by omega)
  have a2 := Int.mul_nonneg (show (0 : Int) ≤ 20 + u by omega) (show (0 : Int) ≤ 20 + v by omega)
  have a3 := Int.mul_nonneg (show (0 : Int) ≤ 20 - u by omega) (show (0 : Int) ≤ 20 + v by omega)
  have a4 := Int.mul_nonneg (show (0 : Int) ≤ 20 + u by omega) (show (0 : Int) ≤ 20 - v by omega)
  simp only [Int.mul_sub, Int.mul_add, Int.sub_mul, Int.add_mul] at a1 a2 a3 a4
  omega
def partB (r s : Rot) : Bool := decide (sideV r s.a s.b * sideV r s.c s.d < 0)
def crB (r s : Rot) : Bool := partB r s && partB s r
theorem crB_comm (r s : Rot) : crB r s = crB s r := Bool.and_comm _ _
theorem side_own (r : Rot) : sideV r r.a r.b = 0 := sgn_zero (by rw [Int.sub_self, Int.sub_self]; omega)
theorem side_end (r : Rot) : sideV r r.c r.d = 0 := sgn_zero (by rw [Int.mul_comm (r.c - r.a)]; omega)
theorem side_back (r : Rot) (x y : Int) : sideV ⟨r.c, r.d, r.a, r.b⟩ x y = - sideV r x y := by
  unfold sideV
  rw [← sgn_minus]
  congr 1
  have e1 := Int.mul_comm r.c r.d
  have e2 := Int.mul_comm r.a r.d
  have e3 := Int.mul_comm r.b r.c
  have e4 := Int.mul_comm r.b r.a
  simp only [Int.mul_sub, Int.sub_mul]
  omega
theorem crB_own (r : Rot) : crB r r = false := by
  have : partB r r = false := by unfold partB; rw [side_own, Int.zero_mul]; rfl
  unfold crB; rw [this]; rfl
/-- a point of a chart -/
def onB (x y : Int) : Bool := inB x 0 20 && inB y 0 20
theorem onB_true {x y : Int} : onB x y = true ↔ (0 ≤ x ∧ x ≤ 20) ∧ 0 ≤ y ∧ y ≤ 20 := by unfold onB; rw [Bool.and_eq_true, inB_true, inB_true]
def rtOk (r : Rot) : Bool := onB r.a r.b && onB r.c r.d && (decide (r.a ≠ r.c) || decide (r.b ≠ r.d))
/-- all numbers lie on a chart -/
def RtIn (r : Rot) : Prop := ((0 ≤ r.a ∧ r.a ≤ 20) ∧ 0 ≤ r.b ∧ r.b ≤ 20) ∧ (0 ≤ r.c ∧ r.c ≤ 20) ∧ 0 ≤ r.d ∧ r.d ≤ 20
theorem RtIn.of {r : Rot} (h : rtOk r = true) : RtIn r := by
  unfold rtOk at h
  rw [Bool.and_eq_true, Bool.and_eq_true, onB_true, onB_true] at h
  exact h.1
def chartB (R : List Rot) : Bool := R.all rtOk && decide (R.length ≤ 8)
theorem chart_len {R : List Rot} (h : chartB R = true) : R.length ≤ 8 := by
  unfold chartB at h; simp at h; exact h.2
theorem chart_rt {R : List Rot} (h : chartB R = true) {k : Nat} (hk : k < R.length) : rtOk (rotAt R k) = true := by
  unfold chartB at h; simp only [Bool.and_eq_true, List.all_eq_true] at h
  rw [rotAt_lt hk]; exact h.1 _ (List.getElem_mem hk)
theorem chart_in {R : List Rot} (h : chartB R = true) {k : Nat} (hk : k < R.length) : RtIn (rotAt R k) := RtIn.of (chart_rt h hk)
/-- the first k are routes -/
def rtTo (R : List Rot) (k : Nat) : Prop := (R.take k).all rtOk = true
theorem rtTo_zero (R : List Rot) : rtTo R 0 := by simp [rtTo]
theorem rtTo_succ {R : List Rot} {k : Nat} (h : rtTo R k) (hk : k < R.length) (hp : rtOk (rotAt R k) = true) : rtTo R (k + 1) := by
  rw [rotAt_lt hk] at hp
  unfold rtTo at *
  rw [List.take_succ_eq_append_getElem hk, List.all_append, h]; simp [hp]
theorem rtTo_not {R : List Rot} {k : Nat} (hk : k < R.length) (hp : rtOk (rotAt R k) = false) : chartB R = false := by
  rw [rotAt_lt hk] at hp
  have : R.all rtOk = false := by
    apply Bool.eq_false_iff.2
    intro h
    rw [List.all_eq_true] at h
    have := h _ (List.getElem_mem hk)
    rw [hp] at this; cases this
  unfold chartB; rw [this]; rfl
theorem rtTo_all {R : List Rot} (h : rtTo R R.length) : chartB R = decide (R.length ≤ 8) := by
  unfold rtTo at h
  rw [List.take_length] at h
  unfold chartB; rw [h]; rfl
theorem chart_long {R : List Rot} (h : 8 < R.length) : chartB R = false := by unfold chartB; rw [decide_eq_false (by omega), Bool.and_false]

def hasR (R : List Rot) (k : Int) : Bool := chartB R && inB k 0 ((R.length : Int) - 1)
theorem hasR_true {R : List Rot} {k : Int} : hasR R k = true ↔ chartB R = true ∧ 0 ≤ k ∧ k < R.length := by
  unfold hasR; rw [Bool.and_eq_true, inB_true]; constructor
  · rintro ⟨h1, h2, h3⟩; exact ⟨h1, h2, by omega⟩
  · rintro ⟨h1, h2, h3⟩; exact ⟨h1, h2, by omega⟩
theorem hasR_nat {R : List Rot} {k : Nat} (h : chartB R = true) (hk : k < R.length) : hasR R (k : Int) = true := hasR_true.2 ⟨h, by omega, by omega⟩
/-- two routes of a chart cross, by their indexes -/
def crI (R : List Rot) (i k : Nat) : Bool := crB (rotAt R i) (rotAt R k)
theorem crI_comm (R : List Rot) (i k : Nat) : crI R i k = crI R k i := crB_comm _ _
def crossB (R : List Rot) (i k : Int) : Bool := hasR R i && hasR R k && crI R i.toNat k.toNat

/-! ### what lies above -/
def ints (l : List Nat) : List Int := l.map fun (i : Nat) => (i : Int)
theorem ints_length (l : List Nat) : (ints l).length = l.length := by simp [ints]
theorem ints_cons (i : Nat) (l : List Nat) : ints (i :: l) = (i : Int) :: ints l := rfl
theorem ints_append (a b : List Nat) : ints (a ++ b) = ints a ++ ints b := by simp [ints]
theorem ints_mem {l : List Nat} {k : Nat} : (k : Int) ∈ ints l ↔ k ∈ l := by
  unfold ints; rw [List.mem_map]
  exact ⟨fun ⟨i, h, e⟩ => by have : i = k := by omega
                             exact this ▸ h, fun h => ⟨k, h, rfl⟩⟩
theorem ints_mem' {l : List Nat} {x : Int} : x ∈ ints l ↔ ∃ k : Nat, x = (k : Int) ∧ k ∈ l := by
  unfold ints; rw [List.mem_map]
  exact ⟨fun ⟨i, h, e⟩ => ⟨i, e.symm, h⟩, fun ⟨i, e, h⟩ => ⟨i, h, e.symm⟩⟩
theorem ints_at {l : List Nat} {j : Nat} (h : j < l.length) : (ints l)[j]?.getD 0 = ((l[j]?.getD 0 : Nat) : Int) := by
  unfold ints; simp [h]
def abvTo (R : List Rot) (k m : Nat) : List Nat := (List.range' (k + 1) m).filter fun i => crI R i k
theorem abvTo_zero (R : List Rot) (k : Nat) : abvTo R k 0 = [] := rfl
theorem abvTo_yes {R : List Rot} {k m : Nat} (h : crI R (k + 1 + m) k = true) : abvTo R k (m + 1) = abvTo R k m ++ [k + 1 + m] := by
  unfold abvTo; rw [List.range'_1_concat, List.filter_append]; simp [h]
theorem abvTo_no {R : List Rot} {k m : Nat} (h : crI R (k + 1 + m) k = false) : abvTo R k (m + 1) = abvTo R k m := by
  unfold abvTo; rw [List.range'_1_concat, List.filter_append]; simp [h]
/-- the indexes of those that lie on route k -/
def abvN (R : List Rot) (k : Nat) : List Nat := abvTo R k (R.length - (k + 1))
def abvV (R : List Rot) (k : Int) : List Int := if hasR R k then ints (abvN R k.toNat) else []
theorem abvV_no {R : List Rot} {k : Int} (h : hasR R k = false) : abvV R k = [] := by unfold abvV; rw [h]; rfl
theorem abvV_yes {R : List Rot} {k : Nat} (h : hasR R (k : Int) = true) : abvV R (k : Int) = ints (abvN R k) := by unfold abvV; rw [if_pos h, Int.toNat_natCast]
theorem abvTo_len (R : List Rot) (k m : Nat) : (abvTo R k m).length ≤ m := by
  unfold abvTo
  exact Nat.le_trans (List.length_filter_le _ _) (by simp)
theorem abvN_len (R : List Rot) (k : Nat) : (abvN R k).length ≤ R.length := Nat.le_trans (abvTo_len R k _) (by omega)
theorem abvN_mem {R : List Rot} {k i : Nat} : i ∈ abvN R k ↔ k < i ∧ i < R.length ∧ crI R i k = true := by
  unfold abvN abvTo
  rw [List.mem_filter, List.mem_range'_1]
  constructor
  · rintro ⟨⟨h1, h2⟩, h3⟩; exact ⟨by omega, by omega, h3⟩
  · rintro ⟨h1, h2, h3⟩; exact ⟨⟨by omega, by omega⟩, h3⟩
theorem abvV_len (R : List Rot) (k : Int) : (abvV R k).length ≤ R.length := by
  unfold abvV; split
  · rw [ints_length]; exact abvN_len R _
  · simp

/-! ### how many cross -/
def sumTo (f : Nat → Nat) (m : Nat) : Nat := ((List.range m).map f).sum
theorem sumTo_zero (f : Nat → Nat) : sumTo f 0 = 0 := rfl
theorem sumTo_succ (f : Nat → Nat) (m : Nat) : sumTo f (m + 1) = sumTo f m + f m := by
  unfold sumTo; rw [List.range_succ, List.map_append, List.sum_append]; simp
theorem sumTo_add (f g : Nat → Nat) (m : Nat) : sumTo (fun k => f k + g k) m = sumTo f m + sumTo g m := by
  induction m with
  | zero => rfl
  | succ m ih => rw [sumTo_succ, sumTo_succ, sumTo_succ, ih]; omega
theorem sumTo_congr {f g : Nat → Nat} {m : Nat} (h : ∀ k, k < m → f k = g k) : sumTo f m = sumTo g m := by
  induction m with
  | zero => rfl
  | succ m ih => rw [sumTo_succ, sumTo_succ, ih (fun k hk => h k (by omega)), h m (by omega)]
theorem sumTo_le {f : Nat → Nat} {b m : Nat} (h : ∀ k, k < m → f k ≤ b) : sumTo f m ≤ m * b := by
  induction m with
  | zero => simp [sumTo_zero]
  | succ m ih =>
    rw [sumTo_succ, Nat.succ_mul]
    have := ih (fun k hk => h k (by omega))
    have := h m (by omega)
    omega
def one (b : Bool) : Nat := if b then 1 else 0
/-- of the first m routes, those that cross one of them that lies below -/
def crsTo (R : List Rot) (i k : Nat) : Nat := sumTo (fun k => one (crI R i k)) k
def crsN (R : List Rot) (m : Nat) : Nat := sumTo (fun i => crsTo R i i) m
theorem abvTo_count (R : List Rot) (k m : Nat) : (abvTo R k (m + 1)).length = (abvTo R k m).length + one (crI R (k + 1 + m) k) := by
  cases h : crI R (k + 1 + m) k
  · rw [abvTo_no h]; rfl
  · rw [abvTo_yes h]; simp [one]
theorem crs_count (R : List Rot) : ∀ m, sumTo (fun k => (abvTo R k (m - (k + 1))).length) m = crsN R m
  | 0 => rfl
  | m + 1 => by
    rw [sumTo_succ, crsN, sumTo_succ, ← crsN, ← crs_count R m, show m + 1 - (m + 1) = 0 by omega, abvTo_zero]
    rw [show crsTo R m m = sumTo (fun k => one (crI R m k)) m from rfl, ← sumTo_add]
    rw [List.length_nil, Nat.add_zero]
    exact sumTo_congr fun k hk => by
      rw [show m + 1 - (k + 1) = (m - (k + 1)) + 1 by omega, abvTo_count, show k + 1 + (m - (k + 1)) = m by omega]
theorem crs_abv (R : List Rot) : sumTo (fun k => (abvN R k).length) R.length = crsN R R.length := crs_count R R.length
theorem crsTo_le (R : List Rot) (i k : Nat) : crsTo R i k ≤ k := by
  have := sumTo_le (f := fun k => one (crI R i k)) (b := 1) (m := k) (fun j _ => by unfold one; split <;> omega)
  unfold crsTo; omega
theorem crsN_le (R : List Rot) (m : Nat) : crsN R m ≤ m * m := sumTo_le fun k hk => Nat.le_trans (crsTo_le R k k) (by omega)
def crsV (R : List Rot) : Int := if chartB R then (crsN R R.length : Int) else -1
theorem crsV_no {R : List Rot} (h : chartB R = false) : crsV R = -1 := by unfold crsV; rw [h]; rfl
theorem crsV_yes {R : List Rot} (h : chartB R = true) : crsV R = (crsN R R.length : Int) := by unfold crsV; rw [if_pos h]

/-! ### what can be lifted -/
def inL (L : List Int) (k : Nat) : Bool := decide ((k : Int) ∈ L)
def freeB (R : List Rot) (L : List Int) (k : Nat) : Bool := (abvN R k).all (fun i => inL L i) && !inL L k
def freeN (R : List Rot) (L : List Int) : List Nat := (List.range R.length).filter (freeB R L)
/-- those that are left -/
def leftN (R : List Rot) (L : List Int) : List Nat := (List.range R.length).filter fun k => !inL L k
/-- those of a list that can be lifted, as the program finds them -/
def freeL (R : List Rot) : List Nat → List Nat
  | [] => []
  | i :: l => if (l.filter fun j => crI R j i) = [] then i :: freeL R l else freeL R l
theorem freeL_part (R : List Rot) (L : List Int) : ∀ (m k : Nat), k + m = R.length →
    freeL R ((List.range' k m).filter fun i => !inL L i) = (List.range' k m).filter (freeB R L)
  | 0, k, _ => rfl
  | m + 1, k, hk => by
    have ih := freeL_part R L m (k + 1) (by omega)
    rw [List.range'_succ, List.filter_cons, List.filter_cons]
    cases hi : inL L k
    · rw [Bool.not_false, if_pos rfl, freeL, ih]
      have hc : ((List.range' (k + 1) m).filter fun i => !inL L i).filter (fun j => crI R j k) = [] ↔ freeB R L k = true := by
        unfold freeB
        rw [hi, Bool.not_false, Bool.and_true, List.all_eq_true, List.filter_eq_nil_iff]
        constructor
        · intro h i hm
          obtain ⟨h1, h2, h3⟩ := abvN_mem.1 hm
          by_cases h4 : inL L i = true
          · exact h4
          · exact absurd h3 (h i (List.mem_filter.2 ⟨List.mem_range'_1.2 ⟨by omega, by omega⟩, by simp [Bool.eq_false_iff.2 h4]⟩))
        · intro h i hm hcr
          obtain ⟨h1, h2⟩ := List.mem_filter.1 hm
          have h3 := List.mem_range'_1.1 h1
          have := h i (abvN_mem.2 ⟨by omega, by omega, hcr⟩)
          rw [this] at h2; cases h2
      by_cases h : freeB R L k = true
      · rw [if_pos (hc.2 h), if_pos h]
      · rw [if_neg (fun h2 => h (hc.1 h2)), if_neg h]
    · have : freeB R L k = false := by unfold freeB; rw [hi]; simp
      rw [Bool.not_true, if_neg (by simp), ih, this, if_neg (by simp)]
theorem freeL_left (R : List Rot) (L : List Int) : freeL R (leftN R L) = freeN R L := by
  unfold leftN freeN
  rw [List.range_eq_range']
  exact freeL_part R L R.length 0 (by omega)
theorem freeN_mem {R : List Rot} {L : List Int} {k : Nat} : k ∈ freeN R L ↔ k < R.length ∧ freeB R L k = true := by
  unfold freeN; rw [List.mem_filter, List.mem_range]
theorem leftN_mem {R : List Rot} {L : List Int} {k : Nat} : k ∈ leftN R L ↔ k < R.length ∧ inL L k = false := by
  unfold leftN; rw [List.mem_filter, List.mem_range]; simp
theorem leftN_nil (R : List Rot) : leftN R [] = List.range' 0 R.length := by
  unfold leftN; rw [← List.range_eq_range']
  exact List.filter_eq_self.2 (by intro a _; simp [inL])
/-- more are lifted -/
theorem leftN_more (R : List Rot) (L M : List Int) : (leftN R L).filter (fun i => !inL M i) = leftN R (L ++ M) := by
  unfold leftN; rw [List.filter_filter]
  exact List.filter_congr fun k _ => by unfold inL; simp [Bool.and_comm]
theorem freeN_len (R : List Rot) (L : List Int) : (freeN R L).length ≤ R.length := Nat.le_trans (List.length_filter_le _ _) (by simp)
theorem leftN_len (R : List Rot) (L : List Int) : (leftN R L).length ≤ R.length := Nat.le_trans (List.length_filter_le _ _) (by simp)
theorem freeB_in {R : List Rot} {L : List Int} {k : Nat} (h : freeB R L k = true) : inL L k = false := by
  unfold freeB at h; simp at h; exact h.2
/-- if one is left, the greatest one can be lifted -/
theorem freeN_some (R : List Rot) (L : List Int) : ∀ (m k : Nat), k + m = R.length → k ∈ leftN R L → freeN R L ≠ []
  | m, k, hk, hl => by
    by_cases h : freeB R L k = true
    · intro e
      have := freeN_mem.2 ⟨(leftN_mem.1 hl).1, h⟩
      rw [e] at this; cases this
    · have h2 := (leftN_mem.1 hl).2
      unfold freeB at h
      rw [h2, Bool.not_false, Bool.and_true, List.all_eq_true] at h
      obtain ⟨i, hi⟩ : ∃ i, i ∈ abvN R k ∧ inL L i = false := by
        apply Classical.byContradiction
        intro hn
        exact h fun i hi => by
          cases hq : inL L i
          · exact absurd ⟨i, hi, hq⟩ hn
          · rfl
      obtain ⟨h3, h4, h5⟩ := abvN_mem.1 hi.1
      exact freeN_some R L (R.length - i) i (by omega) (leftN_mem.2 ⟨h4, hi.2⟩)
  termination_by m => m
  decreasing_by omega

end Go.Proofs.Ytjboamhjfncgdaa
