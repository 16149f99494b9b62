/-
  Two points of a floor, in order: pointsInOrder of the program, l1Two of the model; the part of a floor between them.
-/
import Derived.Test.YtndpdoiomoefpaaNeed
namespace Go.Proofs.Ytndpdoiomoefpaa
open Go.RowKit

def ptsB (zs : List Int) (a b : Int) : Bool := decide (0 ≤ a) && decide (a ≤ b) && decide (b < zs.length)
theorem ptsB_true {zs : List Int} {a b : Int} (h : ptsB zs a b = true) : 0 ≤ a ∧ a ≤ b ∧ b < zs.length := by
  simp [ptsB] at h
  omega
/-- two points of a floor, in order -/
def twoB (zs : List Int) (a b : Int) : Bool := validB zs && ptsB zs a b

set_option maxRecDepth 100000 in
theorem pointsInOrder_c (A : Option Addr) (c : Nat) (zs : List Int) (a b : Int) (w : World) (_ : zs.length ≤ 2097152) :
    Calls Try.prog 78 #[.slice A zs.length c, .int .i64 a, .int .i64 b] w fun e w' => e = .returned (.bool (ptsB zs a b)) ∧ w = w' := by
  unfold ptsB
  by_cases h1 : 0 ≤ a <;> by_cases h2 : a ≤ b <;> by_cases h3 : b < (zs.length : Int)
  all_goals
    go_enter Try.func78, Try.ntmps78
    go_wp2
    go_ret
    exact ⟨by simp [h1, h2, h3], rfl⟩

set_option maxRecDepth 100000 in
set_option maxHeartbeats 400000 in
theorem l1Two_c (A : Option Addr) (c : Nat) (zs : List Int) (a b : Int) (w : World) (ha : Arg w A c zs) :
    Calls Try.prog 80 #[.slice A zs.length c, .int .i64 a, .int .i64 b] w fun e w' => e = .returned (.bool (twoB zs a b)) ∧ w = w' := by
  have hl := ha.len
  have Ha := Lib.hid ha
  clear ha
  unfold twoB
  cases hv : validB zs
  · have Hv := Lib.hid hv
    clear hv
    go_enter Try.func80, Try.ntmps80
    go_wp2_with fail
    refine (specFloorValid_c A c zs _ Ha.out).mono ?_
    rintro e w' ⟨rfl, rfl⟩
    rw [Hv.out]
    go_wp2
    go_ret
    exact ⟨by simp, rfl⟩
  · have Hv := Lib.hid hv
    clear hv
    go_enter Try.func80, Try.ntmps80
    go_wp2_with fail
    refine (specFloorValid_c A c zs _ Ha.out).mono ?_
    rintro e w' ⟨rfl, rfl⟩
    rw [Hv.out]
    go_wp2_with fail
    refine (l6In_c _ _ _ _).mono ?_
    rintro e w' ⟨rfl, rfl⟩
    cases h1 : inB a 0 ((zs.length : Int) - 1)
    · have hp : ptsB zs a b = false := by
        rw [inB_false] at h1
        rw [Bool.eq_false_iff]
        intro h
        have := ptsB_true h
        omega
      clear h1
      go_wp2
      go_ret
      exact ⟨by rw [hp]; simp, rfl⟩
    · have hp : ptsB zs a b = inB b a ((zs.length : Int) - 1) := by
        rw [inB_true] at h1
        rw [Bool.eq_iff_iff, inB_true]
        constructor
        · intro h
          have := ptsB_true h
          omega
        · intro h
          simp [ptsB]
          omega
      have Hp := Lib.hid hp
      clear h1 hp
      go_wp2_with fail
      refine (l6In_c _ _ _ _).mono ?_
      rintro e w' ⟨rfl, rfl⟩
      go_wp2
      go_ret
      exact ⟨by rw [Hp.out]; simp, rfl⟩

/-- the part of a list from one place to another, both included -/
def subL (zs : List Int) (f t : Nat) : List Int := (zs.drop f).take (t + 1 - f)
theorem subL_length {zs : List Int} {f t : Nat} (h1 : f ≤ t) (h2 : t < zs.length) : (subL zs f t).length = t + 1 - f := by simp [subL]; omega
theorem subL_at {zs : List Int} {f t j : Nat} (h : j < t + 1 - f) : (subL zs f t)[j]?.getD 0 = zs[f + j]?.getD 0 := by
  simp [subL, List.getElem?_drop, h]
theorem Arg.sub {w : World} {A : Option Addr} {c : Nat} {zs : List Int} (h : Arg w A c zs) {f t : Nat} (h1 : f ≤ t) (h2 : t < zs.length) :
    ∃ b off, A = some ⟨b, off, none⟩ ∧ Arg w (some ⟨b, off + f, none⟩) (c - f) (subL zs f t) := by
  obtain ⟨b, off, e, h3, h4, hc⟩ := h.rd (by omega)
  refine ⟨b, off, e, ?_, ?_, ?_, fun _ => ⟨b, off + f, rfl, h3, h4, fun j hj => ?_⟩⟩
  · rw [subL_length h1 h2]; have := h.len; omega
  · rw [subL_length h1 h2]; have := h.2.1; omega
  · have := h.2.2.1; omega
  · rw [subL_length h1 h2] at hj
    rw [subL_at hj, Nat.add_assoc]
    exact hc (f + j) (by omega)

/-! ### the length between two points -/
def lenTo (zs : List Int) (f k : Nat) : Int := ((List.range k).map fun j => needAt zs (f + j)).sum
theorem lenTo_zero (zs : List Int) (f : Nat) : lenTo zs f 0 = 0 := by simp [lenTo]
theorem lenTo_succ (zs : List Int) (f k : Nat) : lenTo zs f (k + 1) = lenTo zs f k + needAt zs (f + k) := by simp [lenTo, List.range_succ, List.sum_append]
theorem lenTo_bd {zs : List Int} (hv : validB zs = true) (f : Nat) : ∀ k, f + k < zs.length → 0 ≤ lenTo zs f k ∧ lenTo zs f k ≤ 50 * (k : Int)
  | 0, _ => by rw [lenTo_zero]; omega
  | k + 1, h => by
    have ih := lenTo_bd hv f k (by omega)
    rw [lenTo_succ]
    have := needAt_bd hv (i := f + k) (by omega)
    omega
/-- what FloorLength hands back -/
def floorLengthI (zs : List Int) (a b : Int) : Int := if twoB zs a b then lenTo zs a.toNat (b.toNat - a.toNat) else -1

end Go.Proofs.Ytndpdoiomoefpaa
