/-
  Mathematics of FnLoss: a closed day ahead of all puts each end a day off. Nothing here speaks of the program.
-/
import Derived.Test.YtbcgglkgdjafiaaDoorPbM
namespace Go.Proofs.YtbcgglkgdjafiaaDoor

/-- the Weights of the first k -/
def wgT (J : List Jbs) : Nat → Int
  | 0 => 0
  | k + 1 => wgT J k + (jbsAt J k).g
/-- .. of the first k places of a plan -/
def gsT (J : List Jbs) (p : List Int) : Nat → Int
  | 0 => 0
  | k + 1 => gsT J p k + (jbP J p k).g
theorem gsT_sum (J : List Jbs) (p : List Int) : ∀ k, k ≤ p.length → gsT J p k = sumI ((p.take k).map fun i => (jbsAt J i.toNat).g)
  | 0, _ => by simp [gsT, sumI]
  | k + 1, h => by
    rw [gsT, gsT_sum J p k (by omega), List.take_succ_eq_append_getElem (by omega), List.map_append, sumI_append]
    unfold jbP
    rw [List.getElem?_eq_getElem (by omega)]
    simp [sumI]
theorem wgT_sum (J : List Jbs) : ∀ k, wgT J k = sumI ((List.range k).map fun (i : Nat) => (jbsAt J i).g)
  | 0 => rfl
  | k + 1 => by
    rw [wgT, wgT_sum J k, List.range_succ, List.map_append, sumI_append]
    simp [sumI]
theorem gsT_all {J : List Jbs} {p : List Int} (h : ordB p = true) (hl : p.length = J.length) : gsT J p p.length = wgT J J.length := by
  rw [gsT_sum J p _ (Nat.le_refl _), List.take_length, sumI_perm ((ord_perm h).map _), List.map_map, wgT_sum, hl]
  rfl
theorem wgT_bd {J : List Jbs} (h : jbB J = true) : ∀ k, 0 ≤ wgT J k ∧ wgT J k ≤ 9 * k
  | 0 => by simp [wgT]
  | k + 1 => by have h1 := wgT_bd h k; have h2 := jbB_any h k; rw [wgT]; omega
theorem op_x (L : List UInt8) (d : Nat) : opT (120 :: L) (d + 1) = opT L d := by rw [opT_cons, isO_x]; simp
theorem fc_x {L : List UInt8} (h : fcB L = true) (hl : L.length + 1 ≤ 30) : fcB (120 :: L) = true := by
  unfold fcB at *
  rw [Bool.and_eq_true] at *
  refine ⟨?_, by simp; omega⟩
  rw [List.all_cons, h.1]
  decide
theorem time_x {L : List UInt8} {J : List Jbs} (h : timeB L J = true) (hl : L.length + 1 ≤ 30) : timeB (120 :: L) J = true := by
  obtain ⟨h1, h2, h3⟩ := timeB_true.1 h
  exact timeB_true.2 ⟨fc_x h1 hl, h2, by rw [List.length_cons, op_x]; exact h3⟩
theorem dy_x (L : List UInt8) {w : Int} (h : 1 ≤ w) : dyI (120 :: L) w = 1 + dyI L w := by
  unfold dyI
  obtain ⟨m, hm⟩ : ∃ m, w.toNat = m + 1 := ⟨w.toNat - 1, by omega⟩
  rw [hm, dyL_cons, isO_x, if_neg (by simp)]
  omega
theorem cost_x {L : List UInt8} {J : List Jbs} {p : List Int} (h : planB L J p = true) : ∀ k, k ≤ p.length → costT (120 :: L) J p k = costT L J p k + gsT J p k
  | 0, _ => rfl
  | k + 1, hk => by
    obtain ⟨h1, h2, h3⟩ := planB_true.1 h
    obtain ⟨_, h5, _⟩ := timeB_true.1 h1
    have h6 := ord_at h2 (show k < p.length by omega)
    have h7 : 1 ≤ (jbP J p k).d := (jbB_at h5 (show (p[k]?.getD 0).toNat < J.length by omega)).1.1
    have h8 := (wkT_bd h5 p k).1
    rw [costT, costT, gsT, cost_x h k (by omega), dy_x L (by rw [wkT]; omega), Int.mul_add, Int.mul_one]
    omega
theorem loss_x {L : List UInt8} {J : List Jbs} {p : List Int} (h : planB L J p = true) (hl : L.length + 1 ≤ 30) : lossV (120 :: L) J p = lossV L J p + wgT J J.length := by
  obtain ⟨h1, h2, h3⟩ := planB_true.1 h
  have h4 : planB (120 :: L) J p = true := planB_true.2 ⟨time_x h1 hl, h2, h3⟩
  rw [lossV_cost h, lossV_cost h4]
  unfold costP
  rw [cost_x h _ (Nat.le_refl _), gsT_all h2 h3]

end Go.Proofs.YtbcgglkgdjafiaaDoor
