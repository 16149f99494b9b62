/-
  Bounds on the number of servings.
-/
import Derived.Test.YtmbdggakahbciaaAppI
namespace Go.Proofs.Ytmbdggakahbciaa
open Go.RowKit

theorem ext_card (f : List Int → Int → Bool) (n : Nat) (r : List Int) : (ext f n r).length ≤ n := by
  unfold ext
  rw [List.length_map]
  have := List.length_filter_le (fun (i : Nat) => f r (i : Int)) (List.range n)
  simpa using this
theorem flat_card {α β : Type} (g : α → List β) (m : Nat) : ∀ l : List α, (∀ x ∈ l, (g x).length ≤ m) → (l.flatMap g).length ≤ l.length * m
  | [], _ => by simp
  | x :: t, h => by
    have h1 := flat_card g m t (fun y hy => h y (List.mem_cons_of_mem _ hy))
    have h2 := h x (by simp)
    rw [List.flatMap_cons, List.length_append, List.length_cons, Nat.succ_mul]
    omega
theorem fromR_card (f : List Int → Int → Bool) (n : Nat) : ∀ (k : Nat) (r : List Int), (fromR f n k r).length ≤ n ^ k
  | 0, r => by simp [fromR]
  | k + 1, r => by
    rw [fromR]
    refine Nat.le_trans (flat_card _ (n ^ k) _ (fun x _ => fromR_card f n k x)) ?_
    rw [Nat.pow_succ, Nat.mul_comm (n ^ k) n]
    exact Nat.mul_le_mul_right _ (ext_card f n r)
theorem fromS_card {L Nd : List Spr} {r : List Int} (hL : L.length ≤ 10) (hN : Nd.length ≤ 5) : (fromS L Nd r).length ≤ 100000 := by
  unfold fromS
  refine Nat.le_trans (fromR_card _ _ _ _) ?_
  refine Nat.le_trans (Nat.pow_le_pow_left hL _) ?_
  exact Nat.le_trans (Nat.pow_le_pow_right (by omega) (show Nd.length - r.length ≤ 5 by omega)) (by decide)
theorem preS_card {L Nd : List Spr} {r : List Int} {k : Nat} (hL : L.length ≤ 10) (hN : Nd.length ≤ 5) (hr : r.length < Nd.length) (hk : k ≤ L.length) : (preS L Nd r k).length ≤ 100000 := by
  obtain ⟨post, e⟩ := preS_rest (L := L) (Nd := Nd) (r := r) (L.length - k) k (by omega)
  have h1 := fromS_card (L := L) (Nd := Nd) (r := r) hL hN
  rw [← preS_all hr, e, List.length_append] at h1
  omega
def idx5 (n : Nat) (r : List Int) : Prop := ∀ i ∈ r, 0 ≤ i ∧ i < (n : Int)
theorem idx5_snoc {n : Nat} {r : List Int} {i : Nat} (h : idx5 n r) (hi : i < n) : idx5 n (r ++ [(i : Int)]) := fun j hj => by
  rcases List.mem_append.1 hj with h1 | h1
  · exact h j h1
  · simp at h1; omega
theorem sf_of {L Nd : List Spr} {r : List Int} {k : Nat} {s d : Spr} (h1 : sprAt L k = s) (h2 : sprAt Nd r.length = d) : sf L Nd r (k : Int) = (srvB s d && !(decide ((k : Int) ∈ r))) := by
  unfold sf
  rw [Int.toNat_natCast, h1, h2]

end Go.Proofs.Ytmbdggakahbciaa
