/-
  Servings are counted by their first need: the mathematics.
-/
import Derived.Test.YtkicifkigbciaaaSrvM
namespace Go.Proofs.Ytkicifkigbciaaa

/-- an index of the list without the k-th one, in the list -/
def shI (k : Nat) (i : Int) : Int := if i < (k : Int) then i else i + 1
def erL (L : List Spr) (k : Nat) : List Spr := L.take k ++ L.drop (k + 1)
theorem erL_length {L : List Spr} {k : Nat} (h : k < L.length) : (erL L k).length = L.length - 1 := by unfold erL; simp; omega
theorem erL_lo {L : List Spr} {k i : Nat} (h : k < L.length) (hi : i < k) : sprAt (erL L k) i = sprAt L i := by
  unfold sprAt erL
  rw [List.getElem?_append_left (by simp; omega), List.getElem?_take_of_lt hi]
theorem erL_hi {L : List Spr} {k i : Nat} (h : k < L.length) (hi : k ≤ i) : sprAt (erL L k) i = sprAt L (i + 1) := by
  unfold sprAt erL
  rw [List.getElem?_append_right (by simp; omega), List.getElem?_drop]
  congr 2
  simp
  omega
/-- the row in the list: the k-th one first -/
def rowS (k : Nat) (r : List Int) : List Int := (k : Int) :: r.map (shI k)
theorem rowS_snoc (k : Nat) (r : List Int) (i : Int) : rowS k (r ++ [i]) = rowS k r ++ [shI k i] := by simp [rowS]
theorem rowS_length (k : Nat) (r : List Int) : (rowS k r).length = r.length + 1 := by simp [rowS]
theorem shI_mem (k : Nat) (r : List Int) (i : Int) : shI k i ∈ rowS k r ↔ i ∈ r := by
  unfold rowS
  rw [List.mem_cons, List.mem_map]
  constructor
  · rintro (h | ⟨j, hj, h⟩)
    · unfold shI at h; split at h <;> omega
    · have : j = i := by unfold shI at h; split at h <;> split at h <;> omega
      exact this ▸ hj
  · intro h; exact .inr ⟨i, h, rfl⟩
theorem sf_lo {L Nd : List Spr} {d : Spr} {k i : Nat} {r : List Int} (h : k < L.length) (hi : i < k) : sf L (d :: Nd) (rowS k r) (i : Int) = sf (erL L k) Nd r (i : Int) := by
  have h1 : shI k (i : Int) = (i : Int) := by unfold shI; rw [if_pos (by omega)]
  have h2 := shI_mem k r (i : Int)
  rw [h1] at h2
  unfold sf
  rw [Int.toNat_natCast, erL_lo h hi, rowS_length, show sprAt (d :: Nd) (r.length + 1) = sprAt Nd r.length from rfl]
  congr 2
  exact decide_eq_decide.2 h2
theorem sf_hi {L Nd : List Spr} {d : Spr} {k i : Nat} {r : List Int} (h : k < L.length) (hi : k ≤ i) : sf L (d :: Nd) (rowS k r) ((i + 1 : Nat) : Int) = sf (erL L k) Nd r (i : Int) := by
  have h1 : shI k (i : Int) = ((i + 1 : Nat) : Int) := by unfold shI; rw [if_neg (by omega)]; omega
  have h2 := shI_mem k r (i : Int)
  rw [h1] at h2
  unfold sf
  rw [Int.toNat_natCast, Int.toNat_natCast, erL_hi h hi, rowS_length, show sprAt (d :: Nd) (r.length + 1) = sprAt Nd r.length from rfl]
  congr 2
  exact decide_eq_decide.2 h2
theorem sf_at {L Nd : List Spr} {k : Nat} {r : List Int} : sf L Nd (rowS k r) (k : Int) = false := by
  unfold sf
  rw [decide_eq_true (by simp [rowS])]
  simp
theorem preS_len_succ (L Nd : List Spr) (r : List Int) (k : Nat) : (preS L Nd r (k + 1)).length = (preS L Nd r k).length + (if sf L Nd r (k : Int) then (fromS L Nd (r ++ [(k : Int)])).length else 0) := by
  rw [preS_succ, List.length_append]
  split <;> rfl
/-- behind the k-th one as many servings as of the other needs by the other spares -/
theorem fromS_erase {L Nd : List Spr} {d : Spr} {k : Nat} (h : k < L.length) : ∀ (j : Nat) (r : List Int), r.length + j = Nd.length → (fromS L (d :: Nd) (rowS k r)).length = (fromS (erL L k) Nd r).length
  | 0, r, hj => by rw [fromS_end (by rw [rowS_length]; simp; omega), fromS_end (by omega)]; rfl
  | j + 1, r, hj => by
    have hr : (rowS k r).length < (d :: Nd).length := by rw [rowS_length]; simp; omega
    have hr' : r.length < Nd.length := by omega
    have hE := erL_length h
    have ih := fun (i : Int) => fromS_erase (d := d) (Nd := Nd) h j (r ++ [i]) (by simp; omega)
    have hlo : ∀ K, K ≤ k → (preS L (d :: Nd) (rowS k r) K).length = (preS (erL L k) Nd r K).length := by
      intro K
      induction K with
      | zero => intro _; rfl
      | succ K ihK =>
        intro hK
        rw [preS_len_succ, preS_len_succ, ihK (by omega), sf_lo h (by omega)]
        congr 1
        have h1 : shI k (K : Int) = (K : Int) := by unfold shI; rw [if_pos (by omega)]
        have h2 := ih (K : Int)
        rw [rowS_snoc, h1] at h2
        rw [h2]
    have hhi : ∀ m, k + m ≤ (erL L k).length → (preS L (d :: Nd) (rowS k r) (k + m + 1)).length = (preS (erL L k) Nd r (k + m)).length := by
      intro m
      induction m with
      | zero =>
        intro _
        rw [Nat.add_zero, preS_len_succ, sf_at, hlo k (Nat.le_refl _)]
        rfl
      | succ m ihm =>
        intro hm
        rw [show k + (m + 1) + 1 = (k + m + 1) + 1 by omega, preS_len_succ, ihm (by omega), show k + (m + 1) = (k + m) + 1 by omega, preS_len_succ, sf_hi h (by omega)]
        congr 1
        have h1 : shI k ((k + m : Nat) : Int) = ((k + m + 1 : Nat) : Int) := by unfold shI; rw [if_neg (by omega)]; omega
        have h2 := ih ((k + m : Nat) : Int)
        rw [rowS_snoc, h1] at h2
        rw [h2]
    rw [← preS_all hr, ← preS_all hr']
    have := hhi (L.length - 1 - k) (by omega)
    rw [show k + (L.length - 1 - k) + 1 = L.length by omega, show k + (L.length - 1 - k) = (erL L k).length by omega] at this
    exact this
theorem sprB_erL {L : List Spr} (h : sprB 10 L = true) (k : Nat) : sprB 10 (erL L k) = true := by
  obtain ⟨h1, h2⟩ := sprB_true.1 h
  refine sprB_true.2 ⟨by unfold erL; simp; omega, fun s hs => h2 s ?_⟩
  unfold erL at hs
  rcases List.mem_append.1 hs with h3 | h3
  · exact List.mem_of_mem_take h3
  · exact List.mem_of_mem_drop h3
/-- the servings whose first spare is one of the first k -/
def manyTo (L Nd : List Spr) (k : Nat) : Int := ((preS L Nd [] k).length : Int)
theorem manyTo_no {L Nd : List Spr} {d : Spr} {k : Nat} (h : srvB (sprAt L k) d = false) : manyTo L (d :: Nd) (k + 1) = manyTo L (d :: Nd) k := by
  unfold manyTo
  rw [preS_len_succ, show sf L (d :: Nd) [] (k : Int) = false by unfold sf; rw [Int.toNat_natCast, show sprAt (d :: Nd) ([] : List Int).length = d from rfl, h]; rfl]
  simp
theorem manyTo_yes {L Nd : List Spr} {d : Spr} {k : Nat} (hB : bothB L (d :: Nd) = true) (hk : k < L.length) (h : srvB (sprAt L k) d = true) : manyTo L (d :: Nd) (k + 1) = manyTo L (d :: Nd) k + manyZ (erL L k) Nd := by
  obtain ⟨h1, h2⟩ := bothB_true.1 hB
  have h3 : bothB (erL L k) Nd = true := bothB_true.2 ⟨sprB_erL h1 k, sprB_true.2 ⟨by have := (sprB_true.1 h2).1; simp at this; omega, fun s hs => (sprB_true.1 h2).2 s (by simp [hs])⟩⟩
  unfold manyTo manyZ
  rw [if_pos h3, allS_from, preS_len_succ, show sf L (d :: Nd) [] (k : Int) = true by unfold sf; rw [Int.toNat_natCast, show sprAt (d :: Nd) ([] : List Int).length = d from rfl, h]; simp, if_pos rfl]
  have := fromS_erase (d := d) (Nd := Nd) hk Nd.length [] (by simp)
  rw [show rowS k [] = [] ++ [(k : Int)] from rfl] at this
  rw [this]
  omega
theorem manyTo_all {L Nd : List Spr} {d : Spr} (hB : bothB L (d :: Nd) = true) : manyTo L (d :: Nd) L.length = manyZ L (d :: Nd) := by
  unfold manyTo manyZ
  rw [if_pos hB, allS_from, preS_all (by simp)]
theorem many_none {L : List Spr} (hB : bothB L [] = true) : manyZ L [] = 1 := by
  unfold manyZ
  rw [if_pos hB, allS_from, fromS_end (by simp)]
  rfl

end Go.Proofs.Ytkicifkigbciaaa
