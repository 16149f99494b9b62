/-
  Servings are the rows that serve: the mathematics of P40 to P43.
-/
import Derived.Test.YtmbdggakahbciaaSrvM
namespace Go.Proofs.Ytmbdggakahbciaa
open Go.RowKit

theorem serv_row {L Nd : List Spr} {x : List Int} : ∀ k, k ≤ x.length → servTo L Nd x k → x.take k ∈ rows (sf L Nd) L.length k
  | 0, _, _ => by simp [rows]
  | k + 1, hk, h => by
    rw [rows, List.mem_flatMap]
    have h1 := h k (by omega)
    rw [List.getElem?_eq_getElem (by omega)] at h1
    simp only [Option.getD_some] at h1
    refine ⟨x.take k, serv_row k (by omega) (fun j hj => h j (by omega)), ext_mem.2 ⟨(x[k]).toNat, by omega, ?_, ?_⟩⟩
    · rw [Int.toNat_of_nonneg h1.1.1]; exact h1.2
    · rw [Int.toNat_of_nonneg h1.1.1, List.take_succ_eq_append_getElem (by omega)]
theorem serv_mem {L Nd : List Spr} {x : List Int} (h : servB L Nd x = true) : x ∈ allS L Nd := by
  obtain ⟨_, h2, h3⟩ := servB_true h
  have := serv_row x.length (Nat.le_refl _) h3
  rw [List.take_length, h2] at this
  exact this
theorem row_serv {L Nd : List Spr} : ∀ (k : Nat) (y : List Int), y ∈ rows (sf L Nd) L.length k → y.length = k ∧ servTo L Nd y k
  | 0, y, h => by
    simp only [rows, List.mem_singleton] at h
    subst h
    exact ⟨rfl, servTo_zero _ _ _⟩
  | k + 1, y, h => by
    rw [rows, List.mem_flatMap] at h
    obtain ⟨r, hr, hx⟩ := h
    obtain ⟨i, hi, hf, rfl⟩ := ext_mem.1 hx
    obtain ⟨h1, h2⟩ := row_serv k r hr
    refine ⟨by simp [h1], fun j hj => ?_⟩
    rcases Nat.lt_or_ge j k with h3 | h3
    · have h4 := h2 j h3
      rw [List.getElem?_append_left (by omega), List.take_append_of_le_length (by omega)]
      exact h4
    · obtain rfl : j = k := by omega
      rw [List.getElem?_append_right (by omega), h1, Nat.sub_self, List.take_append_of_le_length (by omega), List.take_of_length_le (by omega)]
      exact ⟨by simp; omega, by simpa using hf⟩
theorem mem_serv {L Nd : List Spr} (hB : bothB L Nd = true) {y : List Int} (h : y ∈ allS L Nd) : servB L Nd y = true := by
  obtain ⟨h1, h2⟩ := row_serv _ _ h
  exact servB_yes hB h1 (by rw [h1]; exact h2)

theorem servB_take {L Nd : List Spr} {x : List Int} (h : servB L Nd x = true) {k : Nat} (hk : k ≤ Nd.length) : servB L (Nd.take k) (x.take k) = true := by
  obtain ⟨hB, hl, ht⟩ := servB_true h
  obtain ⟨hL, hN⟩ := bothB_true.1 hB
  obtain ⟨h5, hall⟩ := sprB_true.1 hN
  refine servB_yes (bothB_true.2 ⟨hL, sprB_true.2 ⟨by simp; omega, fun s hs => hall s (List.mem_of_mem_take hs)⟩⟩) (by simp; omega) fun j hj => ?_
  have hj2 : j < k ∧ j < x.length := by simp at hj; omega
  have h1 := ht j hj2.2
  have e1 : (x.take k)[j]?.getD 0 = x[j]?.getD 0 := by rw [List.getElem?_take_of_lt hj2.1]
  have e2 : (x.take k).take j = x.take j := by rw [List.take_take, Nat.min_eq_left (by omega)]
  rw [e1, e2]
  refine ⟨h1.1, ?_⟩
  obtain ⟨h2, h3⟩ := sf_true.1 h1.2
  refine sf_true.2 ⟨?_, h3⟩
  have e3 : (x.take j).length = j := by simp; omega
  rw [e3] at h2 ⊢
  have e4 : sprAt (Nd.take k) j = sprAt Nd j := by unfold sprAt; rw [List.getElem?_take_of_lt hj2.1]
  rw [e4]
  exact h2
theorem servB_ne {L Nd : List Spr} {x : List Int} (h : servB L Nd x = true) {m i : Nat} (hm : m < i) (hi : i < x.length) : ¬ x[m]?.getD 0 = x[i]?.getD 0 := by
  obtain ⟨_, _, ht⟩ := servB_true h
  have h1 := (sf_true.1 (ht i hi).2).2
  intro e
  apply h1
  rw [← e, List.getElem?_eq_getElem (by omega), Option.getD_some]
  exact List.mem_take_iff_getElem.2 ⟨m, by omega, rfl⟩
theorem serve_many {L Nd : List Spr} {x : List Int} (h : servB L Nd x = true) : 1 ≤ manyZ L Nd ∧ serveB L Nd = true := by
  obtain ⟨hB, _, _⟩ := servB_true h
  have hm := serv_mem h
  have h1 : 1 ≤ manyZ L Nd := by
    unfold manyZ
    rw [if_pos hB]
    have := List.length_pos_of_mem hm
    omega
  refine ⟨h1, ?_⟩
  rw [← canB_eq]
  exact decide_eq_true (by omega)

end Go.Proofs.Ytmbdggakahbciaa
