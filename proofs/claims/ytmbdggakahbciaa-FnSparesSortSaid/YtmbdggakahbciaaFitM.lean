/-
  The best spare for a need: the mathematics.
-/
import Derived.Test.YtmbdggakahbciaaSpF0
namespace Go.Proofs.Ytmbdggakahbciaa
open Go.RowKit

/-- the best one is the best one -/
theorem fitN_best (L : List Spr) (d : Spr) : ∀ (k j : Nat), fitN L d k = (j : Int) → j < k ∧ srvB (sprAt L j) d = true ∧ ∀ i, i < k → srvB (sprAt L i) d = true → (sprAt L j).m < (sprAt L i).m ∨ ((sprAt L j).m = (sprAt L i).m ∧ j ≤ i)
  | 0, j, h => by rw [fitN] at h; omega
  | k + 1, j, h => by
    by_cases hc : srvB (sprAt L k) d = true ∧ (fitN L d k < 0 ∨ (sprAt L k).m < (sprAt L (fitN L d k).toNat).m)
    · rw [fitN_step_yes hc.1 hc.2] at h
      obtain rfl : k = j := by omega
      refine ⟨by omega, hc.1, fun i hi hs => ?_⟩
      by_cases e : i = k
      · subst e; exact .inr ⟨rfl, Nat.le_refl _⟩
      · rcases hc.2 with h2 | h2
        · exfalso
          -- nobody served before
          rcases fitN_bst L d k with ⟨h3, _⟩ | ⟨j', _, h3, _⟩
          · have hno := bst_nil h3
            have hmem : [(i : Int)] ∈ preS L [d] [] k := by
              unfold preS
              rw [List.mem_flatMap]
              exact ⟨[(i : Int)], ext_mem.2 ⟨i, by omega, by rw [sf_one]; exact hs, rfl⟩, by rw [fromS_end (by simp)]; simp⟩
            rw [hno] at hmem
            simp at hmem
          · omega
        · rcases fitN_bst L d k with ⟨_, h3⟩ | ⟨j', _, h3, _⟩
          · exfalso
            rw [h3] at h2
            rcases fitN_bst L d k with ⟨h4, _⟩ | ⟨j'', _, h4, _⟩
            · have hno := bst_nil h4
              have hmem : [(i : Int)] ∈ preS L [d] [] k := by
                unfold preS
                rw [List.mem_flatMap]
                exact ⟨[(i : Int)], ext_mem.2 ⟨i, by omega, by rw [sf_one]; exact hs, rfl⟩, by rw [fromS_end (by simp)]; simp⟩
              rw [hno] at hmem
              simp at hmem
            · omega
          · have ih := fitN_best L d k j' h3
            rw [h3, Int.toNat_natCast] at h2
            rcases ih.2.2 i (by omega) hs with h4 | h4
            · exact .inl (by omega)
            · exact .inl (by omega)
    · rw [fitN_step_no hc] at h
      obtain ⟨h1, h2, h3⟩ := fitN_best L d k j h
      refine ⟨by omega, h2, fun i hi hs => ?_⟩
      by_cases e : i = k
      · subst e
        have h4 : ¬ ((sprAt L i).m < (sprAt L j).m) := fun h5 => hc ⟨hs, .inr (by rw [h, Int.toNat_natCast]; exact h5)⟩
        by_cases h5 : (sprAt L j).m < (sprAt L i).m
        · exact .inl h5
        · exact .inr ⟨by omega, by omega⟩
      · exact h3 i (by omega) hs
theorem fit_found {L : List Spr} {d : Spr} (h : serveB L [d] = true) : ∃ j : Nat, fitV L d = (j : Int) ∧ serveL L [d] = [(j : Int)] ∧ j < L.length ∧ L.length ≤ 10 ∧ srvB (sprAt L j) d = true ∧ ∀ i, i < L.length → srvB (sprAt L i) d = true → (sprAt L j).m < (sprAt L i).m ∨ ((sprAt L j).m = (sprAt L i).m ∧ j ≤ i) := by
  obtain ⟨x, hB, hx, hsl⟩ := serve_some h
  have hbd := fitN_bd L d L.length
  have hge : ¬ fitN L d L.length < 0 := fun hn => by have := ((fit_all hB).1 hn).1; rw [h] at this; cases this
  have hv := ((fit_all hB).2 hge).2
  obtain ⟨j, hj⟩ : ∃ j : Nat, fitN L d L.length = (j : Int) := ⟨(fitN L d L.length).toNat, by omega⟩
  obtain ⟨h1, h2, h3⟩ := fitN_best L d L.length j hj
  refine ⟨j, by rw [hv, hj], ?_, h1, (sprB_true.1 (bothB_true.1 hB).1).1, h2, h3⟩
  rcases fitN_bst L d L.length with ⟨_, h4⟩ | ⟨j', h4, h5, _⟩
  · omega
  · rw [hsl]
    rw [preS_all (by simp)] at h4
    rw [h4] at hx
    injection hx with hx
    rw [← hx]
    have : j' = j := by omega
    rw [this]

end Go.Proofs.Ytmbdggakahbciaa
