/-
  The best serving is the first one that wastes least: changing one place of it makes it no better.
-/
import Derived.Test.YtmbdggakahbciaaServM
import Derived.Test.YtmbdggakahbciaaSvW0
namespace Go.Proofs.Ytmbdggakahbciaa
open Go.RowKit

theorem lex_set : ∀ (y : List Int) (i : Nat) (k : Int), i < y.length → k < y[i]?.getD 0 → lexB (y.set i k) y = true
  | [], i, k, h, _ => by simp at h
  | a :: t, 0, k, _, h => by
    simp only [List.getElem?_cons_zero, Option.getD_some] at h
    rw [List.set_cons_zero, lexB, if_neg (by omega)]
    simp; omega
  | a :: t, i + 1, k, h, h2 => by
    rw [List.set_cons_succ, lexB, if_pos rfl]
    exact lex_set t i k (by simpa using h) (by simpa using h2)
theorem waste_as {L Nd : List Spr} {x : List Int} (h : servB L Nd x = true) : wasteZ L Nd x = sumZ L x - milesZ Nd := by
  obtain ⟨_, h2, _⟩ := servB_true h
  unfold wasteZ wsTo
  rw [if_pos h, List.take_length, h2, List.take_length]
theorem best_is {L Nd : List Spr} (hb : serveB L Nd = true) : bothB L Nd = true ∧ bst (sumZ L) (allS L Nd) = some (serveL L Nd) := by
  unfold serveB at hb
  cases hB : bothB L Nd with
  | false => unfold serveG at hb; rw [hB] at hb; cases hb
  | true =>
    refine ⟨rfl, ?_⟩
    unfold serveL
    unfold serveG at hb ⊢
    rw [hB] at hb ⊢
    rw [if_pos rfl] at hb ⊢
    cases e : bst (sumZ L) (allS L Nd) with
    | none => rw [e] at hb; cases hb
    | some x => rfl
theorem best_serves {L Nd : List Spr} (hb : serveB L Nd = true) : servB L Nd (serveL L Nd) = true := by
  obtain ⟨hB, hy⟩ := best_is hb
  exact mem_serv hB (bst_mem hy)
theorem best_first {L Nd : List Spr} (hb : serveB L Nd = true) {z : List Int} (hz : servB L Nd z = true) : sumZ L (serveL L Nd) ≤ sumZ L z ∧ (sumZ L z = sumZ L (serveL L Nd) → lexB z (serveL L Nd) = false) := by
  obtain ⟨_, hy⟩ := best_is hb
  have hm := serv_mem hz
  refine ⟨bst_le hy z hm, fun he => ?_⟩
  obtain ⟨a, b, hab, ha, _⟩ := bst_split hy
  have hp : (allS L Nd).Pairwise (fun a b => lexB a b = true) := rows_lex _ _ _
  rw [hab] at hm hp
  rcases List.mem_append.1 hm with h | h
  · have := ha z h; omega
  · rcases List.mem_cons.1 h with h | h
    · rw [h]; exact lexB_irrefl _
    · have h2 := (List.pairwise_cons.1 (List.pairwise_append.1 hp).2.1).1 z h
      exact lexB_asymm h2
theorem best_set {L Nd : List Spr} (hb : serveB L Nd = true) {i : Nat} (hi : i < (serveL L Nd).length) (k : Int) : ¬ (0 ≤ wasteZ L Nd ((serveL L Nd).set i k) ∧ (wasteZ L Nd ((serveL L Nd).set i k) < wasteZ L Nd (serveL L Nd) ∨ (wasteZ L Nd ((serveL L Nd).set i k) = wasteZ L Nd (serveL L Nd) ∧ k < (serveL L Nd)[i]?.getD 0))) := by
  rintro ⟨h0, h1⟩
  cases hs : servB L Nd ((serveL L Nd).set i k) with
  | false => rw [wasteZ_no hs] at h0; omega
  | true =>
    obtain ⟨h2, h3⟩ := best_first hb hs
    rw [waste_as hs, waste_as (best_serves hb)] at h1
    rcases h1 with h1 | ⟨h1, h4⟩
    · omega
    · have h5 := h3 (by omega)
      rw [lex_set _ _ _ hi h4] at h5
      cases h5
theorem best_pays {L Nd : List Spr} (hb : serveB L Nd = true) : 0 ≤ wasteZ L Nd (serveL L Nd) ∧ wasteZ L Nd (serveL L Nd) ≤ 250 ∧ (serveL L Nd).length ≤ 5 ∧ L.length ≤ 10 := by
  have hs := best_serves hb
  obtain ⟨hB, hl, _⟩ := servB_true hs
  have h10 := (sprB_true.1 (bothB_true.1 hB).1).1
  have h5 := (sprB_true.1 (bothB_true.1 hB).2).1
  have := wsTo_bd hs (Nat.le_refl _)
  rw [wasteZ_yes hs]
  omega

end Go.Proofs.Ytmbdggakahbciaa
