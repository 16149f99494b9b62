/-
  Mathematics of the law FnTrafficLoad: a greatest load fills a least cut. Nothing here speaks of the program.
-/
import Derived.Test.YtnekjhpocfdpnaaTfXm
import Derived.Test.YtnekjhpocfdpnaaTfLc
namespace Go.Proofs.Ytnekjhpocfdpnaa

section
variable {n : Int} {N : List Lin} {f t : Int} {S L : List Int}
theorem cut_least2 (he : endB n N f t = true) : cutV n N f t (lcV n N f t) = mostV n N f t := by
  obtain ⟨S, hs, hc⟩ := most_cut he
  have h1 := cutV_yes he hs
  have h0 := most_nonneg he
  have h2 := lcV_le he (S := S) (by omega)
  have h3 := most_cutV (lcV_side he).2
  omega
theorem share_step (hc : chB N L = true) (hs : ∀ x ∈ S, x = 0 ∨ x = 1) {k : Nat} (hk : k < N.length) : shr N L S k ≤ (if sdAt S (linAt N k).a = sdAt S (linAt N k).b then 0 else (linAt N k).c) := by
  have h2 := (chB_true.1 hc).2 k hk
  have h3 := sd_01 hs (linAt N k).a
  have h4 := sd_01 hs (linAt N k).b
  rw [shr]
  rcases h3 with h3 | h3 <;> rcases h4 with h4 | h4 <;> rw [h3, h4] <;> simp only [eq_self, ↓reduceIte, Int.reduceEq] <;> omega
theorem share_full (hc : chB N L = true) (hs : ∀ x ∈ S, x = 0 ∨ x = 1) (he : shrT N L S N.length = cutT N S N.length) : ∀ j, j ≤ N.length → shrT N L S (N.length - j) = cutT N S (N.length - j)
  | 0, _ => he
  | j + 1, hj => by
    have h1 := share_full hc hs he j (by omega)
    have h2 := share_le hc hs (N.length - (j + 1)) (by omega)
    have h3 := share_step hc hs (k := N.length - (j + 1)) (by omega)
    rw [show N.length - j = N.length - (j + 1) + 1 by omega, shrT, cutT] at h1
    omega
theorem line_full (hc : chB N L = true) (hs : ∀ x ∈ S, x = 0 ∨ x = 1) (he : shrT N L S N.length = cutT N S N.length) {k : Nat} (hk : k < N.length) :
    (sdAt S (linAt N k).a = 1 → sdAt S (linAt N k).b = 0 → ldAt L k = (linAt N k).c) ∧ (sdAt S (linAt N k).a = 0 → sdAt S (linAt N k).b = 1 → ldAt L k = - (linAt N k).c) := by
  have h1 := share_full hc hs he (N.length - k) (by omega)
  have h2 := share_full hc hs he (N.length - (k + 1)) (by omega)
  rw [show N.length - (N.length - k) = k by omega] at h1
  rw [show N.length - (N.length - (k + 1)) = k + 1 by omega, shrT, cutT, h1] at h2
  have h3 : shr N L S k = (if sdAt S (linAt N k).a = sdAt S (linAt N k).b then 0 else (linAt N k).c) := by omega
  rw [shr] at h3
  refine ⟨fun ha hb => ?_, fun ha hb => ?_⟩
  · rw [ha, hb] at h3
    simp only [eq_self, ↓reduceIte, Int.reduceEq] at h3
    omega
  · rw [ha, hb] at h3
    simp only [eq_self, ↓reduceIte, Int.reduceEq] at h3
    omega
theorem load_fills (he : endB n N f t = true) :
    loadB n N f t (TLv n N f t) = true ∧ (TLv n N f t).length = N.length ∧ ((lcV n N f t).length : Int) = n ∧ (∀ x, sdAt (lcV n N f t) x = 0 ∨ sdAt (lcV n N f t) x = 1) ∧
    ∀ k, k < N.length → (sdAt (lcV n N f t) (linAt N k).a = 1 → sdAt (lcV n N f t) (linAt N k).b = 0 → ldAt (TLv n N f t) k = (linAt N k).c) ∧ (sdAt (lcV n N f t) (linAt N k).a = 0 → sdAt (lcV n N f t) (linAt N k).b = 1 → ldAt (TLv n N f t) k = - (linAt N k).c) := by
  have hcl := cut_least2 he
  have hm0 := most_nonneg he
  have hS := (cutV_nonneg.1 (show 0 ≤ cutV n N f t (lcV n N f t) by omega)).2
  obtain ⟨h1, h2, h3, h4⟩ := sideB_true.1 hS
  rw [TLv_yes he]
  have hfl := (TL_flow he).1
  obtain ⟨m, rfl, hm, hf, ht, hft⟩ := ends_nat he
  have hn := (endB_true.1 he).1
  rw [cutV_yes he hS] at hcl
  have hmo : mostV (m : Int) N f t = outV N (TL (m : Int) N f t) f := by unfold mostV; rw [if_pos he]
  have hsh := out_share hn hfl.2.1 hf h3 h4
  have hq : shrT N (TL (m : Int) N f t) (lcV (m : Int) N f t) N.length = cutT N (lcV (m : Int) N f t) N.length := by
    unfold cutC at hcl
    rw [hcl, hmo, hsh]
  exact ⟨TL_load he, TL_len he, h1, sd_01 h2, fun k hk => line_full hfl.1 h2 hq hk⟩
end
end Go.Proofs.Ytnekjhpocfdpnaa
