/-
  Plain mathematics of the law of wide drifts. Nothing here speaks of the program.
-/
import Derived.Test.YtgnolhikphoagaaDoorSgP
import Derived.Test.YtgnolhikphoagaaDoorSgX
namespace Go.Proofs.YtgnolhikphoagaaDoor

/-- the highest and the lowest drift -/
def hiD (l : List UInt8) : Int := highT (dr0 l l.length) (dr0 l l.length).length
def loD (l : List UInt8) : Int := lowT (dr0 l l.length) (dr0 l l.length).length
theorem wid_hl {l : List UInt8} (h : sigB l = true) : widV l = hiD l - loD l := widV_yes h
theorem driT_app (l m : List UInt8) : ∀ k, k ≤ l.length → driT (l ++ m) k = driT l k := fun k hk => by
  unfold driT
  apply List.map_congr_left
  intro i hi
  rw [List.take_append_of_le_length (by have := List.mem_range.1 hi; omega)]
theorem dr0_app (l : List UInt8) (c : UInt8) : dr0 (l ++ [c]) (l ++ [c]).length = dr0 l l.length ++ [driV (l ++ [c])] := by
  rw [List.length_append, List.length_singleton, dr0_succ]
  have e : dr0 (l ++ [c]) l.length = dr0 l l.length := by unfold dr0; rw [driT_app l [c] _ (Nat.le_refl _)]
  rw [e, List.take_of_length_le (by simp)]
theorem hiD_snoc (l : List UInt8) (c : UInt8) : hiD (l ++ [c]) = max (hiD l) (driV (l ++ [c])) := by
  unfold hiD
  rw [dr0_app, List.length_append, List.length_singleton, highT_succ _ (by simp), highT_app _ _ _ (Nat.le_refl _)]
  simp
theorem loD_snoc (l : List UInt8) (c : UInt8) : loD (l ++ [c]) = min (loD l) (driV (l ++ [c])) := by
  unfold loD
  rw [dr0_app, List.length_append, List.length_singleton, lowT_succ _ (by simp), lowT_app _ _ _ (Nat.le_refl _)]
  simp
theorem hiD_nil : hiD [] = 0 := by decide
theorem loD_nil : loD [] = 0 := by decide
theorem snoc_all {P : List UInt8 → Prop} (h0 : P []) (h1 : ∀ l c, P l → P (l ++ [c])) : ∀ l, P l := by
  intro l
  have key : ∀ (n : Nat) (l : List UInt8), l.length = n → P l := by
    intro n
    induction n with
    | zero => intro l hl; rw [List.length_eq_zero_iff.1 hl]; exact h0
    | succ n ih =>
      intro l hl
      have hne : l ≠ [] := fun e => by rw [e] at hl; simp at hl
      rw [← List.dropLast_concat_getLast hne]
      exact h1 _ _ (ih _ (by rw [List.length_dropLast]; omega))
  exact key _ l rfl
theorem step_of (c : UInt8) : (if c.toNat = 43 then (1 : Int) else if c.toNat = 45 then -1 else 0) = if c = 43 then 1 else if c = 45 then -1 else 0 := by
  have e1 : c.toNat = 43 ↔ c = 43 := ⟨fun h => UInt8.toNat_inj.1 h, fun h => by rw [h]; rfl⟩
  have e2 : c.toNat = 45 ↔ c = 45 := ⟨fun h => UInt8.toNat_inj.1 h, fun h => by rw [h]; rfl⟩
  by_cases h1 : c = 43
  · rw [if_pos h1, if_pos (e1.2 h1)]
  · rw [if_neg h1, if_neg (fun h => h1 (e1.1 h))]
    by_cases h2 : c = 45
    · rw [if_pos h2, if_pos (e2.2 h2)]
    · rw [if_neg h2, if_neg (fun h => h2 (e2.1 h))]
/-- the drift lies in what it has reached; a wide drift needs many pulses -/
theorem wide_all (l : List UInt8) : loD l ≤ driV l ∧ driV l ≤ hiD l ∧ hiD l - loD l ≤ pls l ∧ (hiD l - loD l = 0 ↔ pls l = 0) := by
  refine snoc_all (P := fun l => loD l ≤ driV l ∧ driV l ≤ hiD l ∧ hiD l - loD l ≤ pls l ∧ (hiD l - loD l = 0 ↔ pls l = 0)) ?_ ?_ l
  · rw [hiD_nil, loD_nil, driV_nil]; exact ⟨by decide, by decide, by decide, by decide⟩
  · intro l c ⟨i1, i2, i3, i4⟩
    rw [hiD_snoc, loD_snoc, driV_snoc, step_of, pls_snoc]
    by_cases h1 : c = 43
    · rw [if_pos h1, if_pos (.inl h1)]
      refine ⟨by omega, by omega, by omega, by omega⟩
    · rw [if_neg h1]
      by_cases h2 : c = 45
      · rw [if_pos h2, if_pos (.inr h2)]
        refine ⟨by omega, by omega, by omega, by omega⟩
      · rw [if_neg h2, if_neg (by simp [h1, h2])]
        refine ⟨by omega, by omega, by omega, by omega⟩
theorem turn_wide (l : List UInt8) : l.all isPul = true → hiD (l.map turnP) = -(loD l) ∧ loD (l.map turnP) = -(hiD l) ∧ driV (l.map turnP) = -(driV l) := by
  refine snoc_all (P := fun l => l.all isPul = true → hiD (l.map turnP) = -(loD l) ∧ loD (l.map turnP) = -(hiD l) ∧ driV (l.map turnP) = -(driV l)) ?_ ?_ l
  · intro _; exact ⟨by decide, by decide, by decide⟩
  · intro l c ih h
    rw [List.all_append, Bool.and_eq_true] at h
    obtain ⟨i1, i2, i3⟩ := ih h.1
    have hc : isPul c = true := by simpa using h.2
    rw [List.map_append, List.map_singleton, hiD_snoc, loD_snoc, hiD_snoc, loD_snoc, driV_snoc, driV_snoc, i1, i2, i3, step_of, step_of]
    rcases pul_cases hc with rfl | rfl | rfl
    · rw [show turnP 45 = 43 by decide]; first | (simp; done) | (simp; omega)
    · rw [show turnP 43 = 45 by decide]; first | (simp; done) | (simp; omega)
    · rw [show turnP 48 = 48 by decide]; first | (simp; done) | (simp; omega)
theorem wid_turn {l : List UInt8} (h : sigB l = true) : widV (l.map turnP) = widV l := by
  have ha : l.all isPul = true := List.all_eq_true.2 (sigB_true.1 h).2
  obtain ⟨h1, h2, _⟩ := turn_wide l ha
  rw [wid_hl h, wid_hl (sig_turn h), h1, h2]
  omega
theorem wid_pls {l : List UInt8} (h : sigB l = true) : 0 ≤ widV l ∧ widV l ≤ pls l ∧ (widV l = 0 ↔ pls l = 0) := by
  obtain ⟨h1, h2, h3, h4⟩ := wide_all l
  rw [wid_hl h]
  exact ⟨by omega, h3, h4⟩
theorem wid_longer {l : List UInt8} (h : sigB l = true) (h2 : l.length < 80) : widV (l ++ [43]) = widV l ∨ widV (l ++ [43]) = widV l + 1 := by
  have hs : sigB (l ++ [43]) = true := by
    refine sigB_true.2 ⟨by simp; omega, fun c hc => ?_⟩
    rcases List.mem_append.1 hc with h3 | h3
    · exact (sigB_true.1 h).2 c h3
    · rw [List.mem_singleton.1 h3]; rfl
  obtain ⟨h1, h3, _, _⟩ := wide_all l
  rw [wid_hl h, wid_hl hs, hiD_snoc, loD_snoc, driV_snoc, step_of, if_pos rfl]
  omega
end Go.Proofs.YtgnolhikphoagaaDoor
