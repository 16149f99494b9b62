/-
  Plain mathematics of the law SignalVote. Nothing here speaks of the program.
-/
import Derived.Test.YthhckijoilphiaaDoorSgU
namespace Go.Proofs.YthhckijoilphiaaDoor

theorem voP_rot (x y z : UInt8) : voP z x y = voP x y z := by
  unfold voP
  by_cases h1 : x = y <;> by_cases h2 : x = z <;> by_cases h3 : y = z <;> simp_all <;> simp_all [eq_comm]
theorem voP_swap (x y z : UInt8) : voP y x z = voP x y z := by
  unfold voP
  by_cases h1 : x = y <;> by_cases h2 : x = z <;> by_cases h3 : y = z <;> simp_all <;> simp_all [eq_comm]
theorem voT_rot (a b c : List UInt8) (k : Nat) : voT c a b k = voT a b c k := by
  unfold voT
  apply List.map_congr_left
  intro i _
  exact voP_rot _ _ _
theorem voT_swap (a b c : List UInt8) (k : Nat) : voT b a c k = voT a b c k := by
  unfold voT
  apply List.map_congr_left
  intro i _
  exact voP_swap _ _ _
theorem voT_same (a b : List UInt8) : voT a a b a.length = a := by
  apply List.ext_getElem (voT_len _ _ _ _)
  intro i h1 h2
  unfold voT
  simp [voP, h2]
theorem voB_true {a b c : List UInt8} : voB a b c = true ↔ (sigB a = true ∧ sigB b = true ∧ sigB c = true) ∧ a.length = b.length ∧ b.length = c.length := by
  unfold voB
  rw [Bool.and_eq_true, twoB_true, twoB_true]
  constructor
  · rintro ⟨⟨h1, h2, h3⟩, h4, h5, h6⟩; exact ⟨⟨h1, h2, h5⟩, h3, h6⟩
  · rintro ⟨⟨h1, h2, h3⟩, h4, h5⟩; exact ⟨⟨h1, h2, h4⟩, h2, h3, h5⟩
theorem vote_rot {a b c : List UInt8} (h : voB a b c = true) : voB c a b = true ∧ voV c a b = voV a b c := by
  obtain ⟨⟨h1, h2, h3⟩, h4, h5⟩ := voB_true.1 h
  have h6 : voB c a b = true := voB_true.2 ⟨⟨h3, h1, h2⟩, by omega, by omega⟩
  refine ⟨h6, ?_⟩
  rw [voV_yes h6, voV_yes h, voT_rot, show c.length = a.length by omega]
theorem vote_swap {a b c : List UInt8} (h : voB a b c = true) : voB b a c = true ∧ voV b a c = voV a b c := by
  obtain ⟨⟨h1, h2, h3⟩, h4, h5⟩ := voB_true.1 h
  have h6 : voB b a c = true := voB_true.2 ⟨⟨h2, h1, h3⟩, by omega, by omega⟩
  refine ⟨h6, ?_⟩
  rw [voV_yes h6, voV_yes h, voT_swap, show b.length = a.length by omega]
theorem vote_same {a b c : List UInt8} (h : voB a b c = true) : voB a a b = true ∧ voV a a b = a := by
  obtain ⟨⟨h1, h2, h3⟩, h4, h5⟩ := voB_true.1 h
  have h6 : voB a a b = true := voB_true.2 ⟨⟨h1, h1, h2⟩, by omega, by omega⟩
  exact ⟨h6, by rw [voV_yes h6, voT_same]⟩
/-- the pulse that is held true, and how many of the three are it -/
theorem voP_two (x y z : UInt8) : (x = voP x y z ∧ y = voP x y z) ∨ (x = voP x y z ∧ z = voP x y z) ∨ (y = voP x y z ∧ z = voP x y z) ∨ voP x y z = 48 := by
  by_cases h : x = y
  · subst h; exact .inl ⟨by rw [voP_first (.inl rfl)], by rw [voP_first (.inl rfl)]⟩
  · by_cases h2 : x = z
    · subst h2; exact .inr (.inl ⟨by rw [voP_first (.inr rfl)], by rw [voP_first (.inr rfl)]⟩)
    · by_cases h3 : y = z
      · subst h3; exact .inr (.inr (.inl ⟨by rw [voP_second h h2 rfl], by rw [voP_second h h2 rfl]⟩))
      · exact .inr (.inr (.inr (voP_none h h2 h3)))
theorem voT_at {a b c : ByteArray} {k : Nat} (h1 : k < a.size) (h2 : k < b.size) (h3 : k < c.size) {n : Nat} (h : k < n) : (voT (byL a) (byL b) (byL c) n)[k]? = some (voP a[k] b[k] c[k]) := by
  unfold voT
  rw [List.getElem?_map, List.getElem?_range h]
  simp [byL_at a k h1, byL_at b k h2, byL_at c k h3]
end Go.Proofs.YthhckijoilphiaaDoor
