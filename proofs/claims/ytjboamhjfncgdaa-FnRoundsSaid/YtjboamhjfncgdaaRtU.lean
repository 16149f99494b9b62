/-
  Mathematics of crossings: rounds of a chart without one route. Nothing here speaks of the program.
-/
import Derived.Test.YtjboamhjfncgdaaRtX
namespace Go.Proofs.Ytjboamhjfncgdaa

theorem Ch.ge {R : List Rot} : ∀ {c k}, Ch R k c → ∀ x ∈ k :: c, k ≤ x
  | [], k, _, x, hx => by rw [List.mem_singleton] at hx; omega
  | j :: c, k, h, x, hx => by
    have h1 := (abvN_mem.1 h.1).1
    rcases List.mem_cons.1 hx with e | e
    · omega
    · have := Ch.ge h.2 x e; omega
section
variable {R D : List Rot} {k : Nat}
theorem crI_sk (hat : ∀ a, rotAt D a = rotAt R (skN k a)) (i j : Nat) : crI R (skN k i) (skN k j) = crI D i j := by unfold crI; rw [hat, hat]
theorem skN_bd (hk : k ≤ D.length) (a : Nat) : skN k a < D.length + 1 ↔ a < D.length := by unfold skN; split <;> omega
theorem ch_up (hlen : R.length = D.length + 1) (hk : k ≤ D.length) (hat : ∀ a, rotAt D a = rotAt R (skN k a)) : ∀ {c a}, Ch D a c → Ch R (skN k a) (c.map (skN k))
  | [], a, h => by show skN k a < R.length; rw [hlen]; exact (skN_bd hk a).2 h
  | j :: c, a, h => by
    obtain ⟨h1, h2, h3⟩ := abvN_mem.1 h.1
    exact ⟨abvN_mem.2 ⟨skN_lt.2 h1, by rw [hlen]; exact (skN_bd hk j).2 h2, by rw [crI_sk hat]; exact h3⟩, ch_up hlen hk hat h.2⟩
theorem ch_down (hlen : R.length = D.length + 1) (hk : k ≤ D.length) (hat : ∀ a, rotAt D a = rotAt R (skN k a)) : ∀ {c a}, Ch R a c → (∀ x ∈ a :: c, x ≠ k) → ∃ b c', a = skN k b ∧ c'.length = c.length ∧ Ch D b c'
  | [], a, h, hx => by
    obtain ⟨b, rfl⟩ := skN_of (hx a (by simp))
    exact ⟨b, [], rfl, rfl, (skN_bd hk b).1 (by rw [← hlen]; exact h)⟩
  | j :: c, a, h, hx => by
    obtain ⟨b1, c1, rfl, hl, hc⟩ := ch_down hlen hk hat h.2 fun x hm => hx x (List.mem_cons_of_mem _ hm)
    obtain ⟨b, rfl⟩ := skN_of (hx a (by simp))
    obtain ⟨h1, _, h3⟩ := abvN_mem.1 h.1
    rw [crI_sk hat] at h3
    exact ⟨b, b1 :: c1, rfl, by simp [hl], abvN_mem.2 ⟨skN_lt.1 h1, hc.lt, h3⟩, hc⟩
theorem ch_rest (hlen : R.length = D.length + 1) (hk : k ≤ D.length) (hat : ∀ a, rotAt D a = rotAt R (skN k a)) (h8 : D.length ≤ 8) {b : Nat} {r : List Nat} (h : Ch R b r) (hb : k ≤ b) :
    ∃ q, r.length + 1 ≤ q + 1 ∧ q ≤ rdsN D ∧ (k = D.length → q = 0) := by
  rcases (by omega : b = k ∨ k < b) with rfl | hlt
  · cases r with
    | nil => exact ⟨0, by simp, by omega, fun _ => rfl⟩
    | cons j r =>
      have hj := (abvN_mem.1 h.1).1
      obtain ⟨b1, c1, _, hl, hc⟩ := ch_down hlen hk hat h.2 fun x hm => by have := Ch.ge h.2 x hm; omega
      have := rds_le h8 hc
      refine ⟨r.length + 1, by simp, by omega, fun e => ?_⟩
      have := h.2.lt; omega
  · obtain ⟨b1, c1, _, hl, hc⟩ := ch_down hlen hk hat h fun x hm => by have := Ch.ge h x hm; omega
    have := rds_le h8 hc
    refine ⟨r.length + 1, by omega, by omega, fun e => ?_⟩
    have := h.lt; omega
theorem ch_lo : ∀ {c a}, Ch R a c → a < k → ∃ c' c'', Ch R a c' ∧ (∀ x ∈ a :: c', x < k) ∧ c = c' ++ c'' ∧ (c'' = [] ∨ ∃ b r, c'' = b :: r ∧ k ≤ b ∧ Ch R b r)
  | [], a, h, hk => ⟨[], [], h, fun x hx => by rw [List.mem_singleton] at hx; omega, rfl, .inl rfl⟩
  | j :: c, a, h, hk => by
    by_cases hj : j < k
    · obtain ⟨c', c'', h1, h2, h3, h4⟩ := ch_lo h.2 hj
      exact ⟨j :: c', c'', ⟨h.1, h1⟩, fun x hx => by
        rcases List.mem_cons.1 hx with e | e
        · omega
        · exact h2 x e, by rw [h3]; rfl, h4⟩
    · exact ⟨[], j :: c, (by have := (abvN_mem.1 h.1); show a < R.length; omega), fun x hx => by rw [List.mem_singleton] at hx; omega, rfl, .inr ⟨j, c, rfl, by omega, h.2⟩⟩
theorem ch_split (hlen : R.length = D.length + 1) (hk : k ≤ D.length) (hat : ∀ a, rotAt D a = rotAt R (skN k a)) (h8 : D.length ≤ 8) {a : Nat} {c : List Nat} (h : Ch R a c) :
    ∃ p q, c.length + 1 ≤ p + q + 1 ∧ p ≤ rdsN D ∧ q ≤ rdsN D ∧ (k = 0 → p = 0) ∧ (k = D.length → q = 0) := by
  by_cases ha : a < k
  · obtain ⟨c', c'', h1, h2, h3, h4⟩ := ch_lo h ha
    obtain ⟨b1, c1, _, hl, hc⟩ := ch_down hlen hk hat h1 fun x hm => by have := h2 x hm; omega
    have hp := rds_le h8 hc
    rcases h4 with rfl | ⟨b, r, rfl, hb, hr⟩
    · exact ⟨c'.length + 1, 0, by rw [h3]; simp, by omega, by omega, fun e => by omega, fun _ => rfl⟩
    · obtain ⟨q, q1, q2, q3⟩ := ch_rest hlen hk hat h8 hr hb
      exact ⟨c'.length + 1, q, by rw [h3]; simp; omega, by omega, q2, fun e => by omega, q3⟩
  · obtain ⟨q, q1, q2, q3⟩ := ch_rest hlen hk hat h8 h (by omega)
    exact ⟨0, q, by omega, by omega, q2, fun _ => rfl, q3⟩
/-- ROUNDS WITHOUT ONE ROUTE -/
theorem rds_drop (hlen : R.length = D.length + 1) (hk : k ≤ D.length) (hat : ∀ a, rotAt D a = rotAt R (skN k a)) (h8 : R.length ≤ 8) :
    rdsN D ≤ rdsN R ∧ rdsN R ≤ 2 * rdsN D + 1 ∧ (k = 0 ∨ k = D.length → rdsN R ≤ rdsN D + 1) := by
  obtain ⟨a, c, h, hl⟩ := rds_ex h8 (by omega)
  obtain ⟨p, q, h1, h2, h3, h4, h5⟩ := ch_split hlen hk hat (by omega) h
  refine ⟨?_, by omega, fun e => ?_⟩
  · rcases (by omega : D.length = 0 ∨ 0 < D.length) with h0 | h0
    · have : rdsN D = 0 := by unfold rdsN; rw [h0]; rfl
      omega
    · obtain ⟨b, c', hb, hl'⟩ := rds_ex (R := D) (by omega) h0
      have := rds_le h8 (ch_up hlen hk hat hb)
      rw [List.length_map] at this
      omega
  · rcases e with e | e
    · have := h4 e; omega
    · have := h5 e; omega
end
theorem rds_one {R : List Rot} (h8 : R.length ≤ 8) (h0 : 0 < R.length) : rdsN R = 1 ↔ crsN R R.length = 0 := by
  constructor
  · intro h
    rw [← crs_abv]
    have : ∀ k, k < R.length → (abvN R k).length = 0 := fun k hk => by
      cases ha : abvN R k with
      | nil => rfl
      | cons j l =>
        have hj : j ∈ abvN R k := by rw [ha]; simp
        have := rds_le h8 (k := k) (c := [j]) ⟨hj, (abvN_mem.1 hj).2.1⟩
        simp at this; omega
    have h2 := sumTo_congr (f := fun k => (abvN R k).length) (g := fun _ => 0) (m := R.length) this
    rw [h2, sumTo_none]
  · intro h
    obtain ⟨k, c, hc, hl⟩ := rds_ex h8 h0
    cases c with
    | nil => simpa using hl.symm
    | cons j c =>
      have h1 := hc.1
      rw [crs_none h hc.lt] at h1
      cases h1
theorem rds_n (R : List Rot) : rdsN R ≤ R.length := rndF_len R 8 R.length []
end Go.Proofs.Ytjboamhjfncgdaa
