/-
  Sets of indexes by powers of 2: the mathematics of the model's JointBest.
-/
import Derived.Test.YtmbdggakahbciaaJoL0
namespace Go.Proofs.Ytmbdggakahbciaa

/-- the indexes of a set, of the first i -/
def bits (s : Nat) : Nat → List Int
  | 0 => []
  | i + 1 => bits s i ++ (if s.testBit i then [(i : Int)] else [])
theorem bits_yes {s i : Nat} (h : s / 2 ^ i % 2 = 1) : bits s (i + 1) = bits s i ++ [(i : Int)] := by
  rw [bits, if_pos]
  rw [Nat.testBit_eq_decide_div_mod_eq]; simpa using h
theorem bits_no {s i : Nat} (h : ¬ s / 2 ^ i % 2 = 1) : bits s (i + 1) = bits s i := by
  rw [bits, if_neg, List.append_nil]
  rw [Nat.testBit_eq_decide_div_mod_eq]; simpa using h
theorem lastI_mem {r : List Int} (h : ¬ r.length = 0) : lastI r ∈ r := by
  unfold lastI
  rw [List.getElem?_eq_getElem (by omega)]
  exact List.getElem_mem _
theorem ascP_more {n m : Nat} {x : List Int} (h : ascP n x) (hnm : n ≤ m) : ascP m x := ⟨h.1, fun i hi => by have := h.2 i hi; omega⟩
theorem bits_asc (s : Nat) : ∀ i, ascP i (bits s i)
  | 0 => ⟨by simp [bits], by simp [bits]⟩
  | i + 1 => by
    have ih := bits_asc s i
    rw [bits]
    by_cases h : s.testBit i = true
    · rw [if_pos h]
      refine asc_snoc.2 ⟨ascP_more ih (by omega), by omega, ?_⟩
      by_cases h0 : (bits s i).length = 0
      · exact .inl h0
      · right
        exact (ih.2 _ (lastI_mem h0)).2
    · rw [if_neg h, List.append_nil]
      exact ascP_more ih (by omega)
theorem bits_length (s : Nat) : ∀ i, (bits s i).length ≤ i
  | 0 => by simp [bits]
  | i + 1 => by
    have ih := bits_length s i
    rw [bits, List.length_append]
    split <;> simp <;> omega
theorem bits_add {s n : Nat} : ∀ i, i ≤ n → bits (2 ^ n + s) i = bits s i
  | 0, _ => rfl
  | i + 1, h => by rw [bits, bits, bits_add i (by omega), Nat.testBit_two_pow_add_gt (by omega)]
theorem bits_zero : ∀ i, bits 0 i = []
  | 0 => rfl
  | i + 1 => by rw [bits, bits_zero i]; simp
theorem bits_all : ∀ (n : Nat) (y : List Int), ascP n y → ∃ s, s < 2 ^ n ∧ bits s n = y
  | 0, y, h => by
    refine ⟨0, by simp, ?_⟩
    cases y with
    | nil => rfl
    | cons a t => have := h.2 a (by simp); omega
  | n + 1, y, h => by
    rcases List.eq_nil_or_concat y with rfl | ⟨r, i, rfl⟩
    · exact ⟨0, Nat.two_pow_pos _, bits_zero _⟩
    · rw [List.concat_eq_append] at *
      obtain ⟨h1, h2, h3⟩ := asc_snoc.1 h
      by_cases hi : i = (n : Int)
      · subst hi
        have hr : ascP n r := by
          refine ⟨h1.1, fun j hj => ⟨(h1.2 j hj).1, ?_⟩⟩
          have h4 := h.1
          rw [List.pairwise_append] at h4
          exact h4.2.2 j hj _ (by simp)
        obtain ⟨s, hs, e⟩ := bits_all n r hr
        refine ⟨2 ^ n + s, by rw [Nat.pow_succ]; omega, ?_⟩
        rw [bits, bits_add n (Nat.le_refl _), e, Nat.testBit_two_pow_add_eq, Nat.testBit_lt_two_pow hs]
        rfl
      · have hy : ascP n (r ++ [i]) := by
          refine asc_snoc.2 ⟨⟨h1.1, fun j hj => ⟨(h1.2 j hj).1, ?_⟩⟩, by omega, h3⟩
          have h4 := h.1
          rw [List.pairwise_append] at h4
          have := h4.2.2 j hj i (by simp)
          omega
        obtain ⟨s, hs, e⟩ := bits_all n _ hy
        refine ⟨s, by rw [Nat.pow_succ]; omega, ?_⟩
        rw [bits, e, Nat.testBit_lt_two_pow hs]
        simp

/-- the miles of a set of one kind, -1 if another one is in it -/
def jval (L : List Spr) (kind : Int) (x : List Int) : Int := if x.all (fun i => ofKind kind (sprAt L i.toNat)) then sumZ L x else -1
theorem allK_all {L : List Spr} {kind : Int} {x : List Int} : allK L kind x ↔ x.all (fun i => ofKind kind (sprAt L i.toNat)) = true := by
  unfold allK; rw [List.all_eq_true]
theorem jval_yes {L : List Spr} {kind : Int} {x : List Int} (h : allK L kind x) : jval L kind x = sumZ L x := by unfold jval; rw [if_pos (allK_all.1 h)]
theorem jval_no {L : List Spr} {kind : Int} {x : List Int} (h : ¬ allK L kind x) : jval L kind x = -1 := by unfold jval; rw [if_neg (fun h2 => h (allK_all.2 h2))]
theorem join_iff {L : List Spr} {kind miles : Int} {x : List Int} (hm : 1 ≤ miles) (h : ascP L.length x) : joinP L kind miles x ↔ miles ≤ jval L kind x := by
  by_cases h1 : allK L kind x
  · rw [jval_yes h1]; exact ⟨fun h => h.2.2, fun h2 => ⟨h, h1, h2⟩⟩
  · rw [jval_no h1]; exact ⟨fun h2 => absurd h2.2.1 h1, fun h2 => by omega⟩
theorem join_ne {L : List Spr} {kind miles : Int} {x : List Int} (hm : 1 ≤ miles) (h : joinP L kind miles x) : x ≠ [] := by
  rintro rfl
  have := h.2.2
  simp [sumZ] at this
  omega

/-- the best one of the sets 1 to t -/
def bestN (L : List Spr) (kind miles : Int) : Nat → List Int
  | 0 => []
  | t + 1 => if miles ≤ jval L kind (bits (t + 1) L.length) ∧ (bestN L kind miles t = [] ∨ ahead L (bits (t + 1) L.length) (bestN L kind miles t) = true) then bits (t + 1) L.length else bestN L kind miles t
theorem bestN_take {L : List Spr} {kind miles : Int} {t : Nat} (h : miles ≤ jval L kind (bits (t + 1) L.length)) (h2 : bestN L kind miles t = [] ∨ ahead L (bits (t + 1) L.length) (bestN L kind miles t) = true) : bestN L kind miles (t + 1) = bits (t + 1) L.length := by rw [bestN, if_pos ⟨h, h2⟩]
theorem bestN_keep1 {L : List Spr} {kind miles : Int} {t : Nat} (h : ¬ miles ≤ jval L kind (bits (t + 1) L.length)) : bestN L kind miles (t + 1) = bestN L kind miles t := by rw [bestN, if_neg (fun h2 => h h2.1)]
theorem bestN_keep2 {L : List Spr} {kind miles : Int} {t : Nat} (h : bestN L kind miles t ≠ []) (h2 : ahead L (bits (t + 1) L.length) (bestN L kind miles t) = false) : bestN L kind miles (t + 1) = bestN L kind miles t := by
  rw [bestN, if_neg]
  rintro ⟨_, h3 | h3⟩
  · exact h h3
  · rw [h2] at h3; cases h3
theorem bestN_inv {L : List Spr} {kind miles : Int} (hm : 1 ≤ miles) : ∀ t, (bestN L kind miles t = [] ∧ ∀ m, 1 ≤ m → m ≤ t → ¬ joinP L kind miles (bits m L.length)) ∨ (joinP L kind miles (bestN L kind miles t) ∧ ∀ m, 1 ≤ m → m ≤ t → joinP L kind miles (bits m L.length) → ahead L (bits m L.length) (bestN L kind miles t) = false)
  | 0 => .inl ⟨rfl, fun m h1 h2 => by omega⟩
  | t + 1 => by
    have hj := join_iff (kind := kind) hm (bits_asc (t + 1) L.length)
    by_cases h1 : miles ≤ jval L kind (bits (t + 1) L.length)
    · have hj1 := hj.2 h1
      rcases bestN_inv hm t with ⟨h2, h3⟩ | ⟨h2, h3⟩
      · rw [bestN_take h1 (.inl h2)]
        refine .inr ⟨hj1, fun m g1 g2 g3 => ?_⟩
        by_cases e : m = t + 1
        · subst e; exact Bool.eq_false_iff.2 (fun h => by have := ahead_asymm h; rw [h] at this; cases this)
        · exact absurd g3 (h3 m g1 (by omega))
      · by_cases h4 : ahead L (bits (t + 1) L.length) (bestN L kind miles t) = true
        · rw [bestN_take h1 (.inr h4)]
          refine .inr ⟨hj1, fun m g1 g2 g3 => ?_⟩
          by_cases e : m = t + 1
          · subst e; exact Bool.eq_false_iff.2 (fun h => by have := ahead_asymm h; rw [h] at this; cases this)
          · refine Bool.eq_false_iff.2 (fun h => ?_)
            have := ahead_trans h h4
            rw [h3 m g1 (by omega) g3] at this; cases this
        · have h4' : ahead L (bits (t + 1) L.length) (bestN L kind miles t) = false := by simpa using h4
          rw [bestN_keep2 (join_ne hm h2) h4']
          refine .inr ⟨h2, fun m g1 g2 g3 => ?_⟩
          by_cases e : m = t + 1
          · subst e; exact h4'
          · exact h3 m g1 (by omega) g3
    · rw [bestN_keep1 h1]
      rcases bestN_inv hm t with ⟨h2, h3⟩ | ⟨h2, h3⟩
      · refine .inl ⟨h2, fun m g1 g2 g3 => ?_⟩
        by_cases e : m = t + 1
        · subst e; exact h1 (hj.1 g3)
        · exact h3 m g1 (by omega) g3
      · refine .inr ⟨h2, fun m g1 g2 g3 => ?_⟩
        by_cases e : m = t + 1
        · subst e; exact absurd (hj.1 g3) h1
        · exact h3 m g1 (by omega) g3
/-- behind all sets it is the program's -/
theorem bestN_all {L : List Spr} (hL : sprB 10 L = true) (kind : Int) {miles : Int} (hm : 1 ≤ miles ∧ miles ≤ 500) {t : Nat} (ht : t + 1 = 2 ^ L.length) : bestN L kind miles t = jointL L kind miles ∧ decide (0 < (bestN L kind miles t).length) = jointB L kind miles := by
  have key : ∀ y, joinP L kind miles y → ∃ m, 1 ≤ m ∧ m ≤ t ∧ bits m L.length = y := by
    intro y hy
    obtain ⟨s, hs, e⟩ := bits_all _ _ hy.1
    refine ⟨s, ?_, by omega, e⟩
    rcases Nat.eq_zero_or_pos s with h | h
    · subst h
      rw [bits_zero] at e
      exact absurd e.symm (join_ne hm.1 hy)
    · exact h
  rcases joint_spec hL kind hm with ⟨_, h2, h3⟩ | ⟨x, h2, h3, _⟩
  · obtain ⟨g1, g2⟩ := joint_none h2
    rcases bestN_inv (L := L) (kind := kind) hm.1 t with ⟨h4, _⟩ | ⟨h4, _⟩
    · rw [h4, g1, g2]; exact ⟨rfl, rfl⟩
    · exact absurd h4 (h3 _)
  · obtain ⟨g1, g2⟩ := joint_some h2
    rcases bestN_inv (L := L) (kind := kind) hm.1 t with ⟨_, h4⟩ | ⟨h4, h5⟩
    · obtain ⟨m, k1, k2, k3⟩ := key x h3.1
      exact absurd (by rw [k3]; exact h3.1) (h4 m k1 k2)
    · have hb : bestP L kind miles (bestN L kind miles t) := ⟨h4, fun y hy => by
        obtain ⟨m, k1, k2, k3⟩ := key y hy
        rw [← k3]; exact h5 m k1 k2 (by rw [k3]; exact hy)⟩
      have e := bestP_one hb h3
      rw [e, g1, g2]
      refine ⟨rfl, decide_eq_true ?_⟩
      have := join_ne hm.1 h3.1
      exact List.length_pos_iff.2 this

end Go.Proofs.Ytmbdggakahbciaa
