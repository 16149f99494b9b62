/-
  Mathematics of crossings: rounds are as many as lie one on the other. Nothing here speaks of the program.
-/
import Derived.Test.YtjboamhjfncgdaaRtY
namespace Go.Proofs.Ytjboamhjfncgdaa

/-- a chain that begins at k: each of it lies on the one ahead of it -/
def Ch (R : List Rot) : Nat → List Nat → Prop
  | k, [] => k < R.length
  | k, j :: c => j ∈ abvN R k ∧ Ch R j c
theorem Ch.lt {R : List Rot} : ∀ {k c}, Ch R k c → k < R.length
  | _, [], h => h
  | _, _ :: _, h => by have := (abvN_mem.1 h.1).1; have := h.2.lt; omega
def leftC (L : List Int) (c : List Nat) : Nat := (c.filter fun i => !inL L i).length
/-- with each that is lifted, all that lie on it are -/
def Closed (R : List Rot) (L : List Int) : Prop := ∀ k, k < R.length → inL L k = true → ∀ i ∈ abvN R k, inL L i = true
theorem leftC_none {R : List Rot} {L : List Int} (hc : Closed R L) : ∀ {k c}, Ch R k c → inL L k = true → leftC L (k :: c) = 0
  | k, [], _, hk => by unfold leftC; simp [hk]
  | k, j :: c, h, hk => by
    have hj := hc k h.lt hk j h.1
    have := leftC_none hc h.2 hj
    unfold leftC at this ⊢
    rw [List.filter_cons, hk]
    exact this
theorem leftC_step {R : List Rot} {L M : List Int} (hc : Closed R L) (hM : ∀ k, k < R.length → inL M k = true → inL L k = false → ∀ i ∈ abvN R k, inL L i = true) : ∀ {k c}, Ch R k c → leftC L (k :: c) ≤ leftC M (k :: c) + 1
  | k, [], _ => by unfold leftC; simp [List.filter_cons]; split <;> simp
  | k, j :: c, h => by
    cases hk : inL L k
    · cases hm : inL M k
      · have ih := leftC_step hc hM h.2
        unfold leftC at ih ⊢
        rw [List.filter_cons (x := k), List.filter_cons (x := k), hk, hm]
        simp only [Bool.not_false, if_true, List.length_cons] at ih ⊢
        omega
      · have hj := hM k h.lt hm hk j h.1
        have := leftC_none hc h.2 hj
        unfold leftC at this ⊢
        rw [List.filter_cons (x := k), hk]
        simp only [Bool.not_false, if_true, List.length_cons]
        omega
    · rw [leftC_none hc h hk]; omega
theorem inL_app (L M : List Int) (k : Nat) : inL (L ++ M) k = (inL L k || inL M k) := by
  unfold inL
  rw [← Bool.decide_or]
  exact decide_eq_decide.2 List.mem_append
theorem inL_ints (F : List Nat) (k : Nat) : inL (ints F) k = decide (k ∈ F) := by unfold inL; exact decide_eq_decide.2 ints_mem
theorem free_abv {R : List Rot} {L : List Int} {k : Nat} (h : k ∈ freeN R L) : ∀ i ∈ abvN R k, inL L i = true := by
  have := (freeN_mem.1 h).2
  unfold freeB at this
  rw [Bool.and_eq_true, List.all_eq_true] at this
  exact this.1
theorem more_free {R : List Rot} {L : List Int} {k : Nat} (h : inL (L ++ ints (freeN R L)) k = true) (h2 : inL L k = false) : k ∈ freeN R L := by
  rw [inL_app, h2, Bool.false_or, inL_ints] at h
  exact of_decide_eq_true h
theorem closed_more {R : List Rot} {L : List Int} (hc : Closed R L) : Closed R (L ++ ints (freeN R L)) := fun k hk h i hi => by
  rw [inL_app]
  cases h2 : inL L k
  · rw [free_abv (more_free h h2) i hi]; rfl
  · rw [hc k hk h2 i hi]; rfl
theorem left_none {R : List Rot} {L : List Int} (h : leftN R L = []) {k : Nat} (hk : k < R.length) : inL L k = true := by
  cases h2 : inL L k
  · have := leftN_mem.2 ⟨hk, h2⟩
    rw [h] at this; cases this
  · rfl
theorem rnd_next {R : List Rot} {L : List Int} {f : Nat} (h8 : R.length ≤ 8) (hn : leftN R L ≠ []) (hf : (leftN R L).length ≤ f + 1) :
    (rndF R 8 (f + 1) L).length = (rndF R 8 f (L ++ ints (freeN R L))).length + 1 ∧ (leftN R (L ++ ints (freeN R L))).length ≤ f := by
  have ht : (freeN R L).take 8 = freeN R L := List.take_of_length_le (Nat.le_trans (freeN_len R L) h8)
  have h1 := left_rest (R := R) (L := L) (freeN_nodup R L) fun x hx => hx
  have hp := List.length_pos_iff.2 (free_some hn)
  rw [rndF_cons hn, ht, List.length_cons]
  exact ⟨rfl, by omega⟩
theorem chain_le {R : List Rot} (h8 : R.length ≤ 8) : ∀ f L, Closed R L → (leftN R L).length ≤ f → ∀ k c, Ch R k c → leftC L (k :: c) ≤ (rndF R 8 f L).length
  | 0, L, hc, hf, k, c, h => by
    rw [leftC_none hc h (left_none (List.eq_nil_of_length_eq_zero (by omega)) h.lt)]; omega
  | f + 1, L, hc, hf, k, c, h => by
    by_cases hn : leftN R L = []
    · rw [leftC_none hc h (left_none hn h.lt)]; omega
    · obtain ⟨h1, h2⟩ := rnd_next h8 hn hf
      have ih := chain_le h8 f _ (closed_more hc) h2 k c h
      have := leftC_step (M := L ++ ints (freeN R L)) hc (fun j _ hj hj2 => free_abv (more_free hj hj2)) h
      omega
theorem chain_top {R : List Rot} {L : List Int} : ∀ {c k}, Ch R k c → (∀ x ∈ k :: c, inL (L ++ ints (freeN R L)) x = false) → ∃ i, Ch R k (c ++ [i]) ∧ inL L i = false
  | [], k, h, hx => by
    have h1 := hx k (by simp)
    rw [inL_app, Bool.or_eq_false_iff, inL_ints] at h1
    have h2 : k ∉ freeN R L := of_decide_eq_false h1.2
    have h3 : ¬ ∀ i ∈ abvN R k, inL L i = true := fun ha => h2 (freeN_mem.2 ⟨h, by
      unfold freeB
      rw [Bool.and_eq_true, List.all_eq_true]
      exact ⟨ha, by rw [h1.1]; rfl⟩⟩)
    obtain ⟨i, hi⟩ := Classical.not_forall.1 h3
    obtain ⟨hi1, hi2⟩ := Classical.not_imp.1 hi
    exact ⟨i, ⟨hi1, (abvN_mem.1 hi1).2.1⟩, by simpa using hi2⟩
  | j :: c, k, h, hx => by
    obtain ⟨i, h1, h2⟩ := chain_top h.2 fun x hm => hx x (List.mem_cons_of_mem _ hm)
    exact ⟨i, ⟨h.1, h1⟩, h2⟩
theorem chain_ex {R : List Rot} (h8 : R.length ≤ 8) : ∀ f L, (leftN R L).length ≤ f → leftN R L ≠ [] → ∃ k c, Ch R k c ∧ (∀ x ∈ k :: c, inL L x = false) ∧ c.length + 1 = (rndF R 8 f L).length
  | 0, L, hf, hn => absurd (List.eq_nil_of_length_eq_zero (by omega)) hn
  | f + 1, L, hf, hn => by
    obtain ⟨h1, h2⟩ := rnd_next h8 hn hf
    by_cases hm : leftN R (L ++ ints (freeN R L)) = []
    · obtain ⟨k, hk⟩ := List.exists_mem_of_ne_nil _ hn
      obtain ⟨k1, k2⟩ := leftN_mem.1 hk
      rw [rndF_nil hm] at h1
      exact ⟨k, [], k1, fun x hx => by rw [List.mem_singleton] at hx; rw [hx]; exact k2, by rw [h1]; rfl⟩
    · obtain ⟨k, c, hc, hx, hl⟩ := chain_ex h8 f _ h2 hm
      obtain ⟨i, hi, hi2⟩ := chain_top hc hx
      refine ⟨k, c ++ [i], hi, fun x hm2 => ?_, by simp; omega⟩
      rcases (by simpa using hm2 : x = k ∨ x ∈ c ∨ x = i) with e | e | e
      · have := hx k (by simp)
        rw [inL_app, Bool.or_eq_false_iff] at this
        rw [e]; exact this.1
      · have := hx x (List.mem_cons_of_mem _ e)
        rw [inL_app, Bool.or_eq_false_iff] at this
        exact this.1
      · rw [e]; exact hi2
/-- THE ROUNDS ARE THE LONGEST CHAIN -/
theorem rds_le {R : List Rot} (h8 : R.length ≤ 8) {k c} (h : Ch R k c) : c.length + 1 ≤ rdsN R := by
  have := chain_le h8 R.length [] (fun k _ hk => by simp [inL] at hk) (by unfold leftN; exact Nat.le_trans (List.length_filter_le _ _) (by simp)) k c h
  unfold rdsN
  have e : leftC [] (k :: c) = c.length + 1 := by
    unfold leftC
    rw [List.filter_eq_self.2 fun a _ => by simp [inL]]; rfl
  omega
theorem rds_ex {R : List Rot} (h8 : R.length ≤ 8) (h0 : 0 < R.length) : ∃ k c, Ch R k c ∧ c.length + 1 = rdsN R := by
  obtain ⟨k, c, h, _, hl⟩ := chain_ex h8 R.length [] (by unfold leftN; exact Nat.le_trans (List.length_filter_le _ _) (by simp)) (by
    intro e
    have := left_none e h0
    simp [inL] at this)
  exact ⟨k, c, h, hl⟩
end Go.Proofs.Ytjboamhjfncgdaa
