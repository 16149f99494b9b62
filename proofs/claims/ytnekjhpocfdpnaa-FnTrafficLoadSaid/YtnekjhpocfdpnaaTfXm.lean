/-
  Mathematics of traffic: the other side, all but one, a net without its cut, three stations. Nothing here speaks of the program.
-/
import Derived.Test.YtnekjhpocfdpnaaTfC
namespace Go.Proofs.Ytnekjhpocfdpnaa

section
variable {n : Int} {N : List Lin} {f t : Int} {S : List Int}
theorem sd_nat {S : List Int} {k : Nat} (h : k < S.length) : sdAt S (k : Int) = S[k] := by simp [sdAt, h]
/-- the other side -/
def compS (S : List Int) : List Int := S.map (fun x => 1 - x)
theorem comp_len (S : List Int) : (compS S).length = S.length := by simp [compS]
theorem comp_at {x : Int} (h0 : 0 ≤ x) (h1 : x < (S.length : Int)) : sdAt (compS S) x = 1 - sdAt S x := by
  obtain ⟨k, rfl⟩ : ∃ k : Nat, x = (k : Int) := ⟨x.toNat, by omega⟩
  have hk : k < S.length := by omega
  rw [sd_nat hk, sd_nat (by rw [comp_len]; exact hk)]
  simp [compS]
theorem end_swap (n : Int) (N : List Lin) (f t : Int) : endB n N t f = endB n N f t := by
  have h : ∀ f t, endB n N f t = true → endB n N t f = true := fun f t h => by
    obtain ⟨h1, h2, h3, h4⟩ := endB_true.1 h
    exact endB_true.2 ⟨h1, h3, h2, fun e => h4 e.symm⟩
  cases e : endB n N f t
  · cases e2 : endB n N t f
    · rfl
    · rw [h t f e2] at e; cases e
  · exact h f t e
theorem side_comp (he : endB n N f t = true) (hs : sideB n f t S = true) : sideB n t f (compS S) = true := by
  obtain ⟨_, hf, ht, _⟩ := endB_true.1 he
  obtain ⟨h1, h2, h3, h4⟩ := sideB_true.1 hs
  refine sideB_true.2 ⟨by rw [comp_len]; exact h1, ?_, by rw [comp_at ht.1 (by omega), h4]; rfl, by rw [comp_at hf.1 (by omega), h3]; rfl⟩
  intro x hx
  obtain ⟨y, hy, rfl⟩ := List.mem_map.1 hx
  have := h2 y hy
  omega
theorem cutT_comp (hn : netB n N = true) (hl : (S.length : Int) = n) : ∀ k, k ≤ N.length → cutT N (compS S) k = cutT N S k
  | 0, _ => rfl
  | k + 1, hk => by
    have h := netB_at hn (k := k) (by omega)
    rw [cutT, cutT, cutT_comp hn hl k (by omega), comp_at h.1.1.1 (by omega), comp_at h.1.2.1.1 (by omega)]
    by_cases e : sdAt S (linAt N k).a = sdAt S (linAt N k).b
    · rw [if_pos e, if_pos (by omega)]
    · rw [if_neg e, if_neg (by omega)]
theorem cutC_comp (hn : netB n N = true) (hl : (S.length : Int) = n) : cutC N (compS S) = cutC N S := cutT_comp hn hl _ (Nat.le_refl _)
theorem cut_comp (h : 0 ≤ cutV n N f t S) : cutV n N t f (compS S) = cutV n N f t S := by
  obtain ⟨h1, h2⟩ := cutV_nonneg.1 h
  rw [cutV_yes h1 h2, cutV_yes (by rw [end_swap]; exact h1) (side_comp h1 h2), cutC_comp (endB_true.1 h1).1 (sideB_true.1 h2).1]
theorem most_cutV (h : 0 ≤ cutV n N f t S) : mostV n N f t ≤ cutV n N f t S := by
  obtain ⟨h1, h2⟩ := cutV_nonneg.1 h
  rw [cutV_yes h1 h2]
  exact most_le h1 h2

/-- all on one side but one -/
def allS (m t : Nat) : List Int := (List.replicate m 1).set t 0
theorem allS_len (m t : Nat) : (allS m t).length = m := by simp [allS]
theorem allS_at {m t x : Nat} (h : x < m) : sdAt (allS m t) (x : Int) = if x = t then 0 else 1 := by
  rw [sd_nat (by rw [allS_len]; exact h)]
  simp only [allS, List.getElem_set, List.getElem_replicate]
  by_cases e : t = x
  · rw [if_pos e, if_pos e.symm]
  · rw [if_neg e, if_neg (fun h => e h.symm)]
/-- the channels of the lines at a station -/
def chT (N : List Lin) (t : Int) : Nat → Int
  | 0 => 0
  | k + 1 => chT N t k + (if (linAt N k).a = t ∨ (linAt N k).b = t then (linAt N k).c else 0)
theorem chT_bd (hn : netB n N = true) : ∀ k, k ≤ N.length → 0 ≤ chT N t k ∧ chT N t k ≤ 9 * (k : Int)
  | 0, _ => by simp [chT]
  | k + 1, hk => by
    have h1 := chT_bd hn k (by omega)
    have h2 := netB_at hn (k := k) (by omega)
    rw [chT]
    split <;> omega
theorem cutT_all {m tn : Nat} (hn : netB (m : Int) N = true) (ht : tn < m) : ∀ k, k ≤ N.length → cutT N (allS m tn) k = chT N (tn : Int) k
  | 0, _ => rfl
  | k + 1, hk => by
    have h := netB_at hn (k := k) (by omega)
    obtain ⟨a, ha⟩ : ∃ a : Nat, (linAt N k).a = (a : Int) := ⟨_, (Int.toNat_of_nonneg h.1.1.1).symm⟩
    obtain ⟨b, hb⟩ : ∃ b : Nat, (linAt N k).b = (b : Int) := ⟨_, (Int.toNat_of_nonneg h.1.2.1.1).symm⟩
    rw [cutT, chT, cutT_all hn ht k (by omega)]
    rw [ha, hb] at h ⊢
    rw [allS_at (by omega), allS_at (by omega)]
    congr 1
    by_cases e1 : a = tn
    · rw [if_pos e1, if_neg (show ¬ b = tn by omega), if_neg (by decide), if_pos (.inl (by omega))]
    · rw [if_neg e1]
      by_cases e2 : b = tn
      · rw [if_pos e2, if_neg (by decide), if_pos (.inr (by omega))]
      · rw [if_neg e2, if_pos rfl, if_neg (by omega)]
theorem cut_all {m fn tn : Nat} (he : endB (m : Int) N (fn : Int) (tn : Int) = true) : cutV (m : Int) N (fn : Int) (tn : Int) (allS m tn) = chT N (tn : Int) N.length := by
  obtain ⟨hn, hf, ht, hne⟩ := endB_true.1 he
  have hs : sideB (m : Int) (fn : Int) (tn : Int) (allS m tn) = true := by
    refine sideB_true.2 ⟨by rw [allS_len], ?_, by rw [allS_at (by omega), if_neg (by omega)], by rw [allS_at (by omega), if_pos rfl]⟩
    intro x hx
    unfold allS at hx
    rcases List.mem_or_eq_of_mem_set hx with h | h
    · exact .inr (List.eq_of_mem_replicate h)
    · exact .inl h
  rw [cutV_yes he hs]
  exact cutT_all hn (by omega) _ (Nat.le_refl _)

/-- the lines within one side -/
def insTo (N : List Lin) (S : List Int) : Nat → List Lin
  | 0 => []
  | k + 1 => if sdAt S (linAt N k).a = sdAt S (linAt N k).b then insTo N S k ++ [linAt N k] else insTo N S k
theorem rest_len : ∀ k, (insTo N S k).length ≤ k
  | 0 => by simp [insTo]
  | k + 1 => by
    have := rest_len k
    rw [insTo]
    split
    · simp; exact this
    · omega
theorem rest_mem : ∀ k, k ≤ N.length → ∀ s ∈ insTo N S k, s ∈ N ∧ sdAt S s.a = sdAt S s.b
  | 0, _ => by simp [insTo]
  | k + 1, hk => by
    have h := rest_mem k (by omega)
    rw [insTo]
    split
    · rename_i e
      intro s hs
      rcases List.mem_append.1 hs with h1 | h1
      · exact h s h1
      · simp at h1
        subst h1
        exact ⟨linAt_mem (by omega), e⟩
    · exact h
theorem rest_net (hn : netB n N = true) {k : Nat} (hk : k ≤ N.length) : netB n (insTo N S k) = true := by
  obtain ⟨h1, h2, h3⟩ := netB_true.1 hn
  refine netB_true.2 ⟨h1, ?_, fun s hs => h3 s (rest_mem k hk s hs).1⟩
  have := rest_len (N := N) (S := S) k
  omega
theorem cutT_zero {M : List Lin} (h : ∀ s ∈ M, sdAt S s.a = sdAt S s.b) : ∀ k, k ≤ M.length → cutT M S k = 0
  | 0, _ => rfl
  | k + 1, hk => by rw [cutT, cutT_zero h k (by omega), if_pos (h _ (linAt_mem (by omega)))]; rfl
/-- nothing goes through a net without its cut -/
theorem most_rest (h : 0 ≤ cutV n N f t S) : mostV n (insTo N S N.length) f t = 0 := by
  obtain ⟨h1, h2⟩ := cutV_nonneg.1 h
  obtain ⟨hn, hft⟩ := endB_true.1 h1
  have he : endB n (insTo N S N.length) f t = true := endB_true.2 ⟨rest_net hn (Nat.le_refl _), hft⟩
  have h3 := most_le he h2
  have h4 := most_nonneg he
  have h5 : cutC (insTo N S N.length) S = 0 := cutT_zero (fun s hs => (rest_mem _ (Nat.le_refl _) s hs).2) _ (Nat.le_refl _)
  omega

/-- both ways -/
theorem most_swap (n : Int) (N : List Lin) (f t : Int) : mostV n N t f = mostV n N f t := by
  have key : ∀ f t, endB n N f t = true → mostV n N t f ≤ mostV n N f t := fun f t h => by
    obtain ⟨S, h1, h2⟩ := most_cut h
    have h3 := most_le (by rw [end_swap]; exact h) (side_comp h h1)
    rw [cutC_comp (endB_true.1 h).1 (sideB_true.1 h1).1] at h3
    omega
  cases e : endB n N f t
  · have e2 : endB n N t f = false := by rw [end_swap]; exact e
    unfold mostV
    rw [e, e2]; rfl
  · have h1 := key f t e
    have h2 := key t f (by rw [end_swap]; exact e)
    omega
/-- of three stations, the two lesser traffics are equal -/
theorem tri {a b c : Int} (h1 : endB n N a b = true) (h2 : endB n N a c = true) (h3 : endB n N c b = true) : min (mostV n N b c) (mostV n N a c) ≤ mostV n N a b := by
  obtain ⟨S, hs, hc⟩ := most_cut h1
  obtain ⟨s1, s2, s3, s4⟩ := sideB_true.1 hs
  rcases sd_01 s2 c with h | h
  · have := most_le h2 (sideB_true.2 ⟨s1, s2, s3, h⟩)
    omega
  · have := most_le h3 (sideB_true.2 ⟨s1, s2, h, s4⟩)
    rw [most_swap] at this
    omega
end
end Go.Proofs.Ytnekjhpocfdpnaa
