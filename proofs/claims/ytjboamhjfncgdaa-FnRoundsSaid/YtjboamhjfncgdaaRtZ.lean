/-
  Mathematics of crossings: a chart without its first or its last route has no more orders; other routes cross as before. Nothing here speaks of the program.
-/
import Derived.Test.YtjboamhjfncgdaaRtW
namespace Go.Proofs.Ytjboamhjfncgdaa

theorem sumTo_mono {f g : Nat → Nat} : ∀ {m : Nat}, (∀ k, k < m → f k ≤ g k) → sumTo f m ≤ sumTo g m
  | 0, _ => Nat.le_refl _
  | m + 1, h => by rw [sumTo_succ, sumTo_succ]; have := sumTo_mono (f := f) (g := g) (m := m) fun k hk => h k (by omega); have := h m (by omega); omega
theorem sumTo_first (g : Nat → Nat) : ∀ m, sumTo g (m + 1) = g 0 + sumTo (fun k => g (k + 1)) m
  | 0 => by rw [sumTo_succ]; simp [sumTo_zero]
  | m + 1 => by rw [sumTo_succ, sumTo_first g m, sumTo_succ]; omega
theorem sumTo_term (g : Nat → Nat) {m k : Nat} (hk : k < m) : g k ≤ sumTo g m := by
  induction m with
  | zero => omega
  | succ m ih =>
    rw [sumTo_succ]
    rcases (by omega : k < m ∨ k = m) with h | rfl
    · have := ih h; omega
    · omega
theorem okS_true {R : List Rot} {l : List Nat} {k : Nat} : okS R l k = true ↔ k ∈ l ∧ ∀ i, k < i → i < R.length → crI R i k = true → i ∉ l := by
  unfold okS
  rw [Bool.and_eq_true, decide_eq_true_eq, List.all_eq_true]
  refine and_congr_right fun _ => ⟨fun h i h1 h2 h3 => of_decide_eq_true (h i (abvN_mem.2 ⟨h1, h2, h3⟩)), fun h i hi => decide_eq_true ?_⟩
  obtain ⟨h1, h2, h3⟩ := abvN_mem.1 hi
  exact h i h1 h2 h3

/-! ### without the first route -/
theorem rotAt_cons (r : Rot) (R : List Rot) (k : Nat) : rotAt (r :: R) (k + 1) = rotAt R k := by unfold rotAt; simp
theorem crI_cons (r : Rot) (R : List Rot) (i k : Nat) : crI (r :: R) (i + 1) (k + 1) = crI R i k := by unfold crI; rw [rotAt_cons, rotAt_cons]
def upL (l : List Nat) : List Nat := 0 :: l.map (· + 1)
theorem upL_mem {l : List Nat} {i : Nat} : i + 1 ∈ upL l ↔ i ∈ l := by unfold upL; simp
theorem okS_up {r : Rot} {R : List Rot} {l : List Nat} {k : Nat} : okS (r :: R) (upL l) (k + 1) = okS R l k := by
  refine Bool.eq_iff_iff.2 ?_
  rw [okS_true, okS_true, upL_mem]
  refine and_congr_right fun _ => ⟨fun h i h1 h2 h3 h4 => h (i + 1) (by omega) (by simp; omega) (by rw [crI_cons]; exact h3) (upL_mem.2 h4), fun h i h1 h2 h3 h4 => ?_⟩
  obtain ⟨j, rfl⟩ : ∃ j, i = j + 1 := ⟨i - 1, by omega⟩
  rw [crI_cons] at h3
  exact h j (by omega) (by simpa using h2) h3 (upL_mem.1 h4)
theorem upL_less (l : List Nat) (k : Nat) : (upL l).filter (fun i => decide (i ≠ k + 1)) = upL (l.filter fun i => decide (i ≠ k)) := by
  unfold upL
  rw [List.filter_cons, if_pos (by simp), List.filter_map]
  congr 2
  refine List.filter_congr fun i _ => ?_
  simp
theorem mS_first (r : Rot) (R : List Rot) : ∀ f l, l.length = f → l.Nodup → mS R f l ≤ mS (r :: R) (f + 1) (upL l)
  | 0, l, hl, _ => by
    obtain rfl := List.eq_nil_of_length_eq_zero hl
    have h := sumTo_term (fun k => if okS (r :: R) (upL []) k then mS (r :: R) 0 ((upL []).filter fun i => decide (i ≠ k)) else 0) (m := (r :: R).length) (k := 0) (by simp)
    have ho : okS (r :: R) (upL []) 0 = true := okS_true.2 ⟨by simp [upL], fun i h1 _ _ h4 => by simp [upL] at h4; omega⟩
    rw [if_pos ho] at h
    exact h
  | f + 1, l, hl, hd => by
    rw [mS_succ, mS_succ]
    unfold mSto
    rw [List.length_cons, sumTo_first]
    refine Nat.le_trans (sumTo_mono fun k _ => ?_) (Nat.le_add_left _ _)
    rw [okS_up, upL_less]
    cases ho : okS R l k
    · simp
    · simp only [if_true]
      have hm := (okS_true.1 ho).1
      have h2 := len_less hd hm
      exact mS_first r R f _ (by omega) (hd.sublist List.filter_sublist)
theorem many_first (r : Rot) (R : List Rot) : mS R R.length (List.range R.length) ≤ mS (r :: R) (r :: R).length (List.range (r :: R).length) := by
  have := mS_first r R R.length (List.range R.length) (by simp) List.nodup_range
  rw [List.length_cons, List.range_succ_eq_map]
  exact this

/-! ### without the last route -/
theorem crI_snoc (r : Rot) {R : List Rot} {i k : Nat} (hi : i < R.length) (hk : k < R.length) : crI (R ++ [r]) i k = crI R i k := by
  unfold crI; rw [rotAt_append hi, rotAt_append hk]
theorem mS_last (r : Rot) (R : List Rot) : ∀ f l, (∀ x ∈ l, x < R.length) → mS R f l ≤ mS (R ++ [r]) f l
  | 0, _, _ => Nat.le_refl _
  | f + 1, l, hl => by
    rw [mS_succ, mS_succ]
    unfold mSto
    rw [List.length_append, List.length_singleton, sumTo_succ]
    refine Nat.le_trans (sumTo_mono fun k hk => ?_) (Nat.le_add_right _ _)
    have ho : okS (R ++ [r]) l k = okS R l k := by
      refine Bool.eq_iff_iff.2 ?_
      rw [okS_true, okS_true]
      refine and_congr_right fun _ => ⟨fun h i h1 h2 h3 => h i h1 (by simp; omega) (by rw [crI_snoc r h2 hk]; exact h3), fun h i h1 _ h3 h4 => ?_⟩
      have h2 := hl i h4
      rw [crI_snoc r h2 hk] at h3
      exact h i h1 h2 h3 h4
    rw [ho]
    cases okS R l k
    · simp
    · simp only [if_true]
      exact mS_last r R f _ fun x hx => hl x (List.mem_filter.1 hx).1
theorem many_last (r : Rot) (R : List Rot) : mS R R.length (List.range R.length) ≤ mS (R ++ [r]) (R ++ [r]).length (List.range (R ++ [r]).length) := by
  rw [List.length_append, List.length_singleton, mS_succ]
  unfold mSto
  have h := sumTo_term (fun k => if okS (R ++ [r]) (List.range (R.length + 1)) k then mS (R ++ [r]) R.length ((List.range (R.length + 1)).filter fun i => decide (i ≠ k)) else 0) (m := (R ++ [r]).length) (k := R.length) (by simp)
  have ho : okS (R ++ [r]) (List.range (R.length + 1)) R.length = true := okS_true.2 ⟨by simp, fun i h1 _ _ h4 => by simp at h4; omega⟩
  have hf : (List.range (R.length + 1)).filter (fun i => decide (i ≠ R.length)) = List.range R.length := by
    rw [List.range_succ, List.filter_append]
    simp
    intro a ha; omega
  rw [if_pos ho, hf] at h
  exact Nat.le_trans (mS_last r R R.length _ fun x hx => List.mem_range.1 hx) h
end Go.Proofs.Ytjboamhjfncgdaa
