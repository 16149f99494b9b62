/-
  Mathematics of traffic: the least cut is the greatest traffic; a net without one line. Nothing here speaks of the program.
-/
import Derived.Test.YtiajfpmlcchodaaTfXm
import Derived.Test.YtiajfpmlcchodaaTfLc
import Derived.Test.YtiajfpmlcchodaaTfE0
namespace Go.Proofs.Ytiajfpmlcchodaa

section
variable {n : Int} {N : List Lin} {f t : Int} {S : List Int}
theorem cut_least (he : endB n N f t = true) : cutV n N f t (lcV n N f t) = mostV n N f t := by
  obtain ⟨S, hs, hc⟩ := most_cut he
  have h1 := cutV_yes he hs
  have h0 := most_nonneg he
  have h2 := lcV_le he (S := S) (by omega)
  have h3 := most_cutV (lcV_side he).2
  omega
theorem traf_TL (he : endB n N f t = true) : trafV n N f t (TLv n N f t) = mostV n N f t := by
  rw [TLv_yes he]
  unfold trafV mostV
  rw [if_pos (TL_load he), if_pos he]
/-- what a line adds to a cut -/
def gS (S : List Int) (s : Lin) : Int := if sdAt S s.a = sdAt S s.b then 0 else s.c
theorem cutT_sum : ∀ k, k ≤ N.length → cutT N S k = ((N.take k).map (gS S)).sum
  | 0, _ => by simp [cutT]
  | k + 1, hk => by
    rw [cutT, cutT_sum k (by omega), List.take_succ_eq_append_getElem (by omega), List.map_append, List.sum_append, ← linAt_lt (by omega)]
    simp [gS]
theorem cutC_sum (N : List Lin) (S : List Int) : cutC N S = (N.map (gS S)).sum := by
  unfold cutC
  rw [cutT_sum _ (Nat.le_refl _), List.take_length]
theorem cut_drop {k : Nat} (hk : k < N.length) (S : List Int) : cutC N S = cutC (dropN N k) S + gS S (linAt N k) := by
  rw [cutC_sum, cutC_sum]
  unfold dropN
  conv => lhs; rw [← List.take_append_drop k N, List.drop_eq_getElem_cons hk]
  rw [List.map_append, List.map_append, List.sum_append, List.sum_append, List.map_cons, List.sum_cons, linAt_lt hk]
  omega
theorem gS_bd (hn : netB n N = true) {k : Nat} (hk : k < N.length) (S : List Int) : 0 ≤ gS S (linAt N k) ∧ gS S (linAt N k) ≤ (linAt N k).c := by
  have h := (netB_at hn hk).2
  unfold gS
  split <;> omega
/-- fewer lines carry no more -/
theorem most_drop (he : endB n N f t = true) {k : Nat} (hk : k < N.length) : mostV n (dropN N k) f t ≤ mostV n N f t ∧ mostV n N f t ≤ mostV n (dropN N k) f t + (linAt N k).c := by
  have hn := (endB_true.1 he).1
  constructor
  · obtain ⟨S, hs, hc⟩ := most_cut he
    have h1 := most_le (dropN_end k he) hs
    have h2 := cut_drop hk S
    have h3 := gS_bd hn hk S
    omega
  · obtain ⟨S, hs, hc⟩ := most_cut (dropN_end k he)
    have h1 := most_le he hs
    have h2 := cut_drop hk S
    have h3 := gS_bd hn hk S
    omega
/-- between its own ends a line carries all that it can -/
theorem most_own {k : Nat} (he : endB n N (linAt N k).a (linAt N k).b = true) (hk : k < N.length) : mostV n N (linAt N k).a (linAt N k).b - mostV n (dropN N k) (linAt N k).a (linAt N k).b = (linAt N k).c := by
  have h0 := (most_drop he hk).2
  obtain ⟨S, hs, hc⟩ := most_cut he
  have h1 := most_le (dropN_end k he) hs
  have h2 := cut_drop hk S
  obtain ⟨_, _, s3, s4⟩ := sideB_true.1 hs
  have h3 : gS S (linAt N k) = (linAt N k).c := by unfold gS; rw [s3, s4]; rfl
  omega
theorem own_end (hn : netB n N = true) {k : Nat} (hk : k < N.length) : endB n N (linAt N k).a (linAt N k).b = true := by
  have h := (netB_at hn hk).1
  exact endB_true.2 ⟨hn, h.1, h.2.1, h.2.2⟩
/-- a line of a least cut is needed -/
theorem cross_less (he : endB n N f t = true) {k : Nat} (hk : k < N.length) (hx : sdAt (lcV n N f t) (linAt N k).a ≠ sdAt (lcV n N f t) (linAt N k).b) : mostV n (dropN N k) f t < mostV n N f t := by
  obtain ⟨hs, hp⟩ := lcV_side he
  have h0 := cut_least he
  rw [cutV_yes he hs] at h0
  have h1 := most_le (dropN_end k he) hs
  have h2 := cut_drop hk (lcV n N f t)
  have h3 : gS (lcV n N f t) (linAt N k) = (linAt N k).c := by unfold gS; rw [if_neg hx]
  have h4 := (netB_at (endB_true.1 he).1 hk).2
  omega
/-- the lines that are needed, one by one -/
theorem ndTo_mem {zs : List Int} {M : Int} : ∀ {k : Nat} {x : Int}, x ∈ ndTo zs M k ↔ ∃ j : Nat, x = (j : Int) ∧ j < k ∧ at0 zs j < M
  | 0, x => by simp [ndTo]
  | k + 1, x => by
    rw [ndTo]
    by_cases h : at0 zs k < M
    · rw [if_pos h, List.mem_append, ndTo_mem]
      constructor
      · rintro (⟨j, e, h1, h2⟩ | h1)
        · exact ⟨j, e, by omega, h2⟩
        · simp at h1; exact ⟨k, h1, by omega, h⟩
      · rintro ⟨j, e, h1, h2⟩
        rcases (by omega : j < k ∨ j = k) with h3 | rfl
        · exact .inl ⟨j, e, h3, h2⟩
        · exact .inr (by simp [e])
    · rw [if_neg h, ndTo_mem]
      constructor
      · rintro ⟨j, e, h1, h2⟩
        exact ⟨j, e, by omega, h2⟩
      · rintro ⟨j, e, h1, h2⟩
        rcases (by omega : j < k ∨ j = k) with h3 | rfl
        · exact ⟨j, e, h3, h2⟩
        · exact absurd h2 h
/-- if any line is needed, the weakest one is -/
theorem weak_needed (h : ndV n N f t ≠ []) : ((wkI n N f t : Nat) : Int) ∈ ndV n N f t := by
  obtain ⟨x, hx⟩ : ∃ x, x ∈ ndV n N f t := by
    cases e : ndV n N f t with
    | nil => exact absurd e h
    | cons y r => exact ⟨y, by simp⟩
  unfold ndV at hx ⊢
  obtain ⟨j, _, h1, h2⟩ := ndTo_mem.1 hx
  have hp := leastTo_prop (lfL n N f t) (lfL n N f t).length (by omega)
  have h3 := hp.2.1 j h1
  refine ndTo_mem.2 ⟨_, rfl, hp.1, ?_⟩
  show at0 _ (leastTo _ _) < _
  omega
end
end Go.Proofs.Ytiajfpmlcchodaa
