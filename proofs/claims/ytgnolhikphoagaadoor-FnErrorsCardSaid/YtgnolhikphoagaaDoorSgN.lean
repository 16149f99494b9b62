/-
  Plain mathematics of the law of errors. Nothing here speaks of the program.
-/
import Derived.Test.YtgnolhikphoagaaDoorSgP
namespace Go.Proofs.YtgnolhikphoagaaDoor

theorem farT_one {l : List UInt8} {i : Nat} {p : UInt8} (h : i < l.length) (hne : p ≠ l[i]) : ∀ n, farT (subP l i p) l n = if i < n then 1 else 0
  | 0 => by simp [farT]
  | n + 1 => by
    have ih := farT_one h hne n
    have e1 : farT (subP l i p) l (n + 1) = farT (subP l i p) l n + (if (subP l i p)[n]? = l[n]? then 0 else 1) := rfl
    rw [e1, ih]
    by_cases hn : n = i
    · subst hn
      have e2 : (subP l n p)[n]? = some p := by
        unfold subP
        rw [List.append_assoc, List.getElem?_append_right (by rw [List.length_take]; omega), List.length_take, show n - min n l.length = 0 by omega]
        rfl
      rw [e2, List.getElem?_eq_getElem h, if_neg (fun e => hne (Option.some.inj e))]
      simp
    · rw [subP_at h hn, if_pos rfl]
      by_cases h1 : i < n
      · rw [if_pos h1, if_pos (by omega)]
      · rw [if_neg h1, if_neg (by omega)]
theorem far_one {l : List UInt8} {i : Nat} {p : UInt8} (hl : sigB l = true) (h : i < l.length) (hp : isPul p = true) (hne : p ≠ l[i]) : farV (subP l i p) l = 1 := by
  rw [farV_yes (twoB_mk (subP_sig h hl hp) hl (subP_len p h)), subP_len p h, farT_one h hne, if_pos h]
  rfl
/-- what one error leads to -/
def hitOk (l t : List UInt8) : Prop := ofOk t = true ∧ farV (sgT t) l = 1
theorem hit_ok {l : List UInt8} (hl : sigB l = true) {i : Nat} (h : i < l.length) {p : UInt8} (hp : isPul p = true) {t : List UInt8} (ht : t ∈ hitP l i p) : hitOk l t := by
  unfold hitP at ht
  split at ht
  · rename_i hc
    obtain ⟨h1, h2⟩ := hc
    rw [List.mem_singleton] at ht
    have hs := subP_sig h hl hp
    have hr : rdB (subP l i p) = true := by unfold rdB; rw [hs, h1]; rfl
    obtain ⟨e1, e2⟩ := sent_read hr
    rw [(rdV_yes hs).2, ← ht] at e1 e2
    refine ⟨e1, ?_⟩
    rw [e2]
    exact far_one hl h hp (fun e => h2 ((subP_same h).2 e))
  · simp at ht
theorem errA_ok {l : List UInt8} (hl : sigB l = true) {i : Nat} (h : i < l.length) : ∀ j, ∀ t ∈ errA l i j, hitOk l t
  | 0, t, ht => by simp [errA] at ht
  | j + 1, t, ht => by
    rcases List.mem_append.1 (show t ∈ errA l i j ++ hitP l i (puA j) from ht) with h1 | h1
    · exact errA_ok hl h j t h1
    · exact hit_ok hl h (puA_pul j) h1
theorem errT_ok {l : List UInt8} (hl : sigB l = true) : ∀ k, k ≤ l.length → ∀ t ∈ errT l k, hitOk l t
  | 0, _, t, ht => by simp [errT] at ht
  | k + 1, hk, t, ht => by
    rcases List.mem_append.1 (show t ∈ errT l k ++ errA l k 3 from ht) with h1 | h1
    · exact errT_ok hl k (by omega) t h1
    · exact errA_ok hl (by omega) 3 t h1
theorem pul_puA {c : UInt8} (h : isPul c = true) : ∃ j, j < 3 ∧ puA j = c := by
  rcases pul_cases h with rfl | rfl | rfl
  · exact ⟨0, by omega, rfl⟩
  · exact ⟨1, by omega, rfl⟩
  · exact ⟨2, by omega, rfl⟩
theorem errA_two {l : List UInt8} (hl : sigB l = true) {i : Nat} (h : i < l.length) : (errA l i 3).length ≤ 2 := by
  obtain ⟨j, hj, e⟩ := pul_puA ((sigB_true.1 hl).2 l[i] (List.getElem_mem h))
  have h0 : hitP l i (puA j) = [] := hitP_no (.inr ((subP_same h).2 e))
  have l0 := hitP_len l i (puA 0)
  have l1 := hitP_len l i (puA 1)
  have l2 := hitP_len l i (puA 2)
  show ((([] ++ hitP l i (puA 0)) ++ hitP l i (puA 1)) ++ hitP l i (puA 2)).length ≤ 2
  rw [List.nil_append, List.length_append, List.length_append]
  rcases (show j = 0 ∨ j = 1 ∨ j = 2 by omega) with rfl | rfl | rfl <;> rw [h0] <;> simp only [List.length_nil] <;> omega
theorem errT_two {l : List UInt8} (hl : sigB l = true) : ∀ k, k ≤ l.length → (errT l k).length ≤ 2 * k
  | 0, _ => Nat.le_refl _
  | k + 1, hk => by
    have h1 := errT_two hl k (by omega)
    have h2 := errA_two hl (i := k) (by omega)
    show (errT l k ++ errA l k 3).length ≤ _
    rw [List.length_append]
    omega
theorem errA_mem {l t : List UInt8} {i : Nat} : ∀ n j, j < n → t ∈ hitP l i (puA j) → t ∈ errA l i n
  | 0, _, h, _ => absurd h (by omega)
  | n + 1, j, h, ht => by
    show t ∈ errA l i n ++ hitP l i (puA n)
    rcases Nat.lt_or_ge j n with h1 | h1
    · exact List.mem_append_left _ (errA_mem n j h1 ht)
    · rw [show n = j by omega]; exact List.mem_append_right _ ht
theorem errT_mem {l t : List UInt8} : ∀ k i, i < k → t ∈ errA l i 3 → t ∈ errT l k
  | 0, _, h, _ => absurd h (by omega)
  | k + 1, i, h, ht => by
    show t ∈ errT l k ++ errA l k 3
    rcases Nat.lt_or_ge i k with h1 | h1
    · exact List.mem_append_left _ (errT_mem k i h1 ht)
    · rw [show k = i by omega]; exact List.mem_append_right _ ht
theorem subP_at_self {l : List UInt8} {i : Nat} {p : UInt8} (h : i < l.length) : (subP l i p)[i]? = some p := by
  unfold subP
  rw [List.append_assoc, List.getElem?_append_right (by rw [List.length_take]; omega), List.length_take, show i - min i l.length = 0 by omega]
  rfl
theorem subP_back {l : List UInt8} {i : Nat} {p : UInt8} (h : i < l.length) : subP (subP l i p) i l[i] = l := by
  apply List.ext_getElem?
  intro n
  have h2 : i < (subP l i p).length := by rw [subP_len p h]; exact h
  by_cases hn : n = i
  · subst hn; rw [subP_at_self h2, List.getElem?_eq_getElem h]
  · rw [subP_at h2 hn, subP_at h hn]
/-- an error is found again -/
theorem err_found {l : List UInt8} (hr : rdB l = true) {i : Nat} (h : i < l.length) {p : UInt8} (hp : isPul p = true) (hne : p ≠ l[i]) : sigB (subP l i p) = true ∧ rdV l ∈ errL (subP l i p) := by
  have hl : sigB l = true ∧ msB l = true := by
    unfold rdB at hr
    rw [Bool.and_eq_true] at hr
    exact hr
  have hs := subP_sig h hl.1 hp
  refine ⟨hs, ?_⟩
  rw [errL_yes hs, subP_len p h, (rdV_yes hl.1).2]
  obtain ⟨j, hj, e⟩ := pul_puA ((sigB_true.1 hl.1).2 l[i] (List.getElem_mem h))
  refine errT_mem _ i h (errA_mem 3 j hj ?_)
  rw [e, hitP_yes (by rw [subP_back h]; exact hl.2) (by rw [subP_back h]; exact fun e2 => hne ((subP_same h).1 e2.symm)), subP_back h]
  exact List.mem_singleton.2 rfl
end Go.Proofs.YtgnolhikphoagaaDoor
