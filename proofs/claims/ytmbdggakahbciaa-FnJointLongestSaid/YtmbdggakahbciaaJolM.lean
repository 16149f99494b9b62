/-
  Joints by the longest spares: the mathematics of P47.
-/
import Derived.Test.YtmbdggakahbciaaJoinM
namespace Go.Proofs.Ytmbdggakahbciaa
open Go.RowKit

def cntK (S : List Spr) (kind : Int) (i : Nat) : Nat := ((S.take i).filter (ofKind kind)).length
def tkK (S : List Spr) (kind : Int) (o i : Nat) : Nat := min (cntK S kind i) (o + 1)
def smK (S : List Spr) (kind : Int) (k : Nat) : Int := milesZ ((S.filter (ofKind kind)).take k)
theorem tkK_zero (S : List Spr) (kind : Int) (o : Nat) : tkK S kind o 0 = 0 := by simp [tkK, cntK]
theorem smK_zero (S : List Spr) (kind : Int) : smK S kind 0 = 0 := by simp [smK, milesZ]
theorem filt_pre (S : List Spr) (kind : Int) (i : Nat) : (S.take i).filter (ofKind kind) = (S.filter (ofKind kind)).take (cntK S kind i) := by
  have h : S.filter (ofKind kind) = (S.take i).filter (ofKind kind) ++ (S.drop i).filter (ofKind kind) := by rw [← List.filter_append, List.take_append_drop]
  rw [h, cntK, List.take_left]
theorem filt_succ {S : List Spr} {i : Nat} (h : i < S.length) (kind : Int) : (S.take (i + 1)).filter (ofKind kind) = (S.take i).filter (ofKind kind) ++ (if (sprAt S i).k = kind then [sprAt S i] else []) := by
  rw [List.take_succ_eq_append_getElem h, List.filter_append, sprAt_lt h]
  by_cases hk : S[i].k = kind <;> simp [ofKind, hk]
theorem cntK_yes {S : List Spr} {i : Nat} (h : i < S.length) {kind : Int} (hk : (sprAt S i).k = kind) : cntK S kind (i + 1) = cntK S kind i + 1 := by
  unfold cntK; rw [filt_succ h, if_pos hk]; simp
theorem cntK_no {S : List Spr} {i : Nat} (h : i < S.length) {kind : Int} (hk : ¬ (sprAt S i).k = kind) : cntK S kind (i + 1) = cntK S kind i := by
  unfold cntK; rw [filt_succ h, if_neg hk]; simp
theorem tkK_yes {S : List Spr} {i : Nat} (h : i < S.length) {kind : Int} (hk : (sprAt S i).k = kind) {o : Nat} (hle : tkK S kind o i ≤ o) :
    tkK S kind o (i + 1) = tkK S kind o i + 1 ∧ smK S kind (tkK S kind o i + 1) = smK S kind (tkK S kind o i) + (sprAt S i).m := by
  have hc2 : cntK S kind i ≤ o := by unfold tkK at hle; omega
  have hc : tkK S kind o i = cntK S kind i := by unfold tkK; omega
  have h1 := cntK_yes h hk
  refine ⟨by rw [hc]; unfold tkK; rw [h1]; omega, ?_⟩
  rw [hc]
  unfold smK
  rw [← h1, ← filt_pre, ← filt_pre, filt_succ h, if_pos hk, milesZ_append]
  simp [milesZ]
theorem tkK_no {S : List Spr} {i : Nat} (h : i < S.length) {kind : Int} (hk : ¬ (sprAt S i).k = kind) (o : Nat) : tkK S kind o (i + 1) = tkK S kind o i := by
  unfold tkK; rw [cntK_no h hk]
theorem tkK_full {S : List Spr} {i : Nat} (h : i < S.length) {kind : Int} {o : Nat} (hgt : ¬ tkK S kind o i ≤ o) : tkK S kind o (i + 1) = tkK S kind o i := by
  by_cases hk : (sprAt S i).k = kind
  · have := cntK_yes h hk
    unfold tkK at hgt ⊢; omega
  · exact tkK_no h hk o
theorem tkK_all (S : List Spr) (kind : Int) (o : Nat) : tkK S kind o S.length = min (S.filter (ofKind kind)).length (o + 1) := by
  unfold tkK cntK; rw [List.take_length]
theorem tkK_le (S : List Spr) (kind : Int) (o i : Nat) : tkK S kind o i ≤ o + 1 := by unfold tkK; omega
theorem smK_bd {L : List Spr} (hL : sprB 10 L = true) (kind : Int) (k : Nat) : 0 ≤ smK (sortZ L) kind k ∧ smK (sortZ L) kind k ≤ 500 := by
  have hok : ∀ s ∈ (sortZ L).filter (ofKind kind), 0 ≤ s.m := by
    intro s hs
    have h1 := (sprB_true.1 hL).2 s ((sortZ_perm L).mem_iff.1 (List.mem_filter.1 hs).1)
    have := (sprOk_true.1 h1).1
    omega
  have h4 : milesZ ((sortZ L).filter (ofKind kind)) = kindZ L kind := milesZ_perm ((sortZ_perm L).filter _)
  have h5 := kindZ_bd hL kind L.length (Nat.le_refl _)
  rw [List.take_length] at h5
  have h10 := (sprB_true.1 hL).1
  unfold smK
  have h0 := milesZ_take_le hok 0 k (Nat.zero_le _)
  rw [List.take_zero] at h0
  simp only [milesZ] at h0
  refine ⟨h0, ?_⟩
  rcases Nat.le_total k ((sortZ L).filter (ofKind kind)).length with h | h
  · have := milesZ_take_le hok k _ h
    rw [List.take_length] at this
    omega
  · rw [List.take_of_length_le h]; omega
/-- as many as the joint has reach; one fewer do not -/
theorem few_top {L : List Spr} {kind miles : Int} (h : 0 ≤ fewV L kind miles) : ∃ o : Nat, fewV L kind miles = o ∧ o ≤ 10 ∧ sprB 10 L = true ∧ tkK (sortZ L) kind o (sortZ L).length = o + 1 ∧ miles ≤ smK (sortZ L) kind (o + 1) ∧ ¬ miles ≤ smK (sortZ L) kind o := by
  obtain ⟨hc, o, ho, hol, ⟨x, hx, hxl⟩, hmin⟩ := few_is h
  obtain ⟨h1, h2⟩ := join_top hx
  rw [hxl] at h1 h2
  have h10 := (sprB_true.1 hc.1).1
  refine ⟨o, ho, by omega, hc.1, by rw [tkK_all]; omega, h1, fun h3 => ?_⟩
  obtain ⟨y, hy, hyl⟩ := top_join (L := L) (j := o) (by omega) h3
  have := hmin y hy
  omega

end Go.Proofs.Ytmbdggakahbciaa
