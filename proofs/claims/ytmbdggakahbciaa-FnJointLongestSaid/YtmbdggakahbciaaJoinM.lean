/-
  Joints: more miles need no fewer splices; no splice is needed where one spare serves.
-/
import Derived.Test.YtmbdggakahbciaaJoFI
import Derived.Test.YtmbdggakahbciaaSpF0
import Derived.Test.YtmbdggakahbciaaSpMi
namespace Go.Proofs.Ytmbdggakahbciaa
open Go.RowKit

theorem fit_srv (L : List Spr) (d : Spr) : ∀ k, ¬ fitN L d k < 0 → srvB (sprAt L (fitN L d k).toNat) d = true
  | 0, h => by rw [fitN] at h; omega
  | k + 1, h => by
    by_cases hc : srvB (sprAt L k) d = true ∧ (fitN L d k < 0 ∨ (sprAt L k).m < (sprAt L (fitN L d k).toNat).m)
    · rw [fitN_step_yes hc.1 hc.2, Int.toNat_natCast]; exact hc.1
    · rw [fitN_step_no hc] at h ⊢; exact fit_srv L d k h
theorem few_is {L : List Spr} {kind miles : Int} (h : 0 ≤ fewV L kind miles) : (sprB 10 L = true ∧ 1 ≤ miles ∧ miles ≤ 500) ∧ ∃ j : Nat, fewV L kind miles = j ∧ j < L.length ∧ (∃ x, joinP L kind miles x ∧ x.length = j + 1) ∧ ∀ x, joinP L kind miles x → j + 1 ≤ x.length := by
  unfold fewV at h ⊢
  by_cases hc : sprB 10 L = true ∧ 1 ≤ miles ∧ miles ≤ 500
  · rw [if_pos hc] at h ⊢
    refine ⟨hc, ?_⟩
    rcases few_spec hc.1 kind hc.2.1 with ⟨h1, _⟩ | h1
    · omega
    · exact h1
  · rw [if_neg hc] at h; omega
theorem few_all {L : List Spr} {kind miles : Int} (h : 0 ≤ fewV L kind miles) : miles ≤ milesK L kind := by
  obtain ⟨⟨hL, _, _⟩, j, _, _, ⟨x, hx, _⟩, _⟩ := few_is h
  rw [milesK_yes hL]
  obtain ⟨h1, h2⟩ := join_top hx
  have hok : ∀ s ∈ (sortZ L).filter (ofKind kind), 0 ≤ s.m := by
    intro s hs
    have h1 := (sprB_true.1 hL).2 s ((sortZ_perm L).mem_iff.1 (List.mem_filter.1 hs).1)
    have := (sprOk_true.1 h1).1
    omega
  have h3 := milesZ_take_le hok x.length _ h2
  rw [List.take_length] at h3
  have h4 : milesZ ((sortZ L).filter (ofKind kind)) = kindZ L kind := milesZ_perm ((sortZ_perm L).filter _)
  omega
theorem few_less {L : List Spr} {kind miles : Int} (h : 0 ≤ fewV L kind miles) (hm : ¬ miles = 1) : 0 ≤ fewV L kind (miles - 1) ∧ fewV L kind (miles - 1) ≤ fewV L kind miles := by
  obtain ⟨hc, j, hj, _, ⟨x, hx, hxl⟩, _⟩ := few_is h
  have hx2 : joinP L kind (miles - 1) x := ⟨hx.1, hx.2.1, by have := hx.2.2; omega⟩
  have h2 : fewV L kind (miles - 1) = fewG L kind (miles - 1) := by unfold fewV; rw [if_pos ⟨hc.1, by omega, by omega⟩]
  rcases few_spec hc.1 kind (miles := miles - 1) (by omega) with ⟨_, h3⟩ | ⟨i, h3, _, _, h4⟩
  · exact absurd hx2 (h3 x)
  · have := h4 x hx2
    omega
theorem few_one {L : List Spr} {kind miles : Int} (h : 0 ≤ fewV L kind miles) (hm : miles ≤ 50) (hk : 0 ≤ kind ∧ kind ≤ 3) : serveB L [⟨miles, kind⟩] = decide (fewV L kind miles = 0) := by
  obtain ⟨hc, j, hj, _, ⟨x, hx, hxl⟩, hmin⟩ := few_is h
  have hB : bothB L [⟨miles, kind⟩] = true := bothB_one2 hc.1 (by rw [sprB_one 10 (by omega)]; exact sprOk_true.2 ⟨⟨hc.2.1, hm⟩, hk⟩)
  by_cases h0 : fewV L kind miles = 0
  · rw [decide_eq_true h0]
    obtain rfl : j = 0 := by omega
    match x, hxl, hx with
    | [i], _, hx =>
      have hi := hx.1.2 i (by simp)
      have hk1 : (sprAt L i.toNat).k = kind := by have := hx.2.1 i (by simp); simpa [ofKind] using this
      have hs : miles ≤ (sprAt L i.toNat).m := by have := hx.2.2; simpa [sumZ] using this
      have hmem : [i] ∈ allS L [⟨miles, kind⟩] := by
        rw [allS_from, ← preS_all (by simp)]
        unfold preS
        rw [List.mem_flatMap]
        refine ⟨[((i.toNat : Nat) : Int)], ext_mem.2 ⟨i.toNat, by omega, by rw [sf_one]; exact srvB_true.2 ⟨hk1, hs⟩, rfl⟩, ?_⟩
        rw [fromS_end (by simp), Int.toNat_of_nonneg hi.1]; simp
      obtain ⟨y, hy⟩ := bst_some (c := sumZ L) (l := allS L [⟨miles, kind⟩]) (fun e => by rw [e] at hmem; simp at hmem)
      unfold serveB serveG
      rw [if_pos hB, hy]; rfl
  · rw [decide_eq_false h0]
    cases hs : serveB L [⟨miles, kind⟩] with
    | false => rfl
    | true =>
      exfalso
      obtain ⟨f1, f2⟩ := fit_all hB
      by_cases hn : fitN L ⟨miles, kind⟩ L.length < 0
      · rw [(f1 hn).1] at hs; cases hs
      · have hbd := fitN_bd L ⟨miles, kind⟩ L.length
        have hsrv := fit_srv L ⟨miles, kind⟩ L.length hn
        obtain ⟨i, hi⟩ : ∃ i : Nat, fitN L ⟨miles, kind⟩ L.length = (i : Int) := ⟨_, (Int.toNat_of_nonneg (by omega)).symm⟩
        rw [hi, Int.toNat_natCast] at hsrv
        obtain ⟨e1, e2⟩ := srvB_true.1 hsrv
        have hj1 : joinP L kind miles [(i : Int)] := ⟨⟨by simp, by simp; omega⟩, by intro a ha; simp at ha; subst ha; simpa [ofKind] using e1, by simpa [sumZ] using e2⟩
        have := hmin _ hj1
        simp at this
        omega

end Go.Proofs.Ytmbdggakahbciaa
