/-
  Mathematics of the laws FnPlan, FnEnds, FnJobsDays: orders from the other end, ends one after the other, work in parts.
-/
import Derived.Test.YtodboccadccpfaaDoorPlE
import Derived.Test.YtodboccadccpfaaDoorPlL
import Derived.Test.YtodboccadccpfaaDoorPbM
import Derived.Test.YtodboccadccpfaaDoorFcA
namespace Go.Proofs.YtodboccadccpfaaDoor
open Go.RowKit

theorem ord_reverse {p : List Int} (h : ordB p = true) : ordB p.reverse = true := by
  obtain ⟨h1, h2, h3⟩ := ordB_true.1 h
  refine ordB_true.2 ⟨by rw [List.length_reverse]; exact h1, by unfold List.Nodup at h2 ⊢; rw [List.pairwise_reverse]; exact h2.imp (fun h => h.symm), fun x hx => ?_⟩
  rw [List.length_reverse]
  exact h3 x (List.mem_reverse.1 hx)
theorem plan_reverse {L : List UInt8} {J : List Jbs} {p : List Int} (h : planB L J p = true) : planB L J p.reverse = true := by
  obtain ⟨h1, h2, h3⟩ := planB_true.1 h
  exact planB_true.2 ⟨h1, ord_reverse h2, by rw [List.length_reverse]; exact h3⟩
theorem plan_open {L : List UInt8} {J : List Jbs} {p : List Int} (h : planB L J p = true) : daysV J ≤ opV L (L.length : Int) ∧ lossV L J (bsP L J) ≤ lossV L J p ∧ timeB L J = true := by
  obtain ⟨h1, h2, h3⟩ := planB_true.1 h
  obtain ⟨f1, f2, f3⟩ := timeB_true.1 h1
  refine ⟨?_, (best_under h1 h2 h3).1, h1⟩
  rw [daysV_is f2, opV_yes f1 (inB_true.2 (by omega)), Int.toNat_natCast]
  exact f3

/-- the end of the repair at a place -/
def edT (L : List UInt8) (J : List Jbs) (p : List Int) (k : Nat) : Int := dyI L (wkT J p k)
theorem ed_zero (L : List UInt8) (J : List Jbs) (p : List Int) : edT L J p 0 = 0 := by
  unfold edT dyI
  rw [wkT, show (0 : Int).toNat = 0 from rfl, dyL_zero]
  rfl
theorem ends_at {L : List UInt8} {J : List Jbs} {p : List Int} (h : planB L J p = true) {k : Nat} (hk : k < p.length) :
    ∃ q : Nat, p[k]?.getD 0 = (q : Int) ∧ q < J.length ∧ (endsL L J p)[q]?.getD 0 = edT L J p (k + 1) ∧ (jbsAt J q).d = wkT J p (k + 1) - wkT J p k := by
  obtain ⟨q, h1, h2, _, h4, _⟩ := plan_at h hk
  obtain ⟨_, ho, _⟩ := planB_true.1 h
  obtain ⟨_, hnd, hr⟩ := ordB_true.1 ho
  refine ⟨q, h1, h2, ?_, by omega⟩
  rw [ends_yes h]
  have hk1 : p[k] = (q : Int) := by simpa [hk] using h1
  have key : ∀ m, k < m → m ≤ p.length → (endT L J p m)[q]?.getD 0 = edT L J p (k + 1) := by
    intro m
    induction m with
    | zero => intro h5; omega
    | succ m ih =>
      intro h5 h6
      rw [endT]
      rcases Nat.lt_or_ge k m with h7 | h7
      · have hm : m < p.length := by omega
        have hne : p[m] ≠ p[k] := fun e => by
          have := (List.getElem_inj (h₀ := hm) (h₁ := hk) hnd).1 e
          omega
        have hm0 := (hr _ (List.getElem_mem hm)).1
        have e1 : p[m]?.getD 0 = p[m] := by simp [hm]
        rw [e1, List.getElem?_set, if_neg (by omega)]
        exact ih h7 (by omega)
      · obtain rfl : m = k := by omega
        rw [h1, Int.toNat_natCast, List.getElem?_set, if_pos rfl, if_pos (by rw [endT_len]; exact h2)]
        rfl
  exact key p.length hk (Nat.le_refl _)
theorem ed_facts {L : List UInt8} {J : List Jbs} {p : List Int} (h : planB L J p = true) {k : Nat} (hk : k ≤ p.length) : opV L (edT L J p k) = wkT J p k ∧ 0 ≤ edT L J p k ∧ edT L J p k ≤ 30 ∧ 0 ≤ wkT J p k ∧ wkT J p k ≤ 54 := by
  obtain ⟨h1, h2, h3⟩ := planB_true.1 h
  obtain ⟨f1, f2, f3⟩ := timeB_true.1 h1
  have hw := wkT_bd f2 p k
  have hle := (wkT_le h hk).2
  have hd := daysJ_bd f2
  have hle2 := (wkT_le h hk).1
  have hL := fc_len f1
  have hdl := dyL_le L (wkT J p k).toNat
  unfold edT dyI
  refine ⟨?_, by omega, by omega, hw.1, by omega⟩
  rw [opV_yes f1 (inB_true.2 (by omega)), Int.toNat_natCast, opT_dy _ _ (by omega)]
  omega
theorem ed_less {L : List UInt8} {J : List Jbs} {p : List Int} (h : planB L J p = true) {k : Nat} (hk : k < p.length) : edT L J p k < edT L J p (k + 1) := by
  obtain ⟨h1, h2, h3⟩ := planB_true.1 h
  obtain ⟨f1, f2, f3⟩ := timeB_true.1 h1
  obtain ⟨q, _, hq, _, hd⟩ := ends_at h hk
  have hb := jbB_at f2 hq
  have hw := wkT_bd f2 p k
  have hle := (wkT_le h (show k + 1 ≤ p.length by omega)).2
  have := dyL_mono L (v := (wkT J p k).toNat) (w := (wkT J p (k + 1)).toNat) (by omega) (by omega)
  unfold edT dyI
  omega
theorem ed_last {L : List UInt8} {J : List Jbs} {p : List Int} (h : planB L J p = true) : dyV L (daysV J) = edT L J p p.length ∧ (endsL L J p).length = J.length := by
  obtain ⟨h1, h2, h3⟩ := planB_true.1 h
  obtain ⟨f1, f2, f3⟩ := timeB_true.1 h1
  have := (daysJ_bd f2).1
  refine ⟨?_, by rw [ends_yes h, endT_len]⟩
  unfold edT
  rw [wkT_all h2 h3, daysV_is f2, dyV_yes f1 (inB_true.2 (by omega))]
  rfl
theorem days_bd' {L : List UInt8} {J : List Jbs} {p : List Int} (h : planB L J p = true) : 0 ≤ daysV J ∧ daysV J ≤ 54 := by
  obtain ⟨h1, _⟩ := planB_true.1 h
  have hj := (timeB_true.1 h1).2.1
  rw [daysV_is hj]
  exact daysJ_bd hj
end Go.Proofs.YtodboccadccpfaaDoor
