/-
  Mathematics of the law FnPlanRate: in fair weather no order loses less than the one by rates.
-/
import Derived.Test.YtodboccadccpfaaDoorPbM
import Derived.Test.YtodboccadccpfaaDoorPlL
import Derived.Test.YtodboccadccpfaaDoorFcA
namespace Go.Proofs.YtodboccadccpfaaDoor

/-- the loss of an order that begins at a day, when every day is open -/
def cstF (J : List Jbs) : Int → List Int → Int
  | _, [] => 0
  | t, x :: r => (jbsAt J x.toNat).g * (t + (jbsAt J x.toNat).d) + cstF J (t + (jbsAt J x.toNat).d) r
theorem cst_swap {J : List Jbs} {x y : Int} (h : rgB J x y = true) (t : Int) (r : List Int) : cstF J t (x :: y :: r) ≤ cstF J t (y :: x :: r) := by
  rw [rgB_true] at h
  simp only [cstF]
  generalize (jbsAt J x.toNat).g = gx at *
  generalize (jbsAt J y.toNat).g = gy at *
  generalize (jbsAt J x.toNat).d = dx at *
  generalize (jbsAt J y.toNat).d = dy at *
  rw [show t + dy + dx = t + dx + dy by omega]
  generalize cstF J (t + dx + dy) r = R
  simp only [Int.mul_add]
  omega
theorem cst_front {J : List Jbs} {x : Int} (v : List Int) : ∀ (u : List Int) (t : Int), (∀ y ∈ u, rgB J x y = true) → cstF J t (x :: (u ++ v)) ≤ cstF J t (u ++ x :: v)
  | [], t, _ => by simp
  | y :: u, t, h => by
    have h1 := cst_swap (h y (by simp)) t (u ++ v)
    have h2 := cst_front v u (t + (jbsAt J y.toNat).d) (fun z hz => h z (by simp [hz]))
    rw [List.cons_append, List.cons_append]
    refine Int.le_trans h1 ?_
    have e1 : cstF J t (y :: x :: (u ++ v)) = (jbsAt J y.toNat).g * (t + (jbsAt J y.toNat).d) + cstF J (t + (jbsAt J y.toNat).d) (x :: (u ++ v)) := rfl
    have e2 : cstF J t (y :: (u ++ x :: v)) = (jbsAt J y.toNat).g * (t + (jbsAt J y.toNat).d) + cstF J (t + (jbsAt J y.toNat).d) (u ++ x :: v) := rfl
    omega
theorem cst_least {J : List Jbs} : ∀ (s q : List Int) (t : Int), srtB J s → q.Perm s → cstF J t s ≤ cstF J t q
  | [], q, t, _, h => by rw [h.eq_nil]; exact Int.le_refl _
  | x :: s, q, t, hs, h => by
    obtain ⟨hx, hs2⟩ := List.pairwise_cons.1 hs
    obtain ⟨u, v, rfl⟩ := List.append_of_mem (h.mem_iff.2 (List.mem_cons_self : x ∈ x :: s))
    have hp : (u ++ v).Perm s := (List.perm_middle.symm.trans h).cons_inv
    have h1 := cst_front (J := J) (x := x) v u t (fun y hy => hx y (hp.mem_iff.1 (by simp [hy])))
    refine Int.le_trans ?_ h1
    have h2 := cst_least s (u ++ v) (t + (jbsAt J x.toNat).d) hs2 hp
    rw [cstF, cstF]
    omega
/-- the work of an order -/
def wkS (J : List Jbs) (r : List Int) : Int := (r.map fun x => (jbsAt J x.toNat).d).sum
theorem wkS_snoc (J : List Jbs) (r : List Int) (i : Int) : wkS J (r ++ [i]) = wkS J r + (jbsAt J i.toNat).d := by simp [wkS, List.sum_append]
theorem cst_snoc (J : List Jbs) (i : Int) : ∀ (r : List Int) (t : Int), cstF J t (r ++ [i]) = cstF J t r + (jbsAt J i.toNat).g * (t + wkS J r + (jbsAt J i.toNat).d)
  | [], t => by simp [cstF, wkS]
  | x :: r, t => by
    rw [List.cons_append, cstF, cst_snoc J i r, cstF, show wkS J (x :: r) = (jbsAt J x.toNat).d + wkS J r by simp [wkS], ← Int.add_assoc t]
    omega
theorem dy_fair {L : List UInt8} {n w : Nat} (hf : opT L n = n) (hw : w ≤ n) (ha : n ≤ opT L L.length) : dyL L w = w := by
  have h1 := opT_add_le L w (n - w)
  rw [show w + (n - w) = n by omega, hf] at h1
  have h2 := opT_le L w
  have h3 := (dyL_lt L w w (by omega))
  have h4 := opT_dy L w (by omega)
  have h5 := opT_le L (dyL L w)
  rw [h4] at h5
  have h6 : ¬ opT L w < w := by omega
  have h7 : ¬ w < dyL L w := fun h => h6 (h3.2 h)
  omega
theorem cost_fair {L : List UInt8} {J : List Jbs} (hJ : jbB J = true) {n : Nat} (hf : opT L n = n) (ha : n ≤ opT L L.length) : ∀ (k : Nat) (p : List Int), p.length = k → wkS J p ≤ (n : Int) → wkP J p = wkS J p ∧ 0 ≤ wkS J p ∧ costP L J p = cstF J 0 p
  | 0, p, hp, _ => by
    obtain rfl := List.eq_nil_of_length_eq_zero hp
    exact ⟨rfl, Int.le_refl _, rfl⟩
  | k + 1, p, hp, hw => by
    rcases List.eq_nil_or_concat p with rfl | ⟨r, i, rfl⟩
    · simp at hp
    · rw [List.concat_eq_append] at hp hw ⊢
      rw [List.length_append, List.length_singleton] at hp
      have hd := (jbB_any hJ i.toNat).1
      rw [wkS_snoc] at hw ⊢
      obtain ⟨h1, h2, h3⟩ := cost_fair hJ hf ha k r (by omega) (by omega)
      refine ⟨by rw [wkP_snoc, h1], by omega, ?_⟩
      rw [costP_snoc, cst_snoc, h3, h1, Int.zero_add]
      congr 2
      unfold dyI
      rw [dy_fair hf (by omega) ha]
      omega
theorem rate_best {L : List UInt8} {J : List Jbs} (ht : timeB L J = true) (hf : opV L (daysV J) = daysV J) : lossV L J (rateT J J.length) = lossV L J (bsP L J) := by
  obtain ⟨f1, f2, f3⟩ := timeB_true.1 ht
  have hd := daysJ_bd f2
  have h6 := (jbB_true.1 f2).1
  have ho := rate_ord J (by omega)
  have hrl := rateT_len J J.length
  have hbp := best_plan ht
  obtain ⟨_, hbo, hbl⟩ := planB_true.1 hbp
  have hrp : planB L J (rateT J J.length) = true := planB_true.2 ⟨ht, ho, hrl⟩
  rw [daysV_is f2, opV_yes f1 (inB_true.2 (by have := opT_all L; omega))] at hf
  have hf2 : opT L (daysJ J).toNat = (daysJ J).toNat := by omega
  have key : ∀ p, planB L J p = true → lossV L J p = cstF J 0 p := fun p hp => by
    obtain ⟨_, po, pl⟩ := planB_true.1 hp
    rw [lossV_cost hp]
    have hw := wkT_all (J := J) po pl
    have hs : wkT J p p.length = wkS J p := by
      rw [wkT_sum J p p.length (Nat.le_refl _), List.take_length]
      have hsum : ∀ l : List Int, sumI l = l.sum := fun l => by
        induction l with
        | nil => rfl
        | cons a r ih => rw [List.sum_cons, ← ih]; rfl
      exact hsum _
    exact (cost_fair f2 hf2 (by omega) p.length p rfl (by rw [← hs, hw]; omega)).2.2
  have hperm : (bsP L J).Perm (rateT J J.length) := by
    have h1 := ord_perm hbo
    have h2 := ord_perm ho
    rw [hbl] at h1
    rw [hrl] at h2
    exact h1.trans h2.symm
  have h1 := cst_least (rateT J J.length) (bsP L J) 0 (rateT_srt f2 _ (Nat.le_refl _)) hperm
  have h2 := (best_under ht ho hrl).1
  rw [key _ hrp, key _ hbp] at h2 ⊢
  omega
theorem rate_pairs {L : List UInt8} {J : List Jbs} (ht : timeB L J = true) {k : Nat} (hk : k + 1 < (rateT J J.length).length) : rgB J ((rateT J J.length)[k]?.getD 0) ((rateT J J.length)[k + 1]?.getD 0) = true := by
  obtain ⟨_, f2, _⟩ := timeB_true.1 ht
  have hs := rateT_srt f2 J.length (Nat.le_refl _)
  have := List.pairwise_iff_getElem.1 hs k (k + 1) (by omega) hk (by omega)
  rw [List.getElem?_eq_getElem (by omega), List.getElem?_eq_getElem hk]
  exact this
end Go.Proofs.YtodboccadccpfaaDoor
