/-
  Mathematics of PlanRate: indexes put in one after another, by rates. Nothing here speaks of the program. / Mathematics of FnPlanBest: two neighbours of the best plan exchanged; the plan by rates is a plan. Nothing here speaks of the program.
-/
import Derived.Test.YtodboccadccpfaaDoorPlnB
namespace Go.Proofs.YtodboccadccpfaaDoor

/-- x's rate is no less than y's -/
def rgB (J : List Jbs) (x y : Int) : Bool := decide ((jbsAt J y.toNat).g * (jbsAt J x.toNat).d ≤ (jbsAt J x.toNat).g * (jbsAt J y.toNat).d)
theorem rgB_true {J : List Jbs} {x y : Int} : rgB J x y = true ↔ (jbsAt J y.toNat).g * (jbsAt J x.toNat).d ≤ (jbsAt J x.toNat).g * (jbsAt J y.toNat).d := by simp [rgB]
/-- the index put in behind all whose rate is no less -/
def insP (J : List Jbs) (l : List Int) (i : Int) : List Int := l.takeWhile (rgB J · i) ++ i :: l.dropWhile (rgB J · i)
def rateT (J : List Jbs) : Nat → List Int
  | 0 => []
  | k + 1 => insP J (rateT J k) (k : Int)
/-- THE PLAN BY RATES -/
def rateL (L : List UInt8) (J : List Jbs) : List Int := if timeB L J then rateT J J.length else []
theorem rateL_no {L : List UInt8} {J : List Jbs} (h : timeB L J = false) : rateL L J = [] := by unfold rateL; rw [h]; rfl
theorem rateL_yes {L : List UInt8} {J : List Jbs} (h : timeB L J = true) : rateL L J = rateT J J.length := by unfold rateL; rw [h]; rfl
theorem insP_mem {J : List Jbs} {l : List Int} {i x : Int} : x ∈ insP J l i ↔ x = i ∨ x ∈ l := by
  unfold insP
  rw [List.mem_append, List.mem_cons]
  have h : x ∈ l ↔ x ∈ l.takeWhile (rgB J · i) ∨ x ∈ l.dropWhile (rgB J · i) := by
    rw [← List.mem_append, List.takeWhile_append_dropWhile]
  rw [h]
  constructor
  · rintro (h1 | h1 | h1)
    · exact .inr (.inl h1)
    · exact .inl h1
    · exact .inr (.inr h1)
  · rintro (h1 | h1 | h1)
    · exact .inr (.inl h1)
    · exact .inl h1
    · exact .inr (.inr h1)
theorem insP_len (J : List Jbs) (l : List Int) (i : Int) : (insP J l i).length = l.length + 1 := by
  have h := congrArg List.length (List.takeWhile_append_dropWhile (p := (rgB J · i)) (l := l))
  unfold insP
  rw [List.length_append] at h
  rw [List.length_append, List.length_cons]
  omega
theorem rateT_len (J : List Jbs) : ∀ k, (rateT J k).length = k
  | 0 => rfl
  | k + 1 => by rw [rateT, insP_len, rateT_len J k]
theorem rateT_bd (J : List Jbs) : ∀ (k : Nat) (x : Int), x ∈ rateT J k → 0 ≤ x ∧ x < (k : Int)
  | 0, x, h => by simp [rateT] at h
  | k + 1, x, h => by
    rcases insP_mem.1 h with rfl | h1
    · omega
    · have := rateT_bd J k x h1; omega
theorem rateT_at (J : List Jbs) {k j : Nat} (h : j < k) : 0 ≤ (rateT J k)[j]?.getD 0 ∧ (rateT J k)[j]?.getD 0 < (k : Int) := by
  rw [getD_at (show j < (rateT J k).length by rw [rateT_len]; exact h)]
  exact rateT_bd J k _ (List.getElem_mem _)

/-! ### the order -/
theorem rg_total {J : List Jbs} {x y : Int} (h : ¬ rgB J x y = true) : rgB J y x = true := by
  rw [rgB_true] at h ⊢
  omega
theorem rg_trans {J : List Jbs} (hJ : jbB J = true) {x y z : Int} (hy : y.toNat < J.length) (h1 : rgB J x y = true) (h2 : rgB J y z = true) : rgB J x z = true := by
  rw [rgB_true] at *
  have dy := (jbB_at hJ hy).1
  have dx := (jbB_any hJ x.toNat).1
  have dz := (jbB_any hJ z.toNat).1
  generalize (jbsAt J x.toNat).g = gx at *
  generalize (jbsAt J y.toNat).g = gy at *
  generalize (jbsAt J z.toNat).g = gz at *
  generalize (jbsAt J x.toNat).d = ax at *
  generalize (jbsAt J y.toNat).d = ay at *
  generalize (jbsAt J z.toNat).d = az at *
  have a1 := Int.mul_le_mul_of_nonneg_right h1 dz.1
  have a2 := Int.mul_le_mul_of_nonneg_right h2 dx.1
  refine Int.le_of_mul_le_mul_right (a := ay) ?_ (by omega)
  have e1 : gy * ax * az = gy * az * ax := by rw [Int.mul_assoc, Int.mul_assoc, Int.mul_comm ax az]
  have e2 : gz * ay * ax = gz * ax * ay := by rw [Int.mul_assoc, Int.mul_assoc, Int.mul_comm ay ax]
  have e3 : gx * ay * az = gx * az * ay := by rw [Int.mul_assoc, Int.mul_assoc, Int.mul_comm ay az]
  omega
def srtB (J : List Jbs) (l : List Int) : Prop := l.Pairwise fun x y => rgB J x y = true
theorem insP_srt {J : List Jbs} (hJ : jbB J = true) {l : List Int} (hl : ∀ x ∈ l, x.toNat < J.length) (hs : srtB J l) (i : Int) : srtB J (insP J l i) := by
  have e := List.takeWhile_append_dropWhile (p := (rgB J · i)) (l := l)
  unfold srtB insP at *
  rw [← e, List.pairwise_append] at hs
  obtain ⟨h1, h2, h3⟩ := hs
  have hd : ∀ y ∈ l.dropWhile (rgB J · i), rgB J i y = true := by
    intro y hy
    cases hc : l.dropWhile (rgB J · i) with
    | nil => rw [hc] at hy; simp at hy
    | cons u t =>
      have hu : ¬ rgB J u i = true := by
        have := List.head_dropWhile_not (rgB J · i) (l := l) (by rw [hc]; simp)
        simp only [hc, List.head_cons] at this
        simp [this]
      have hu2 := rg_total hu
      rw [hc] at hy h2
      rcases List.mem_cons.1 hy with rfl | hy2
      · exact hu2
      · refine rg_trans hJ (hl u ?_) hu2 ((List.pairwise_cons.1 h2).1 y hy2)
        rw [← e, hc]; simp
  rw [List.pairwise_append]
  refine ⟨h1, List.pairwise_cons.2 ⟨hd, h2⟩, ?_⟩
  intro x hx y hy
  rcases List.mem_cons.1 hy with rfl | hy
  · have := List.all_takeWhile (l := l) (p := (rgB J · y))
    rw [List.all_eq_true] at this
    exact this x hx
  · exact h3 x hx y hy
theorem rateT_srt {J : List Jbs} (hJ : jbB J = true) : ∀ k, k ≤ J.length → srtB J (rateT J k)
  | 0, _ => List.Pairwise.nil
  | k + 1, h => insP_srt hJ (fun x hx => by have := rateT_bd J k x hx; omega) (rateT_srt hJ k (by omega)) _
theorem ins_at {J : List Jbs} {l : List Int} {i : Int} {j : Nat} (h1 : ∀ x ∈ l.take j, rgB J x i = true) (h2 : j < l.length → rgB J (l[j]?.getD 0) i = false) : insP J l i = l.take j ++ i :: l.drop j := by
  unfold insP
  conv => lhs; rw [← List.take_append_drop j l]
  rw [List.takeWhile_append_of_pos h1, List.dropWhile_append_of_pos h1]
  rcases Nat.lt_or_ge j l.length with hj | hj
  · have h3 := h2 hj
    rw [getD_at hj] at h3
    rw [List.drop_eq_getElem_cons hj, List.takeWhile_cons_of_neg (by rw [h3]; simp), List.dropWhile_cons_of_neg (by rw [h3]; simp), List.append_nil]
  · rw [List.drop_eq_nil_of_le hj]; simp
/-- put in from the right -/
theorem ins_right {J : List Jbs} (hJ : jbB J = true) {l : List Int} (hl : ∀ x ∈ l, x.toNat < J.length) (hs : srtB J l) {i : Int} {j : Nat} (hj : j ≤ l.length) (h1 : j = 0 ∨ rgB J (l[j - 1]?.getD 0) i = true) (h2 : ∀ a, j ≤ a → a < l.length → rgB J (l[a]?.getD 0) i = false) : insP J l i = l.take j ++ i :: l.drop j := by
  refine ins_at (fun x hx => ?_) (fun h => h2 j (Nat.le_refl _) h)
  rcases h1 with rfl | h1
  · simp at hx
  · obtain ⟨a, ha, rfl⟩ := List.mem_iff_getElem.1 hx
    have ha2 : a < j := by simp at ha; omega
    rw [List.getElem_take]
    rcases Decidable.em (a = j - 1) with e | hne
    · subst e
      rwa [getD_at (by omega)] at h1
    · rw [getD_at (show j - 1 < l.length by omega)] at h1
      exact rg_trans hJ (hl _ (List.getElem_mem _)) (List.pairwise_iff_getElem.1 hs a (j - 1) (by omega) (by omega) (by omega)) h1

/-! ### the walk from the right -/
def insAt (l : List Int) (i : Int) (rest : List Int) (j : Nat) : List Int := l.take j ++ i :: (l.drop j ++ rest)
theorem insAt_len {l : List Int} {i : Int} {rest : List Int} {j : Nat} (h : j ≤ l.length) : (insAt l i rest j).length = l.length + 1 + rest.length := by unfold insAt; simp; omega
theorem insAt_all {l : List Int} {i : Int} {rest : List Int} : insAt l i rest l.length = l ++ i :: rest := by unfold insAt; simp
theorem insAt_form {l : List Int} {i : Int} {rest : List Int} {j : Nat} (h : j < l.length) : insAt l i rest (j + 1) = l.take j ++ (l[j]?.getD 0) :: i :: (l.drop (j + 1) ++ rest) := by
  unfold insAt
  rw [List.take_succ_eq_append_getElem h, getD_at h, List.append_assoc]; rfl
theorem insAt_form2 {l : List Int} {i : Int} {rest : List Int} {j : Nat} (h : j < l.length) : insAt l i rest j = l.take j ++ i :: (l[j]?.getD 0) :: (l.drop (j + 1) ++ rest) := by
  unfold insAt
  rw [List.drop_eq_getElem_cons h, getD_at h]; rfl
theorem insAt_here {l : List Int} {i : Int} {rest : List Int} {j : Nat} (h : j < l.length) : (insAt l i rest (j + 1))[j + 1]?.getD 0 = i := by
  rw [insAt_form h, List.getElem?_append_right (by simp; omega)]
  rw [show j + 1 - (l.take j).length = 1 by simp; omega]; rfl
theorem insAt_prev {l : List Int} {i : Int} {rest : List Int} {j : Nat} (h : j < l.length) : (insAt l i rest (j + 1))[j]?.getD 0 = l[j]?.getD 0 := by
  rw [insAt_form h, List.getElem?_append_right (by simp; omega)]
  rw [show j - (l.take j).length = 0 by simp; omega]; rfl
theorem insAt_swap {l : List Int} {i : Int} {rest : List Int} {j : Nat} (h : j < l.length) : ((insAt l i rest (j + 1)).set (j + 1) (l[j]?.getD 0)).set j i = insAt l i rest j := by
  have e : (l.take j).length = j := by simp; omega
  rw [insAt_form h, insAt_form2 h]
  rw [List.set_append_right _ _ (by omega), e, show j + 1 - j = 1 by omega, List.set_cons_succ, List.set_cons_zero, List.set_append_right _ _ (by omega), e, Nat.sub_self, List.set_cons_zero]
/-- the row between the rounds -/
def roundP (J : List Jbs) (n k : Nat) : List Int := rateT J (min k n) ++ (firstP n).drop k
theorem roundP_start (J : List Jbs) (n : Nat) : roundP J n 1 = firstP n := by
  unfold roundP
  cases n with
  | zero => simp [rateT, firstP]
  | succ m =>
    rw [show min 1 (m + 1) = 1 by omega]
    have : firstP (m + 1) = 0 :: (firstP (m + 1)).drop 1 := by
      have h : 0 < (firstP (m + 1)).length := by simp [firstP]
      conv => lhs; rw [← List.drop_zero (l := firstP (m + 1)), List.drop_eq_getElem_cons h]
      simp [firstP]
    rw [this]
    simp [rateT, insP]
theorem roundP_end (J : List Jbs) {n k : Nat} (h : n ≤ k) : roundP J n k = rateT J n := by
  unfold roundP
  rw [show min k n = n by omega, List.drop_eq_nil_of_le (by simp [firstP]; omega), List.append_nil]
theorem roundP_in (J : List Jbs) {n k : Nat} (h : k < n) : roundP J n k = insAt (rateT J k) (k : Int) ((firstP n).drop (k + 1)) k := by
  have e := insAt_all (l := rateT J k) (i := (k : Int)) (rest := (firstP n).drop (k + 1))
  rw [rateT_len] at e
  rw [e]
  unfold roundP
  rw [show min k n = k by omega, List.drop_eq_getElem_cons (show k < (firstP n).length by simp [firstP]; omega)]
  simp [firstP]
theorem roundP_on {J : List Jbs} (hJ : jbB J = true) {k j : Nat} (h : k < J.length) (hj : j ≤ k) (h1 : j = 0 ∨ rgB J ((rateT J k)[j - 1]?.getD 0) (k : Int) = true) (h2 : ∀ a, j ≤ a → a < k → rgB J ((rateT J k)[a]?.getD 0) (k : Int) = false) :
    insAt (rateT J k) (k : Int) ((firstP J.length).drop (k + 1)) j = roundP J J.length (k + 1) := by
  have hl : ∀ x ∈ rateT J k, x.toNat < J.length := fun x hx => by have := rateT_bd J k x hx; omega
  have e := ins_right hJ hl (rateT_srt hJ k (by omega)) (by rw [rateT_len]; exact hj) h1 (fun a ha hb => h2 a ha (by rwa [rateT_len] at hb))
  unfold roundP
  rw [show min (k + 1) J.length = k + 1 by omega, rateT, e]
  unfold insAt
  simp
/-- .. and from the left -/
theorem left_on {J : List Jbs} {k j : Nat} (h1 : ∀ a, a < j → rgB J ((rateT J k)[a]?.getD 0) (k : Int) = true) (h2 : j < k → rgB J ((rateT J k)[j]?.getD 0) (k : Int) = false) :
    rateT J (k + 1) = (rateT J k).take j ++ [(k : Int)] ++ (rateT J k).drop j := by
  rw [rateT, ins_at (j := j) (fun x hx => ?_) (fun h => h2 (by rwa [rateT_len] at h)), List.append_assoc]
  · rfl
  · obtain ⟨a, ha, rfl⟩ := List.mem_iff_getElem.1 hx
    have ha2 : a < j ∧ a < (rateT J k).length := by simp at ha; omega
    rw [List.getElem_take]
    have := h1 a ha2.1
    rwa [getD_at ha2.2] at this
end Go.Proofs.YtodboccadccpfaaDoor

namespace Go.Proofs.YtodboccadccpfaaDoor

/-- the places k and k + 1 exchanged -/
def swP (p : List Int) (k : Nat) : List Int := (p.set (k + 1) (p[k]?.getD 0)).set k (p[k + 1]?.getD 0)
theorem swP_len (p : List Int) (k : Nat) : (swP p k).length = p.length := by simp [swP]
theorem sw_split {p : List Int} {k : Nat} (h : k + 1 < p.length) : p = p.take k ++ (p[k]?.getD 0) :: (p[k + 1]?.getD 0) :: p.drop (k + 2) ∧ swP p k = p.take k ++ (p[k + 1]?.getD 0) :: (p[k]?.getD 0) :: p.drop (k + 2) := by
  have e : p = p.take k ++ (p[k]?.getD 0) :: (p[k + 1]?.getD 0) :: p.drop (k + 2) := by
    conv => lhs; rw [← List.take_append_drop k p]
    rw [List.drop_eq_getElem_cons (by omega), List.drop_eq_getElem_cons (by omega), getD_at (show k < p.length by omega), getD_at h]
  refine ⟨e, ?_⟩
  have hl : (p.take k).length = k := by simp; omega
  unfold swP
  generalize p[k]?.getD 0 = x at *
  generalize p[k + 1]?.getD 0 = y at *
  generalize p.drop (k + 2) = t at *
  generalize p.take k = u at *
  rw [e, List.set_append_right _ _ (by omega), hl, show k + 1 - k = 1 by omega, List.set_cons_succ, List.set_cons_zero, List.set_append_right _ _ (by omega), hl, Nat.sub_self, List.set_cons_zero]
theorem sw_at {p : List Int} {k : Nat} (h : k + 1 < p.length) : (swP p k)[k]?.getD 0 = p[k + 1]?.getD 0 := by
  unfold swP
  rw [List.getElem?_set_self (by simp; omega)]; rfl
theorem ord_perm_of {p q : List Int} (hp : ordB p = true) (h : p.Perm q) : ordB q = true := by
  obtain ⟨h1, h2, h3⟩ := ordB_true.1 hp
  have hl := h.length_eq
  exact ordB_true.2 ⟨by omega, h.nodup_iff.1 h2, fun i hi => by have := h3 i (h.mem_iff.2 hi); omega⟩
theorem sw_perm {p : List Int} {k : Nat} (h : k + 1 < p.length) : p.Perm (swP p k) := by
  obtain ⟨h1, h2⟩ := sw_split h
  rw [h2]
  conv => lhs; rw [h1]
  exact List.Perm.append_left _ (List.Perm.swap _ _ _)
theorem best_loss {L : List UInt8} {J : List Jbs} (ht : timeB L J = true) : bst (lossV L J) (allP J.length) = some (bsP L J) := by
  obtain ⟨x, hx⟩ := bp_some L J
  rw [bp_loss ht, hx, bp_val ht hx]
theorem best_plan {L : List UInt8} {J : List Jbs} (ht : timeB L J = true) : planB L J (bsP L J) = true := by
  have h6 := (jbB_true.1 (timeB_true.1 ht).2.1).1
  obtain ⟨h1, h2⟩ := (allP_mem (by omega)).1 (bst_mem (best_loss ht))
  exact planB_true.2 ⟨ht, h1, h2⟩
theorem loss_nn {L : List UInt8} {J : List Jbs} {p : List Int} (h : planB L J p = true) : 0 ≤ lossV L J p := by
  obtain ⟨h1, h2, h3⟩ := planB_true.1 h
  obtain ⟨h4, h5, _⟩ := timeB_true.1 h1
  rw [lossV_cost h]
  exact (costT_bd h4 h5 p p.length).1
theorem best_under {L : List UInt8} {J : List Jbs} (ht : timeB L J = true) {q : List Int} (hq : ordB q = true) (hl : q.length = J.length) : lossV L J (bsP L J) ≤ lossV L J q ∧ (lossV L J q = lossV L J (bsP L J) → lexB q (bsP L J) = false) := by
  have h6 := (jbB_true.1 (timeB_true.1 ht).2.1).1
  have hb := best_loss ht
  have hm := (allP_mem (n := J.length) (by omega)).2 ⟨hq, hl⟩
  refine ⟨bst_le hb q hm, fun he => ?_⟩
  obtain ⟨a, b, hab, ha, _⟩ := bst_split hb
  have hp : (allP J.length).Pairwise (fun a b => lexB a b = true) := rows_lex _ _ _
  rw [hab] at hm hp
  rcases List.mem_append.1 hm with hu | hu
  · have := ha q hu; omega
  · rcases List.mem_cons.1 hu with rfl | hu
    · exact lexB_irrefl _
    · rw [List.pairwise_append] at hp
      exact lexB_asymm ((List.pairwise_cons.1 hp.2.1).1 q hu)
theorem best_swap {L : List UInt8} {J : List Jbs} (ht : timeB L J = true) {k : Nat} (hk : k + 1 < (bsP L J).length) :
    lossV L J (bsP L J) ≤ lossV L J (swP (bsP L J) k) ∧ (lossV L J (swP (bsP L J) k) = lossV L J (bsP L J) → ¬ (bsP L J)[k + 1]?.getD 0 < (bsP L J)[k]?.getD 0) := by
  obtain ⟨_, h2, h3⟩ := planB_true.1 (best_plan ht)
  obtain ⟨h4, h5⟩ := best_under ht (ord_perm_of h2 (sw_perm hk)) (by rw [swP_len, h3])
  refine ⟨h4, fun he hlt => ?_⟩
  have h6 := h5 he
  obtain ⟨e1, e2⟩ := sw_split hk
  rw [e2] at h6
  conv at h6 => lhs; arg 2; rw [e1]
  rw [lexB_left, lexB, if_neg (by omega), decide_eq_true hlt] at h6
  cases h6
theorem rate_ord (J : List Jbs) (h6 : J.length ≤ 10) : ordB (rateT J J.length) = true := by
  have hn : ∀ k, (rateT J k).Nodup := fun k => by
    induction k with
    | zero => exact List.nodup_nil
    | succ k ih =>
      have hp : ((k : Int) :: rateT J k).Perm (rateT J (k + 1)) := by
        have e := List.takeWhile_append_dropWhile (p := (rgB J · (k : Int))) (l := rateT J k)
        show ((k : Int) :: rateT J k).Perm ((rateT J k).takeWhile (rgB J · (k : Int)) ++ (k : Int) :: (rateT J k).dropWhile (rgB J · (k : Int)))
        refine List.Perm.trans ?_ List.perm_middle.symm
        rw [e]
      exact hp.nodup_iff.1 (List.nodup_cons.2 ⟨fun hm => by have := rateT_bd J k _ hm; omega, ih⟩)
  exact ordB_true.2 ⟨by rw [rateT_len]; exact h6, hn _, fun i hi => by rw [rateT_len]; exact rateT_bd J _ i hi⟩
end Go.Proofs.YtodboccadccpfaaDoor
