/-
  Mathematics of repairs and plans: ends, losses, all plans in their order, the first one with the least loss. Nothing here speaks of the program.
-/
import Derived.Test.YtodboccadccpfaaDoorFcM
import Derived.Test.YtodboccadccpfaaDoorMemJ
import Derived.Test.YtodboccadccpfaaDoorSprM
import Derived.Test.YtodboccadccpfaaDoorTkM
namespace Go.Proofs.YtodboccadccpfaaDoor

/-- one repair -/
def jbOk (s : Jbs) : Bool := (decide (1 ≤ s.d) && decide (s.d ≤ 9)) && (decide (1 ≤ s.g) && decide (s.g ≤ 9))
theorem jbOk_true {s : Jbs} : jbOk s = true ↔ (1 ≤ s.d ∧ s.d ≤ 9) ∧ 1 ≤ s.g ∧ s.g ≤ 9 := by simp [jbOk]
/-- REPAIRS -/
def jbB (J : List Jbs) : Bool := decide (J.length ≤ 6) && J.all jbOk
theorem jbB_true {J : List Jbs} : jbB J = true ↔ J.length ≤ 6 ∧ ∀ s ∈ J, jbOk s = true := by simp [jbB]
theorem jbsAt_mem {J : List Jbs} {k : Nat} (h : k < J.length) : jbsAt J k ∈ J := by rw [jbsAt_lt h]; exact List.getElem_mem h
theorem jbB_at {J : List Jbs} (h : jbB J = true) {k : Nat} (hk : k < J.length) : (1 ≤ (jbsAt J k).d ∧ (jbsAt J k).d ≤ 9) ∧ 1 ≤ (jbsAt J k).g ∧ (jbsAt J k).g ≤ 9 := jbOk_true.1 ((jbB_true.1 h).2 _ (jbsAt_mem hk))
theorem jb_out (J : List Jbs) {k : Nat} (hk : J.length ≤ k) : jbsAt J k = Jbs.zero := by unfold jbsAt; rw [List.getElem?_eq_none hk]; rfl
/-- .. at whatever index -/
theorem jbB_any {J : List Jbs} (h : jbB J = true) (k : Nat) : (0 ≤ (jbsAt J k).d ∧ (jbsAt J k).d ≤ 9) ∧ 0 ≤ (jbsAt J k).g ∧ (jbsAt J k).g ≤ 9 := by
  rcases Nat.lt_or_ge k J.length with hk | hk
  · have := jbB_at h hk; omega
  · rw [jb_out J hk]; simp [Jbs.zero]
/-- the days of the first k -/
def daysT (J : List Jbs) : Nat → Int
  | 0 => 0
  | k + 1 => daysT J k + (jbsAt J k).d
def daysJ (J : List Jbs) : Int := daysT J J.length
theorem daysT_bd {J : List Jbs} (h : jbB J = true) : ∀ k, 0 ≤ daysT J k ∧ daysT J k ≤ 9 * k
  | 0 => by simp [daysT]
  | k + 1 => by have h1 := daysT_bd h k; have h2 := jbB_any h k; rw [daysT]; omega
theorem daysJ_bd {J : List Jbs} (h : jbB J = true) : 0 ≤ daysJ J ∧ daysJ J ≤ 54 := by
  have h1 := daysT_bd h J.length
  have h2 := (jbB_true.1 h).1
  unfold daysJ; omega
/-- the value of JobsDays -/
def daysV (J : List Jbs) : Int := if jbB J then daysJ J else -1

/-- a forecast with enough open days for the repairs -/
def timeB (L : List UInt8) (J : List Jbs) : Bool := fcB L && (jbB J && decide (daysJ J ≤ (opT L L.length : Int)))
theorem timeB_true {L : List UInt8} {J : List Jbs} : timeB L J = true ↔ fcB L = true ∧ jbB J = true ∧ daysJ J ≤ (opT L L.length : Int) := by simp [timeB]
/-- PLANS -/
def planB (L : List UInt8) (J : List Jbs) (p : List Int) : Bool := timeB L J && (ordB p && decide (p.length = J.length))
theorem planB_true {L : List UInt8} {J : List Jbs} {p : List Int} : planB L J p = true ↔ timeB L J = true ∧ ordB p = true ∧ p.length = J.length := by simp [planB]

/-- the repair at a place of a plan -/
def jbP (J : List Jbs) (p : List Int) (k : Nat) : Jbs := jbsAt J (p[k]?.getD 0).toNat
/-- the work of the first k places -/
def wkT (J : List Jbs) (p : List Int) : Nat → Int
  | 0 => 0
  | k + 1 => wkT J p k + (jbP J p k).d
/-- the end of so much work -/
def dyI (L : List UInt8) (w : Int) : Int := (dyL L w.toNat : Int)
theorem wkT_bd {J : List Jbs} (h : jbB J = true) (p : List Int) : ∀ k, 0 ≤ wkT J p k ∧ wkT J p k ≤ 9 * k
  | 0 => by simp [wkT]
  | k + 1 => by have h1 := wkT_bd h p k; have h2 := jbB_any h (p[k]?.getD 0).toNat; rw [wkT]; unfold jbP; omega
theorem fc_len {L : List UInt8} (h : fcB L = true) : L.length ≤ 30 := by unfold fcB at h; simp at h; exact h.2
theorem dyI_bd {L : List UInt8} (h : fcB L = true) (w : Int) : 0 ≤ dyI L w ∧ dyI L w ≤ 30 := by
  have h1 := dyL_le L w.toNat
  have h2 := fc_len h
  unfold dyI; omega

/-! ### the work of a plan stays within all days -/
def sumI (Q : List Int) : Int := Q.foldr (· + ·) 0
theorem sumI_append (a b : List Int) : sumI (a ++ b) = sumI a + sumI b := by
  induction a with
  | nil => simp [sumI]
  | cons x t ih => simp only [sumI, List.cons_append, List.foldr_cons] at ih ⊢; omega
theorem sumI_perm {a b : List Int} (h : a.Perm b) : sumI a = sumI b := by
  induction h with
  | nil => rfl
  | cons x _ ih => simp only [sumI, List.foldr_cons] at ih ⊢; rw [ih]
  | swap x y t => simp only [sumI, List.foldr_cons]; omega
  | trans _ _ ih1 ih2 => exact ih1.trans ih2
theorem wkT_sum (J : List Jbs) (p : List Int) : ∀ k, k ≤ p.length → wkT J p k = sumI ((p.take k).map fun i => (jbsAt J i.toNat).d)
  | 0, _ => by simp [wkT, sumI]
  | k + 1, h => by
    rw [wkT, wkT_sum J p k (by omega), List.take_succ_eq_append_getElem (by omega), List.map_append, sumI_append]
    unfold jbP
    rw [List.getElem?_eq_getElem (by omega)]
    simp [sumI]
theorem ord_perm {p : List Int} (h : ordB p = true) : p.Perm ((List.range p.length).map fun (i : Nat) => (i : Int)) := by
  obtain ⟨h1, h2, h3⟩ := ordB_true.1 h
  refine (List.perm_ext_iff_of_nodup h2 (rangeI_nodup _)).2 fun a => ⟨fun ha => ?_, fun ha => ?_⟩
  · have := h3 a ha
    exact List.mem_map.2 ⟨a.toNat, List.mem_range.2 (by omega), by omega⟩
  · have h4 := pig (rangeI_nodup p.length) (B := p) (fun x hx => ?_) (by simp)
    · exact (pig h2 (B := (List.range p.length).map fun (i : Nat) => (i : Int)) (fun x hx => by
        have := h3 x hx
        exact List.mem_map.2 ⟨x.toNat, List.mem_range.2 (by omega), by omega⟩) (by simp)).2 a ha
    · exact (pig h2 (B := (List.range p.length).map fun (i : Nat) => (i : Int)) (fun x hx => by
        have := h3 x hx
        exact List.mem_map.2 ⟨x.toNat, List.mem_range.2 (by omega), by omega⟩) (by simp)).2 x hx
theorem daysT_sum (J : List Jbs) : ∀ k, daysT J k = sumI ((List.range k).map fun (i : Nat) => (jbsAt J i).d)
  | 0 => rfl
  | k + 1 => by
    rw [daysT, daysT_sum J k, List.range_succ, List.map_append, sumI_append]
    simp [sumI]
theorem wkT_all {J : List Jbs} {p : List Int} (h : ordB p = true) (hl : p.length = J.length) : wkT J p p.length = daysJ J := by
  rw [wkT_sum J p _ (Nat.le_refl _), List.take_length, sumI_perm ((ord_perm h).map _), List.map_map, daysJ, daysT_sum, hl]
  rfl
theorem wkT_mono {J : List Jbs} (h : jbB J = true) (p : List Int) {a b : Nat} (hab : a ≤ b) : wkT J p a ≤ wkT J p b := by
  obtain ⟨d, rfl⟩ : ∃ d, b = a + d := ⟨b - a, by omega⟩
  clear hab
  induction d with
  | zero => exact Int.le_refl _
  | succ d ih =>
    have := jbB_any h (p[a + d]?.getD 0).toNat
    rw [show a + (d + 1) = (a + d) + 1 by omega, wkT]
    unfold jbP; omega
theorem wkT_le {L : List UInt8} {J : List Jbs} {p : List Int} (h : planB L J p = true) {k : Nat} (hk : k ≤ p.length) : wkT J p k ≤ daysJ J ∧ wkT J p k ≤ (opT L L.length : Int) := by
  obtain ⟨h1, h2, h3⟩ := planB_true.1 h
  obtain ⟨_, h5, h6⟩ := timeB_true.1 h1
  have h7 := wkT_mono h5 p hk
  rw [wkT_all h2 h3] at h7
  omega

/-! ### the ends -/
def endT (L : List UInt8) (J : List Jbs) (p : List Int) : Nat → List Int
  | 0 => List.replicate J.length 0
  | k + 1 => (endT L J p k).set (p[k]?.getD 0).toNat (dyI L (wkT J p (k + 1)))
theorem endT_len (L : List UInt8) (J : List Jbs) (p : List Int) : ∀ k, (endT L J p k).length = J.length
  | 0 => by simp [endT]
  | k + 1 => by rw [endT, List.length_set, endT_len L J p k]
/-- the values of PlanEnds -/
def endsL (L : List UInt8) (J : List Jbs) (p : List Int) : List Int := if planB L J p then endT L J p p.length else []
theorem endsL_len (L : List UInt8) (J : List Jbs) (p : List Int) : (endsL L J p).length ≤ J.length := by
  unfold endsL; split
  · rw [endT_len]; omega
  · simp
theorem endT_bd {L : List UInt8} (h : fcB L = true) (J : List Jbs) (p : List Int) : ∀ (k i : Nat), 0 ≤ (endT L J p k)[i]?.getD 0 ∧ (endT L J p k)[i]?.getD 0 ≤ 30
  | 0, i => by
    rw [endT, List.getElem?_replicate]
    split <;> simp
  | k + 1, i => by
    rw [endT, List.getElem?_set]
    split
    · split
      · simp only [Option.getD_some]; exact dyI_bd h _
      · simp
    · exact endT_bd h J p k i
/-- Weight times end of the first k repairs -/
def lossT (J : List Jbs) (E : List Int) : Nat → Int
  | 0 => 0
  | k + 1 => lossT J E k + (jbsAt J k).g * E[k]?.getD 0
theorem mul_bd {a b m n : Int} (ha : 0 ≤ a) (ha2 : a ≤ m) (hb : 0 ≤ b) (hb2 : b ≤ n) : 0 ≤ a * b ∧ a * b ≤ m * n :=
  ⟨Int.mul_nonneg ha hb, Int.le_trans (Int.mul_le_mul_of_nonneg_right ha2 hb) (Int.mul_le_mul_of_nonneg_left hb2 (by omega))⟩
theorem lossT_bd {J : List Jbs} (hJ : jbB J = true) {E : List Int} (hE : ∀ i : Nat, 0 ≤ E[i]?.getD 0 ∧ E[i]?.getD 0 ≤ 30) : ∀ k, 0 ≤ lossT J E k ∧ lossT J E k ≤ 270 * k
  | 0 => by simp [lossT]
  | k + 1 => by
    have h1 := lossT_bd hJ hE k
    have h2 := jbB_any hJ k
    have h3 := hE k
    have h4 := mul_bd h2.2.1 h2.2.2 h3.1 h3.2
    rw [lossT]; omega
/-- the value of PlanLoss -/
def lossV (L : List UInt8) (J : List Jbs) (p : List Int) : Int := if planB L J p then lossT J (endT L J p p.length) J.length else -1
theorem lossV_bd (L : List UInt8) (J : List Jbs) (p : List Int) : -1 ≤ lossV L J p ∧ lossV L J p ≤ 1620 := by
  unfold lossV
  split
  · rename_i h
    obtain ⟨h1, h2, h3⟩ := planB_true.1 h
    obtain ⟨h4, h5, h6⟩ := timeB_true.1 h1
    have h7 := lossT_bd h5 (endT_bd h4 J p p.length) J.length
    have h8 := (jbB_true.1 h5).1
    omega
  · omega

/-! ### the loss, place by place -/
def costT (L : List UInt8) (J : List Jbs) (p : List Int) : Nat → Int
  | 0 => 0
  | k + 1 => costT L J p k + (jbP J p k).g * dyI L (wkT J p (k + 1))
def costP (L : List UInt8) (J : List Jbs) (p : List Int) : Int := costT L J p p.length
theorem lossT_set (J : List Jbs) (E : List Int) (a : Nat) (v : Int) (ha : a < E.length) : ∀ k, lossT J (E.set a v) k = lossT J E k + if a < k then (jbsAt J a).g * (v - E[a]?.getD 0) else 0
  | 0 => by simp [lossT]
  | k + 1 => by
    rw [lossT, lossT_set J E a v ha k, lossT, List.getElem?_set]
    by_cases h : a = k
    · subst h
      rw [if_pos rfl, if_pos ha, if_neg (by omega), if_pos (by omega), Int.mul_sub]
      simp only [Option.getD_some]
      omega
    · rw [if_neg h]
      by_cases h2 : a < k
      · rw [if_pos h2, if_pos (by omega)]; omega
      · rw [if_neg h2, if_neg (by omega)]; omega
theorem endT_zero {L : List UInt8} {J : List Jbs} {p : List Int} : ∀ (k : Nat) (x : Int), 0 ≤ x → k ≤ p.length → (∀ y ∈ p, 0 ≤ y) → x ∉ p.take k → (endT L J p k)[x.toNat]?.getD 0 = 0
  | 0, x, _, _, _, _ => by rw [endT, List.getElem?_replicate]; split <;> simp
  | k + 1, x, h0, hk, hp, hx => by
    rw [List.take_succ_eq_append_getElem (by omega), List.mem_append, not_or] at hx
    have h1 : x ≠ p[k] := by have := hx.2; simpa using this
    have h2 := hp p[k] (List.getElem_mem _)
    rw [endT, getD_at (show k < p.length by omega), List.getElem?_set, if_neg (by omega)]
    exact endT_zero k x h0 (by omega) hp hx.1
theorem loss_cost {L : List UInt8} {J : List Jbs} {p : List Int} (h : ordB p = true) (hl : p.length = J.length) : ∀ k, k ≤ p.length → lossT J (endT L J p k) J.length = costT L J p k
  | 0, _ => by
    have h0 : ∀ m, lossT J (List.replicate J.length 0) m = 0 := fun m => by
      induction m with
      | zero => rfl
      | succ m ih =>
        rw [lossT, ih, List.getElem?_replicate]
        split <;> simp
    rw [endT, costT, h0]
  | k + 1, hk => by
    have ih := loss_cost (L := L) h hl k (by omega)
    have h1 := ord_at h (show k < p.length by omega)
    have h2 := endT_zero (L := L) (J := J) k (p[k]?.getD 0) h1.1 (by omega) (fun y hy => ((ordB_true.1 h).2.2 y hy).1) (ord_notin h (by omega))
    rw [endT, lossT_set _ _ _ _ (by rw [endT_len]; omega), ih, if_pos (by omega), h2, costT]
    unfold jbP
    rw [Int.sub_zero]
theorem lossV_cost {L : List UInt8} {J : List Jbs} {p : List Int} (h : planB L J p = true) : lossV L J p = costP L J p := by
  obtain ⟨_, h2, h3⟩ := planB_true.1 h
  unfold lossV costP
  rw [if_pos h, loss_cost h2 h3 _ (Nat.le_refl _)]

/-! ### rows of a plan's first places -/
theorem jbP_left (J : List Jbs) (a b : List Int) {k : Nat} (h : k < a.length) : jbP J (a ++ b) k = jbP J a k := by unfold jbP; rw [List.getElem?_append_left h]
theorem wkT_left (J : List Jbs) (a b : List Int) : ∀ k, k ≤ a.length → wkT J (a ++ b) k = wkT J a k
  | 0, _ => rfl
  | k + 1, h => by rw [wkT, wkT, wkT_left J a b k (by omega), jbP_left J a b (by omega)]
theorem costT_left (L : List UInt8) (J : List Jbs) (a b : List Int) : ∀ k, k ≤ a.length → costT L J (a ++ b) k = costT L J a k
  | 0, _ => rfl
  | k + 1, h => by rw [costT, costT, costT_left L J a b k (by omega), jbP_left J a b (by omega), wkT_left J a b (k + 1) h]
theorem jbP_end (J : List Jbs) (r : List Int) (i : Int) : jbP J (r ++ [i]) r.length = jbsAt J i.toNat := by unfold jbP; simp
def wkP (J : List Jbs) (r : List Int) : Int := wkT J r r.length
theorem wkP_snoc (J : List Jbs) (r : List Int) (i : Int) : wkP J (r ++ [i]) = wkP J r + (jbsAt J i.toNat).d := by
  unfold wkP
  rw [List.length_append, List.length_singleton, wkT, wkT_left J r [i] _ (Nat.le_refl _), jbP_end]
theorem costP_snoc (L : List UInt8) (J : List Jbs) (r : List Int) (i : Int) : costP L J (r ++ [i]) = costP L J r + (jbsAt J i.toNat).g * dyI L (wkP J r + (jbsAt J i.toNat).d) := by
  unfold costP
  rw [← wkP_snoc]
  unfold wkP
  rw [List.length_append, List.length_singleton, costT, costT_left L J r [i] _ (Nat.le_refl _), jbP_end]
theorem costT_bd {L : List UInt8} (hL : fcB L = true) {J : List Jbs} (hJ : jbB J = true) (p : List Int) : ∀ k, 0 ≤ costT L J p k ∧ costT L J p k ≤ 270 * k
  | 0 => by simp [costT]
  | k + 1 => by
    have h1 := costT_bd hL hJ p k
    have h2 := jbB_any hJ (p[k]?.getD 0).toNat
    have h3 := dyI_bd hL (wkT J p (k + 1))
    have h4 := mul_bd h2.2.1 h2.2.2 h3.1 h3.2
    rw [costT]; unfold jbP; omega
theorem costT_mono {L : List UInt8} (hL : fcB L = true) {J : List Jbs} (hJ : jbB J = true) (p : List Int) {a b : Nat} (hab : a ≤ b) : costT L J p a ≤ costT L J p b := by
  obtain ⟨d, rfl⟩ : ∃ d, b = a + d := ⟨b - a, by omega⟩
  clear hab
  induction d with
  | zero => exact Int.le_refl _
  | succ d ih =>
    have h2 := jbB_any hJ (p[a + d]?.getD 0).toNat
    have h3 := dyI_bd hL (wkT J p (a + d + 1))
    have h4 := mul_bd h2.2.1 h2.2.2 h3.1 h3.2
    rw [show a + (d + 1) = (a + d) + 1 by omega, costT]
    unfold jbP; omega

/-! ### all plans, in their order -/
/-- the index is none of the row -/
def pf (r : List Int) (i : Int) : Bool := !(decide (i ∈ r))
theorem pf_true {r : List Int} {i : Int} : pf r i = true ↔ i ∉ r := by simp [pf]
theorem pf_false {r : List Int} {i : Int} : pf r i = false ↔ i ∈ r := by simp [pf]
def allP (n : Nat) : List (List Int) := rows pf n n
theorem rowsP_mem {n : Nat} : ∀ {k : Nat} {x : List Int}, x ∈ rows pf n k ↔ x.length = k ∧ x.Nodup ∧ ∀ i ∈ x, 0 ≤ i ∧ i < (n : Int)
  | 0, x => by
    simp only [rows, List.mem_singleton]
    constructor
    · rintro rfl; simp
    · rintro ⟨h, _⟩; exact List.eq_nil_of_length_eq_zero h
  | k + 1, x => by
    rw [rows, List.mem_flatMap]
    constructor
    · rintro ⟨r, hr, hx⟩
      obtain ⟨i, hi, hf, rfl⟩ := ext_mem.1 hx
      obtain ⟨h1, h2, h3⟩ := rowsP_mem.1 hr
      refine ⟨by simp [h1], List.nodup_append.2 ⟨h2, by simp, ?_⟩, ?_⟩
      · intro a ha b hb e
        simp at hb; subst hb; subst e
        exact pf_true.1 hf ha
      · intro a ha
        rcases List.mem_append.1 ha with h | h
        · exact h3 a h
        · simp at h; omega
    · rintro ⟨h1, h2, h3⟩
      rcases List.eq_nil_or_concat x with rfl | ⟨r, i, rfl⟩
      · simp at h1
      · rw [List.concat_eq_append] at *
        obtain ⟨h4, _, h6⟩ := List.nodup_append.1 h2
        have h7 := h3 i (by simp)
        refine ⟨r, rowsP_mem.2 ⟨by simpa using h1, h4, fun a ha => h3 a (by simp [ha])⟩, ext_mem.2 ⟨i.toNat, by omega, ?_, ?_⟩⟩
        · rw [Int.toNat_of_nonneg h7.1, pf_true]
          exact fun hm => h6 i hm i (by simp) rfl
        · rw [Int.toNat_of_nonneg h7.1]
theorem allP_mem {n : Nat} (hn : n ≤ 10) {x : List Int} : x ∈ allP n ↔ ordB x = true ∧ x.length = n := by
  unfold allP
  rw [rowsP_mem, ordB_true]
  constructor
  · rintro ⟨h1, h2, h3⟩; exact ⟨⟨by omega, h2, fun i hi => by have := h3 i hi; omega⟩, h1⟩
  · rintro ⟨⟨h1, h2, h3⟩, h4⟩; exact ⟨h4, h2, fun i hi => by have := h3 i hi; omega⟩
theorem allP_ne (n : Nat) : allP n ≠ [] := by
  intro h
  have : ((List.range n).map fun (i : Nat) => (i : Int)) ∈ allP n := by
    unfold allP
    rw [rowsP_mem]
    refine ⟨by simp, rangeI_nodup n, fun i hi => ?_⟩
    obtain ⟨j, hj, rfl⟩ := List.mem_map.1 hi
    have := List.mem_range.1 hj
    omega
  rw [h] at this
  simp at this
/-- the plans behind a row -/
def fromP (n : Nat) (r : List Int) : List (List Int) := fromR pf n (n - r.length) r
theorem fromP_end {n : Nat} {r : List Int} (h : n ≤ r.length) : fromP n r = [r] := by unfold fromP; rw [show n - r.length = 0 by omega]; rfl
theorem fromP_on {n : Nat} {r : List Int} (h : r.length < n) : fromP n r = (ext pf n r).flatMap (fromP n) := by
  unfold fromP
  rw [show n - r.length = (n - r.length - 1) + 1 by omega]
  show (ext pf n r).flatMap (fromR pf n (n - r.length - 1)) = _
  rw [List.flatMap_def, List.flatMap_def]
  congr 1
  refine List.map_congr_left ?_
  intro x hx
  obtain ⟨i, _, _, rfl⟩ := ext_mem.1 hx
  simp only [List.length_append, List.length_cons, List.length_nil]
  rw [show n - r.length - 1 = n - (r.length + (0 + 1)) by omega]
theorem allP_from (n : Nat) : allP n = fromP n [] := by unfold allP fromP; rw [rows_from]; rfl
/-- .. whose next index is one of the first k -/
def preP (n : Nat) (r : List Int) (k : Nat) : List (List Int) := (ext pf k r).flatMap (fromP n)
theorem preP_zero (n : Nat) (r : List Int) : preP n r 0 = [] := rfl
theorem preP_succ (n : Nat) (r : List Int) (k : Nat) : preP n r (k + 1) = preP n r k ++ (if pf r (k : Int) then fromP n (r ++ [(k : Int)]) else []) := by
  unfold preP
  rw [ext_succ, List.flatMap_append]
  by_cases h : pf r (k : Int) = true
  · rw [if_pos h, if_pos h]; simp
  · rw [if_neg h, if_neg h]; rfl
theorem preP_yes {n : Nat} {r : List Int} {k : Nat} (h : (k : Int) ∉ r) : preP n r (k + 1) = preP n r k ++ fromP n (r ++ [(k : Int)]) := by rw [preP_succ, if_pos (pf_true.2 h)]
theorem preP_no {n : Nat} {r : List Int} {k : Nat} (h : (k : Int) ∈ r) : preP n r (k + 1) = preP n r k := by rw [preP_succ, if_neg (by rw [pf_false.2 h]; simp), List.append_nil]
theorem preP_all {n : Nat} {r : List Int} (h : r.length < n) : preP n r n = fromP n r := (fromP_on h).symm
theorem preP_rest {n : Nat} {r : List Int} : ∀ (d k : Nat), k + d = n → ∃ post, preP n r n = preP n r k ++ post
  | 0, k, h => ⟨[], by rw [show k = n by omega, List.append_nil]⟩
  | d + 1, k, h => by
    obtain ⟨post, e⟩ := preP_rest (n := n) (r := r) d (k + 1) (by omega)
    rw [preP_succ, List.append_assoc] at e
    exact ⟨_, e⟩
/-- a row's plans begin with it -/
theorem fromP_pre {n : Nat} : ∀ (j : Nat) (r x : List Int), r.length + j = n → x ∈ fromP n r → ∃ t, x = r ++ t ∧ t.length = j
  | 0, r, x, h, hx => by
    rw [fromP_end (by omega)] at hx
    simp at hx; subst hx
    exact ⟨[], by simp, rfl⟩
  | j + 1, r, x, h, hx => by
    rw [fromP_on (by omega), List.mem_flatMap] at hx
    obtain ⟨y, hy, hx⟩ := hx
    obtain ⟨i, _, _, rfl⟩ := ext_mem.1 hy
    obtain ⟨t, rfl, ht⟩ := fromP_pre j _ x (by simp; omega) hx
    exact ⟨(i : Int) :: t, by simp, by simp [ht]⟩
theorem fromP_ge {L : List UInt8} (hL : fcB L = true) {J : List Jbs} (hJ : jbB J = true) {n : Nat} {r x : List Int} (hr : r.length ≤ n) (hx : x ∈ fromP n r) : costP L J r ≤ costP L J x := by
  obtain ⟨t, rfl, ht⟩ := fromP_pre (n - r.length) r x (by omega) hx
  unfold costP
  rw [← costT_left L J r t _ (Nat.le_refl _)]
  exact costT_mono hL hJ _ (by simp)
theorem preP_ge {L : List UInt8} (hL : fcB L = true) {J : List Jbs} (hJ : jbB J = true) {n : Nat} {r x : List Int} {k : Nat} (hr : r.length < n) (hk : k ≤ n) (hx : x ∈ preP n r k) : costP L J r ≤ costP L J x := by
  obtain ⟨post, e⟩ := preP_rest (n := n) (r := r) (n - k) k (by omega)
  refine fromP_ge hL hJ (Nat.le_of_lt hr) ?_
  rw [← preP_all hr, e]
  exact List.mem_append_left _ hx

end Go.Proofs.YtodboccadccpfaaDoor
