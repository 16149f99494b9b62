/-
  Mathematics of traffic: sides and their cuts; no traffic is more than a cut, the greatest one is the least cut. Nothing here speaks of the program.
-/
import Derived.Test.YtnekjhpocfdpnaaTfM
namespace Go.Proofs.Ytnekjhpocfdpnaa

theorem TLv_no {n : Int} {N : List Lin} {f t : Int} (h : endB n N f t = false) : TLv n N f t = [] := by unfold TLv; rw [h]; rfl
theorem TLv_yes {n : Int} {N : List Lin} {f t : Int} (h : endB n N f t = true) : TLv n N f t = TL n N f t := by unfold TLv; rw [h]; rfl
theorem TLv_len {n : Int} {N : List Lin} {f t : Int} : (TLv n N f t).length ≤ N.length := by
  cases h : endB n N f t
  · rw [TLv_no h]; simp
  · rw [TLv_yes h, TL_len h]; exact Nat.le_refl _
theorem trL_yes {N : List Lin} {m : Nat} {f t : Int} {F : Nat} {L : List Int} (h : wayV N m f t L ≠ []) : trL N m f t (F + 1) L = trL N m f t F (addC N L f (wayV N m f t L).tail) := by rw [trL, if_neg h]
theorem trL_no {N : List Lin} {m : Nat} {f t : Int} {L : List Int} (h : wayV N m f t L = []) : ∀ F, trL N m f t F L = L
  | 0 => rfl
  | F + 1 => by rw [trL, if_pos h]


/-- the side of a station -/
def sdAt (S : List Int) (x : Int) : Int := S[x.toNat]?.getD 0
def cutT (N : List Lin) (S : List Int) : Nat → Int
  | 0 => 0
  | k + 1 => cutT N S k + (if sdAt S (linAt N k).a = sdAt S (linAt N k).b then 0 else (linAt N k).c)
/-- the channels between both sides -/
def cutC (N : List Lin) (S : List Int) : Int := cutT N S N.length
/-- a side -/
def sideB (n f t : Int) (S : List Int) : Bool := ((decide ((S.length : Int) = n) && S.all (fun x => inB x 0 1)) && decide (sdAt S f = 1)) && decide (sdAt S t = 0)
theorem sideB_true {n f t : Int} {S : List Int} : sideB n f t S = true ↔ (S.length : Int) = n ∧ (∀ x ∈ S, x = 0 ∨ x = 1) ∧ sdAt S f = 1 ∧ sdAt S t = 0 := by
  unfold sideB
  simp only [Bool.and_eq_true, decide_eq_true_eq, List.all_eq_true, inB_true, and_assoc]
  constructor
  · rintro ⟨h1, h2, h3⟩
    exact ⟨h1, fun x hx => by have := h2 x hx; omega, h3⟩
  · rintro ⟨h1, h2, h3⟩
    exact ⟨h1, fun x hx => by have := h2 x hx; omega, h3⟩
/-- the value of CutOf -/
def cutV (n : Int) (N : List Lin) (f t : Int) (S : List Int) : Int := if endB n N f t && sideB n f t S then cutC N S else -1
theorem sd_01 {S : List Int} (h : ∀ x ∈ S, x = 0 ∨ x = 1) (x : Int) : sdAt S x = 0 ∨ sdAt S x = 1 := by
  unfold sdAt
  rcases Nat.lt_or_ge x.toNat S.length with h1 | h1
  · rw [List.getElem?_eq_getElem h1]; exact h _ (List.getElem_mem h1)
  · rw [List.getElem?_eq_none h1]; exact .inl rfl
section
variable {n : Int} {N : List Lin} {f t : Int} {L S : List Int}
theorem cutT_bd (hn : netB n N = true) : ∀ k, k ≤ N.length → 0 ≤ cutT N S k ∧ cutT N S k ≤ 9 * (k : Int)
  | 0, _ => by simp [cutT]
  | k + 1, hk => by
    have h1 := cutT_bd hn k (by omega)
    have h2 := netB_at hn (k := k) (by omega)
    rw [cutT]
    split <;> omega
theorem cutC_bd (hn : netB n N = true) : 0 ≤ cutC N S ∧ cutC N S ≤ 90 := by
  have h1 := cutT_bd (S := S) hn N.length (Nat.le_refl _)
  have h2 := (netB_true.1 hn).2.1
  unfold cutC; omega
theorem cutV_bd (n : Int) (N : List Lin) (f t : Int) (S : List Int) : -1 ≤ cutV n N f t S ∧ cutV n N f t S ≤ 90 := by
  unfold cutV
  split
  · rename_i h
    rw [Bool.and_eq_true] at h
    have := cutC_bd (S := S) (endB_true.1 h.1).1
    omega
  · omega
theorem cutV_nonneg : 0 ≤ cutV n N f t S ↔ (endB n N f t = true ∧ sideB n f t S = true) := by
  unfold cutV
  split
  · rename_i h
    rw [Bool.and_eq_true] at h
    have := cutC_bd (S := S) (endB_true.1 h.1).1
    exact ⟨fun _ => h, fun _ => this.1⟩
  · rename_i h
    rw [Bool.and_eq_true] at h
    exact ⟨fun h2 => by omega, fun h2 => absurd h2 h⟩
theorem cutV_yes (h : endB n N f t = true) (hs : sideB n f t S = true) : cutV n N f t S = cutC N S := by unfold cutV; rw [h, hs]; rfl

/-! ## what goes out of one side -/
/-- a sum over the first k stations of those on the side -/
def sumS (S : List Int) (h : Int → Int) : Nat → Int
  | 0 => 0
  | k + 1 => sumS S h k + (if sdAt S (k : Int) = 1 then h (k : Int) else 0)
theorem sumS_add (S : List Int) (h g : Int → Int) : ∀ k, sumS S (fun x => h x + g x) k = sumS S h k + sumS S g k
  | 0 => rfl
  | k + 1 => by
    rw [sumS, sumS, sumS, sumS_add S h g k]
    split <;> omega
theorem sumS_one (S : List Int) (h : Int → Int) {a : Nat} (ha : ∀ x : Int, x ≠ (a : Int) → h x = 0) : ∀ k, sumS S h k = if a < k ∧ sdAt S (a : Int) = 1 then h (a : Int) else 0
  | 0 => by simp [sumS]
  | k + 1 => by
    rw [sumS, sumS_one S h ha k]
    by_cases h1 : k = a
    · subst h1
      have g1 : ¬ k < k := by omega
      have g2 : k < k + 1 := by omega
      simp only [g1, g2, false_and, true_and, ↓reduceIte]; omega
    · have g1 : (a < k + 1) = (a < k) := by simp only [eq_iff_iff]; omega
      rw [ha (k : Int) (by omega)]
      simp [g1]
/-- one line's share -/
def shr (N : List Lin) (L S : List Int) (k : Nat) : Int := (if sdAt S (linAt N k).a = 1 then ldAt L k else 0) - (if sdAt S (linAt N k).b = 1 then ldAt L k else 0)
def shrT (N : List Lin) (L S : List Int) : Nat → Int
  | 0 => 0
  | k + 1 => shrT N L S k + shr N L S k
theorem sum_pick (S : List Int) {m : Nat} {a : Int} (h0 : 0 ≤ a) (h1 : a < (m : Int)) (v : Int) : sumS S (fun x => if a = x then v else 0) m = if sdAt S a = 1 then v else 0 := by
  obtain ⟨j, rfl⟩ : ∃ j : Nat, a = (j : Int) := ⟨a.toNat, by omega⟩
  rw [sumS_one S _ (a := j) (fun x hx => if_neg (Ne.symm hx)) m, if_pos rfl]
  have g1 : j < m := by omega
  simp only [g1, true_and]
theorem sum_zero (S : List Int) (m : Nat) : sumS S (fun _ => 0) m = 0 := by
  induction m with
  | zero => rfl
  | succ k ih => rw [sumS, ih]; simp
theorem sum_neg (S : List Int) (h : Int → Int) : ∀ m, sumS S (fun x => -h x) m = -sumS S h m
  | 0 => rfl
  | k + 1 => by
    rw [sumS, sumS, sum_neg S h k]
    split <;> omega
theorem sum_share {m : Nat} (hn : netB (m : Int) N = true) : ∀ k, k ≤ N.length → sumS S (fun x => outT N L x k) m = shrT N L S k
  | 0, _ => sum_zero S m
  | k + 1, hk => by
    have h1 := netB_at hn (k := k) (by omega)
    have e : (fun x => outT N L x (k + 1)) = fun x => outT N L x k + ((if (linAt N k).a = x then ldAt L k else 0) + -(if (linAt N k).b = x then ldAt L k else 0)) := by
      funext x
      rw [outT, outK]; omega
    rw [e, sumS_add S (fun x => outT N L x k), sumS_add S (fun x => if (linAt N k).a = x then ldAt L k else 0), sum_share hn k (by omega), sum_neg S (fun x => if (linAt N k).b = x then ldAt L k else 0), sum_pick S h1.1.1.1 h1.1.1.2, sum_pick S h1.1.2.1.1 h1.1.2.1.2, shrT, shr]
    omega
/-- of a load only the first station's traffic is left -/
theorem out_share {m : Nat} (hn : netB (m : Int) N = true) (hk : ∀ x : Int, x ≠ f → x ≠ t → outV N L x = 0) (hf : 0 ≤ f ∧ f < (m : Int)) (hsf : sdAt S f = 1) (hst : sdAt S t = 0) : outV N L f = shrT N L S N.length := by
  rw [← sum_share (S := S) (L := L) hn N.length (Nat.le_refl _)]
  show outV N L f = sumS S (fun x => outV N L x) m
  have key : ∀ k : Nat, sumS S (fun x => outV N L x) k = if f < (k : Int) then outV N L f else 0 := by
    intro k
    induction k with
    | zero => rw [sumS, if_neg (by omega)]
    | succ k ih =>
      rw [sumS, ih]
      by_cases h1 : (k : Int) = f
      · rw [if_neg (by omega), if_pos (by rw [h1]; exact hsf), if_pos (by omega), h1]; omega
      · have g1 : (f < ((k + 1 : Nat) : Int)) = (f < (k : Int)) := by simp only [eq_iff_iff]; omega
        simp only [g1]
        by_cases h2 : (k : Int) = t
        · have g2 : ¬ sdAt S (k : Int) = 1 := by rw [h2, hst]; omega
          rw [if_neg g2]; omega
        · rw [hk (k : Int) h1 h2]; simp
  rw [key, if_pos hf.2]
/-- NO LOAD IS MORE THAN A CUT -/
theorem share_le (hc : chB N L = true) (hs : ∀ x ∈ S, x = 0 ∨ x = 1) : ∀ k, k ≤ N.length → shrT N L S k ≤ cutT N S k
  | 0, _ => by simp [shrT, cutT]
  | k + 1, hk => by
    have h1 := share_le hc hs k (by omega)
    have h2 := (chB_true.1 hc).2 k (by omega)
    have h3 := sd_01 hs (linAt N k).a
    have h4 := sd_01 hs (linAt N k).b
    rw [shrT, cutT, shr]
    rcases h3 with h3 | h3 <;> rcases h4 with h4 | h4 <;> rw [h3, h4] <;> simp only [eq_self, ↓reduceIte, Int.reduceEq] <;> omega
theorem flow_cut (h : endB n N f t = true) (hL : flowP N f t L) (hS : sideB n f t S = true) : outV N L f ≤ cutC N S := by
  obtain ⟨m, rfl, hm, hf, ht, hft⟩ := ends_nat h
  have hn := (endB_true.1 h).1
  obtain ⟨h1, h2, h3, h4⟩ := sideB_true.1 hS
  rw [out_share hn hL.2.1 hf h3 h4]
  exact share_le hL.1 h2 N.length (Nat.le_refl _)

/-! ## the side of what is reached -/
/-- the stations from which the last one is not reached -/
def farS (O : List Int) : List Int := O.map (fun x => if x < 0 then 1 else 0)
theorem farS_at {O : List Int} {m : Nat} (hl : O.length = m) {x : Int} (h0 : 0 ≤ x) (h1 : x < (m : Int)) : sdAt (farS O) x = if oAt O x < 0 then 1 else 0 := by
  have hx : x.toNat < O.length := by omega
  unfold sdAt farS oAt
  rw [List.getElem?_map, List.getElem?_eq_getElem hx]
  rfl
theorem share_eq {m : Nat} {O : List Int} (hn : netB (m : Int) N = true) (hc : chB N L = true) (hD : Dst (fr N L) m t O) : ∀ k, k ≤ N.length → shrT N L (farS O) k = cutT N (farS O) k
  | 0, _ => rfl
  | k + 1, hk => by
    have h1 := share_eq hn hc hD k (by omega)
    have h2 := (chB_true.1 hc).2 k (by omega)
    have h3 := netB_at hn (k := k) (by omega)
    have hfree : ∀ a b : Int, fr N L a b = false → frAt N L a b k = false := by
      intro a b hf
      rcases frI_case N L a b with ⟨_, _, h4⟩ | ⟨i, _, _, e, _⟩
      · exact h4 k (by omega)
      · rw [e] at hf; cases hf
    have hno : ∀ a b : Int, 0 ≤ a → a < (m : Int) → 0 ≤ b → b < (m : Int) → oAt O a < 0 → ¬ oAt O b < 0 → frAt N L a b k = false := by
      intro a b ha0 ha1 hb0 hb1 ha hb
      apply hfree
      apply eq_false_of_ne_true
      intro hf
      have := (hD.step b hb0 hb1 (by omega) a ha0 ha1 hf).1
      omega
    rw [shrT, cutT, shr, h1, farS_at hD.len h3.1.1.1 h3.1.1.2, farS_at hD.len h3.1.2.1.1 h3.1.2.1.2]
    by_cases ha : oAt O (linAt N k).a < 0 <;> by_cases hb : oAt O (linAt N k).b < 0
    · rw [if_pos ha, if_pos hb]; simp
    · have h4 := hno _ _ h3.1.1.1 h3.1.1.2 h3.1.2.1.1 h3.1.2.1.2 ha hb
      have h5 : ¬ ldAt L k < (linAt N k).c := fun h6 => by
        rw [frAt_true.2 (.inl ⟨rfl, rfl, h6⟩)] at h4; cases h4
      rw [if_pos ha, if_neg hb]
      simp only [eq_self, ↓reduceIte, Int.reduceEq]
      omega
    · have h4 := hno _ _ h3.1.2.1.1 h3.1.2.1.2 h3.1.1.1 h3.1.1.2 hb ha
      have h5 : ¬ -ldAt L k < (linAt N k).c := fun h6 => by
        rw [frAt_true.2 (.inr ⟨rfl, rfl, h6⟩)] at h4; cases h4
      rw [if_neg ha, if_pos hb]
      simp only [eq_self, ↓reduceIte, Int.reduceEq]
      omega
    · rw [if_neg ha, if_neg hb]; simp
/-- THE GREATEST TRAFFIC IS A CUT -/
theorem most_cut (h : endB n N f t = true) : ∃ S, sideB n f t S = true ∧ cutC N S = mostV n N f t := by
  obtain ⟨m, rfl, hm, hf, ht, hft⟩ := ends_nat h
  have hn := (endB_true.1 h).1
  obtain ⟨hfl, hw⟩ := TL_flow h
  rw [Int.toNat_natCast] at hw
  have hD := stepL_dst (fr := fr N (TL (m : Int) N f t)) hm.2 ht
  rcases way_steps (N := N) (L := TL (m : Int) N f t) hm.2 hf ht with ⟨h1, _⟩ | ⟨F, _, h1⟩
  · refine ⟨farS (stepL (fr N (TL (m : Int) N f t)) m t), sideB_true.2 ⟨?_, ?_, ?_, ?_⟩, ?_⟩
    · unfold farS; rw [List.length_map, hD.len]
    · intro x hx
      obtain ⟨y, _, rfl⟩ := List.mem_map.1 hx
      split <;> omega
    · rw [farS_at hD.len hf.1 hf.2, if_pos h1]
    · rw [farS_at hD.len ht.1 ht.2, hD.zero]; rfl
    · unfold mostV
      rw [if_pos h, out_share (S := farS (stepL (fr N (TL (m : Int) N f t)) m t)) hn hfl.2.1 hf (by rw [farS_at hD.len hf.1 hf.2, if_pos h1]) (by rw [farS_at hD.len ht.1 ht.2, hD.zero]; rfl), share_eq hn hfl.1 hD N.length (Nat.le_refl _)]
      rfl
  · rw [h1] at hw; cases hw
/-- .. AND NOT MORE THAN ANY -/
theorem most_le (h : endB n N f t = true) (hS : sideB n f t S = true) : mostV n N f t ≤ cutC N S := by
  have := flow_cut h (TL_flow h).1 hS
  unfold mostV
  rwa [if_pos h]
theorem most_nonneg (h : endB n N f t = true) : 0 ≤ mostV n N f t := by
  unfold mostV
  rw [if_pos h]
  exact (TL_flow h).1.2.2
end

end Go.Proofs.Ytnekjhpocfdpnaa
