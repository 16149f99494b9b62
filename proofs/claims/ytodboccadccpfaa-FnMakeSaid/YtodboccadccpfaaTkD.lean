/-
  Orders without one coil: the mathematics of P57 and of a part of P54. Nothing here speaks of the program.
-/
import Derived.Test.YtodboccadccpfaaTkN
import Derived.Test.YtodboccadccpfaaDrp
namespace Go.Proofs.Ytodboccadccpfaa
open Go.RowKit

/-- where the coil k of what is left stood -/
def shiftN (i k : Nat) : Nat := if k < i then k else k + 1
theorem shift_lt {i a b : Nat} (h : b < a) : shiftN i b < shiftN i a := by unfold shiftN; split <;> split <;> omega
theorem shift_ne (i k : Nat) : shiftN i k ≠ i := by unfold shiftN; split <;> omega
theorem shift_bd {i k n : Nat} (h : k < n - 1) : shiftN i k < n := by unfold shiftN; split <;> omega
theorem dropL_at {L : List Int} {i k : Nat} (hi : i < L.length) (hk : k < L.length - 1) : (dropL L i)[k]?.getD 0 = lessN (L[i]?.getD 0) (L[shiftN i k]?.getD 0) := by
  have hs := shift_bd (i := i) hk
  unfold dropL
  rw [List.getElem?_map]
  have e : (L.take i ++ L.drop (i + 1))[k]? = L[shiftN i k]? := by
    unfold shiftN
    split
    · rw [List.getElem?_append_left (by simp; omega), List.getElem?_take_of_lt (by omega)]
    · rw [List.getElem?_append_right (by simp; omega), List.getElem?_drop]
      congr 1
      simp
      omega
  rw [e, List.getElem?_eq_getElem hs]
  rfl
theorem less_lt {p x y : Int} (hx : x ≠ p) (hy : y ≠ p) : lessN p x < lessN p y ↔ x < y := by unfold lessN; split <;> split <;> omega
theorem drop_ord {L : List Int} (h : ordB L = true) {i : Nat} (hi : i < L.length) : ordB (dropL L i) = true := by
  have h10 := ord_len h
  have hp := ord_at h hi
  refine ordI_all (by rw [dropL_len hi]; omega) fun v hv => ?_
  rw [dropL_len hi] at hv
  obtain ⟨u, hu⟩ : ∃ u : Nat, u = if (v : Int) < L[i]?.getD 0 then v else v + 1 := ⟨_, rfl⟩
  have hul : u < L.length := by rw [hu]; split <;> omega
  have hup : (u : Int) ≠ L[i]?.getD 0 := by rw [hu]; split <;> omega
  have hj := inv_lt h hul
  have hat := inv_at h hul
  have hji : invN L u ≠ i := fun e => by rw [e] at hat; exact hup hat.symm
  obtain ⟨k, hk⟩ : ∃ k : Nat, k = if invN L u < i then invN L u else invN L u - 1 := ⟨_, rfl⟩
  have hkl : k < L.length - 1 := by rw [hk]; split <;> omega
  have hsk : shiftN i k = invN L u := by
    unfold shiftN
    by_cases c : invN L u < i
    · rw [if_pos c] at hk
      rw [if_pos (by omega), hk]
    · rw [if_neg c] at hk
      rw [if_neg (by omega), hk]
      omega
  have h1 := dropL_at hi hkl
  rw [hsk, hat] at h1
  have h2 : lessN (L[i]?.getD 0) (u : Int) = v := by
    unfold lessN
    rw [hu]
    split <;> split <;> omega
  rw [h2] at h1
  rw [← h1]
  exact getD_mem (by rw [dropL_len hi]; exact hkl)
theorem drop_less {L : List Int} (h : ordB L = true) {i a b : Nat} (hi : i < L.length) (ha : a < L.length - 1) (hb : b < L.length - 1) :
    (dropL L i)[a]?.getD 0 < (dropL L i)[b]?.getD 0 ↔ L[shiftN i a]?.getD 0 < L[shiftN i b]?.getD 0 := by
  rw [dropL_at hi ha, dropL_at hi hb]
  exact less_lt (fun e => shift_ne i a (ord_inj h (shift_bd ha) hi e)) (fun e => shift_ne i b (ord_inj h (shift_bd hb) hi e))
/-- WHAT IS LEFT AGREES AS IT DID -/
theorem drop_agr {L : List Int} (h : ordB L = true) {i a b : Nat} (hi : i < L.length) (ha : a < L.length - 1) (hb : b < a) : agrB (dropL L i) (a : Int) (b : Int) = agrB L (shiftN i a : Nat) (shiftN i b : Nat) := by
  rw [agrB_gt (drop_ord h hi) hb (by rw [dropL_len hi]; exact ha), agrB_gt h (shift_lt hb) (shift_bd ha)]
  exact decide_eq_decide.2 (drop_less h hi ha (by omega))
/-! ### the least tanks of what is left -/
theorem drop_cnt_le {L : List Int} (h : ordB L = true) {i : Nat} (hi : i < L.length) : cntN (dropL L i) ≤ cntN L := by
  have ho := drop_ord h hi
  obtain ⟨h1, _⟩ := lgO_chain (L := dropL L i) (dropL L i).length (Nat.le_refl _)
  have hlt : ∀ x ∈ lgO (dropL L i) (dropL L i).length, x < L.length - 1 := fun x hx => by have := lgO_lt _ _ x hx; rw [dropL_len hi] at this; exact this
  have h2 := chain_le h (c := (lgO (dropL L i) (dropL L i).length).map (shiftN i)) (by
    rw [List.pairwise_map]
    refine List.Pairwise.imp_of_mem ?_ h1
    intro a b ha hb hab
    exact ⟨shift_lt hab.1, (drop_less h hi (hlt a ha) (hlt b hb)).1 hab.2⟩) (fun x hx => by
      obtain ⟨j, hj, rfl⟩ := List.mem_map.1 hx
      exact shift_bd (hlt j hj))
  rw [List.length_map, lgO_full ho] at h2
  exact h2
theorem filter_ne_len (i : Nat) : ∀ c : List Nat, c.Pairwise (fun a b => a < b) → c.length ≤ (c.filter fun x => decide (x ≠ i)).length + 1
  | [], _ => Nat.zero_le _
  | a :: c, h => by
    obtain ⟨h1, h2⟩ := List.pairwise_cons.1 h
    by_cases e : a = i
    · subst e
      rw [List.filter_cons_of_neg (by simp), List.filter_eq_self.2 (fun x hx => decide_eq_true (by have := h1 x hx; omega))]
      simp
    · have := filter_ne_len i c h2
      rw [List.filter_cons_of_pos (by simpa using e)]
      simp only [List.length_cons]
      omega
theorem drop_cnt_ge {L : List Int} (h : ordB L = true) {i : Nat} (hi : i < L.length) : cntN L ≤ cntN (dropL L i) + 1 := by
  have ho := drop_ord h hi
  obtain ⟨h1, _⟩ := lgO_chain (L := L) L.length (Nat.le_refl _)
  have hf := filter_ne_len i (lgO L L.length) (h1.imp fun hab => hab.1)
  have h3 := h1.filter (fun x => decide (x ≠ i))
  have hm : ∀ x ∈ (lgO L L.length).filter (fun x => decide (x ≠ i)), x < L.length ∧ x ≠ i := fun x hx => by
    obtain ⟨h4, h5⟩ := List.mem_filter.1 hx
    exact ⟨lgO_lt L _ x h4, of_decide_eq_true h5⟩
  obtain ⟨g, hg⟩ : ∃ g : Nat → Nat, g = fun x => if x < i then x else x - 1 := ⟨_, rfl⟩
  have hgs : ∀ x, x < L.length → x ≠ i → shiftN i (g x) = x ∧ g x < L.length - 1 := fun x h4 h5 => by
    rw [hg]
    dsimp only
    unfold shiftN
    by_cases c : x < i
    · rw [if_pos c, if_pos c]
      omega
    · rw [if_neg c, if_neg (by omega)]
      omega
  have h2 := chain_le ho (c := ((lgO L L.length).filter fun x => decide (x ≠ i)).map g) (by
    rw [List.pairwise_map]
    refine List.Pairwise.imp_of_mem ?_ h3
    intro a b ha hb hab
    obtain ⟨a1, a2⟩ := hm a ha
    obtain ⟨b1, b2⟩ := hm b hb
    obtain ⟨a3, a4⟩ := hgs a a1 a2
    obtain ⟨b3, b4⟩ := hgs b b1 b2
    refine ⟨?_, (drop_less h hi a4 b4).2 (by rw [a3, b3]; exact hab.2)⟩
    have := hab.1
    rw [hg]
    dsimp only
    split <;> split <;> omega) (fun x hx => by
      obtain ⟨j, hj, rfl⟩ := List.mem_map.1 hx
      rw [dropL_len hi]
      exact (hgs j (hm j hj).1 (hm j hj).2).2)
  rw [List.length_map] at h2
  rw [lgO_full h] at hf
  omega

end Go.Proofs.Ytodboccadccpfaa
