/-
  Orders without their last coils are stowed as before: the mathematics of P52. Nothing here speaks of the program.
-/
import Derived.Test.YtodboccadccpfaaTkD
import Derived.Test.YtodboccadccpfaaStwM
namespace Go.Proofs.Ytodboccadccpfaa
open Go.RowKit

theorem find_congr {α : Type} {g h : α → Bool} : ∀ P : List α, (∀ q ∈ P, g q = h q) → P.findIdx g = P.findIdx h
  | [], _ => rfl
  | q :: P, e => by
    rw [List.findIdx_cons, List.findIdx_cons, e q (by simp), find_congr P (fun x hx => e x (by simp [hx]))]
theorem find_map {α β : Type} (f : α → β) (g : β → Bool) : ∀ P : List α, (P.map f).findIdx g = P.findIdx fun q => g (f q)
  | [] => rfl
  | q :: P => by rw [List.map_cons, List.findIdx_cons, List.findIdx_cons, find_map f g P]
theorem top_map (f : Int → Int) {q : List Int} (h : q ≠ []) : topI (q.map f) = f (topI q) := by
  unfold topI
  rw [List.getLast?_map, List.getLast?_eq_some_getLast h]
  rfl
theorem pileAt_map (f : Int → Int) (P : List (List Int)) (t : Nat) : pileAt (P.map (List.map f)) t = (pileAt P t).map f := by
  unfold pileAt
  rw [List.getElem?_map]
  cases P[t]? <;> rfl
theorem putP_map (f : Int → Int) (P : List (List Int)) (x : Int) (t : Nat) : putP (P.map (List.map f)) (f x) t = (putP P x t).map (List.map f) := by
  unfold putP
  rw [List.length_map, pileAt_map]
  split
  · rw [List.map_set, List.map_append]
    rfl
  · rw [List.map_append]
    rfl
/-- the last coil left out: each other coil lies where it lay -/
theorem last_stP {L : List Int} (h : ordB L = true) (hn : 0 < L.length) : ∀ k, k ≤ L.length - 1 → stP (dropL L (L.length - 1)) k = (stP L k).map (List.map (lessN (L[L.length - 1]?.getD 0))) ∧ ∀ j, j < k → stN (dropL L (L.length - 1)) j = stN L j
  | 0, _ => ⟨rfl, fun j hj => absurd hj (by omega)⟩
  | k + 1, hk => by
    obtain ⟨h1, h2⟩ := last_stP h hn k (by omega)
    have hx : (dropL L (L.length - 1))[k]?.getD 0 = lessN (L[L.length - 1]?.getD 0) (L[k]?.getD 0) := by
      rw [dropL_at (by omega) (by omega)]
      unfold shiftN
      rw [if_pos (by omega)]
    have hst : stN (dropL L (L.length - 1)) k = stN L k := by
      unfold stN pickP
      rw [h1, hx, find_map]
      refine find_congr _ fun q hq => ?_
      obtain ⟨u, hu, rfl⟩ := List.mem_iff_getElem.1 hq
      have hpa : pileAt (stP L k) u = (stP L k)[u] := by unfold pileAt; rw [List.getElem?_eq_getElem hu]; rfl
      have hne := pile_ne L k u hu
      rw [← hpa, top_map _ hne]
      refine decide_eq_decide.2 (less_lt ?_ ?_)
      · intro e
        have := ord_inj h (i := k) (j := L.length - 1) (by omega) (by omega) e
        omega
      · intro e
        have h3 := pile_mem L k (by omega) u _ (topI_mem hne)
        rw [e] at h3
        obtain ⟨j, hj, h4⟩ := (take_mem (T := L) (k := k) (by omega) _).1 h3
        have := ord_inj h (i := j) (j := L.length - 1) (by omega) (by omega) h4
        omega
    refine ⟨?_, fun j hj => ?_⟩
    · rw [stP_succ, stP_succ, hst, hx, h1, putP_map]
    · rcases Nat.lt_or_ge j k with h3 | h3
      · exact h2 j h3
      · obtain rfl : j = k := by omega
        exact hst
/-- without the last j coils -/
def lessTo (L : List Int) : Nat → List Int
  | 0 => L
  | j + 1 => dropL (lessTo L j) ((lessTo L j).length - 1)
theorem lessTo_all {L : List Int} (h : ordB L = true) : ∀ j, j ≤ L.length → ordB (lessTo L j) = true ∧ (lessTo L j).length = L.length - j ∧ cntN (lessTo L j) ≤ cntN L ∧ ∀ k, k < L.length - j → stN (lessTo L j) k = stN L k
  | 0, _ => ⟨h, rfl, Nat.le_refl _, fun _ _ => rfl⟩
  | j + 1, hj => by
    obtain ⟨h1, h2, h3, h4⟩ := lessTo_all h j (by omega)
    have hi : (lessTo L j).length - 1 < (lessTo L j).length := by omega
    refine ⟨drop_ord h1 hi, ?_, ?_, fun k hk => ?_⟩
    · rw [lessTo, dropL_len hi, h2]
      omega
    · exact Nat.le_trans (drop_cnt_le h1 hi) h3
    · rw [lessTo, (last_stP h1 (by omega) _ (Nat.le_refl _)).2 k (by omega)]
      exact h4 k (by omega)
theorem lessTo_stT {L : List Int} (h : ordB L = true) {j : Nat} (hj : j ≤ L.length) : stT (lessTo L j) (lessTo L j).length = stT L (L.length - j) := by
  obtain ⟨_, h2, _, h4⟩ := lessTo_all h j hj
  rw [h2]
  unfold stT
  refine List.map_congr_left fun k hk => ?_
  rw [h4 k (List.mem_range.1 hk)]
theorem stT_take (L : List Int) {k n : Nat} (hk : k ≤ n) : (stT L n).take k = stT L k := by
  unfold stT
  rw [← List.map_take, List.take_range, Nat.min_eq_left hk]
theorem stT_at (L : List Int) {j n : Nat} (hj : j < n) : (stT L n)[j]?.getD 0 = stN L j := by
  unfold stT
  rw [List.getElem?_map, List.getElem?_range hj]
  rfl
/-- THE STOWING IS A STOWAGE -/
theorem make_stow {L : List Int} (h : ordB L = true) (h5 : cntN L ≤ 5) : stowB L (stT L L.length) = true := by
  refine stowB_true.2 ⟨baseB_true.2 ⟨h, stT_len L _, fun j hj => ?_⟩, fun i hi k hk e => ?_⟩
  · rw [stT_at L hj]
    have := st_max h hj
    omega
  · rw [stT_at L hi, stT_at L (by omega)] at e
    rcases Int.lt_trichotomy (L[i]?.getD 0) (L[k]?.getD 0) with h1 | h1 | h1
    · exact h1
    · have := ord_inj h hi (by omega) h1
      omega
    · have := st_lt h hk hi h1
      omega
theorem used_make {L : List Int} (h : ordB L = true) : ∀ m, usedK (stT L L.length) L.length m ≤ cntN L
  | 0 => Nat.zero_le _
  | m + 1 => by
    have h1 := used_make h m
    have h2 := usedK_le (stT L L.length) L.length m
    rw [usedK]
    split
    · rename_i h3
      obtain ⟨j, hj, e⟩ := (cnt_pos _ _ _).1 h3
      rw [stT_at L hj] at e
      have := st_max h hj
      omega
    · omega
/-- IN AS MANY TANKS AS ARE NEEDED -/
theorem make_used {L : List Int} (h : ordB L = true) (h5 : cntN L ≤ 5) : tnkI L (stT L L.length) = cntN L := by
  have h1 := used_least (make_stow h h5)
  have h2 := used_make h 5
  rw [stT_len] at h1
  unfold tnkI
  rw [make_stow h h5, if_pos rfl, stT_len]
  omega

end Go.Proofs.Ytodboccadccpfaa
