/-
  Drawn repairs of the law FnJobsDays: DrawJobsDays; parts of repairs.
-/
import Derived.Test.YtodboccadccpfaaDoorJWork
import Derived.Test.YtodboccadccpfaaDoorPlG
namespace Go.Proofs.YtodboccadccpfaaDoor
open Go.RowKit

set_option maxRecDepth 100000 in
theorem DrawJobsDays_c (A : Option Addr) (n c : Nat) (w : World) (hn : n ≤ 9223372036854775807) (hnc : n ≤ c) (hb : Bytes w.heap.size w A n) :
    Calls Tryd.prog 23 #[.slice A n c] w (fun e w' => ∃ (B : Option Addr) (d : Nat) (J : List Jbs), e = .returned (.slice B J.length d) ∧ J.length ≤ 6 ∧ ArgJ w' B d J ∧ Below w.heap.size w w') := by
  have Hb := Lib.hid hb
  clear hb
  go_enter Tryd.func23, Tryd.ntmps23
  go_wp2_with fail
  refine (l6Open_c A n c _ hn hnc Hb.out).mono ?_
  rintro e w1 ⟨n', c', rfl, hr1, hb1, hlt1⟩
  have Hr1 := Lib.hid hr1
  have Hb1 := Lib.hid hb1
  clear hr1 hb1
  go_wp2_with fail
  refine (l92Jobs_c _ A n' c' 0 6 _ Hr1.out hlt1 (by omega) (by omega)).mono ?_
  rintro e w2 ⟨B, d, J, q, rfl, hJ, hA, _, _, _, hg2⟩
  have Hb2 := Lib.hid (Hb1.out.grown hg2 Hb1.out.size (fun r e => by injection e with e; omega))
  have HA := Lib.hid hA
  clear hg2 hA
  go_wp2
  go_ret
  exact ⟨B, d, J, rfl, hJ, HA.out, Hb2.out⟩

theorem jb_take {J : List Jbs} (h : jbB J = true) (k : Nat) : jbB (J.take k) = true := by
  obtain ⟨h1, h2⟩ := jbB_true.1 h
  exact jbB_true.2 ⟨by rw [List.length_take]; omega, fun s hs => h2 s (List.mem_of_mem_take hs)⟩
theorem jb_drop {J : List Jbs} (h : jbB J = true) (k : Nat) : jbB (J.drop k) = true := by
  obtain ⟨h1, h2⟩ := jbB_true.1 h
  exact jbB_true.2 ⟨by rw [List.length_drop]; omega, fun s hs => h2 s (List.mem_of_mem_drop hs)⟩
theorem days_list (J : List Jbs) : daysJ J = sumI (J.map fun j => j.d) := by
  unfold daysJ
  rw [daysT_sum]
  congr 1
  apply List.ext_getElem
  · simp
  · intro i h1 h2
    have h3 : i < J.length := by simpa using h1
    simp [jbsAt_lt h3]
theorem days_parts {J : List Jbs} (h : jbB J = true) (k : Nat) : daysV (J.take k) + daysV (J.drop k) = daysV J ∧ 0 ≤ daysV (J.take k) ∧ 0 ≤ daysV (J.drop k) ∧ daysV J ≤ 54 ∧ 0 ≤ daysV J := by
  rw [daysV_is (jb_take h k), daysV_is (jb_drop h k), daysV_is h]
  have h1 := daysJ_bd (jb_take h k)
  have h2 := daysJ_bd (jb_drop h k)
  have h3 := daysJ_bd h
  refine ⟨?_, h1.1, h2.1, h3.2, h3.1⟩
  rw [days_list, days_list, days_list, ← sumI_append, ← List.map_append, List.take_append_drop]
/-- so many open days -/
theorem fair_time {J : List Jbs} (h : jbB J = true) {n : Nat} (hn : daysV J = (n : Int)) : timeB (List.replicate n (111 : UInt8)) J = decide ((n : Int) ≤ 30) := by
  have hf : (List.replicate n (111 : UInt8)).all isOX = true := by
    rw [List.all_eq_true]
    intro b hb
    rw [(List.mem_replicate.1 hb).2]
    decide
  have ho : opT (List.replicate n (111 : UInt8)) (List.replicate n (111 : UInt8)).length = n := by
    unfold opT
    rw [List.take_length, List.filter_eq_self.2 (fun b hb => by rw [(List.mem_replicate.1 hb).2]; decide), List.length_replicate]
  unfold timeB fcB
  rw [hf, h, ho, List.length_replicate, ← daysV_is h, hn]
  by_cases h3 : n ≤ 30
  · simp [h3]
    omega
  · simp [h3]
    omega
theorem ArgJ.takeK {w : World} {A : Option Addr} {c : Nat} {zs : List Jbs} (h : ArgJ w A c zs) (k : Nat) : ArgJ w A c (zs.take k) := by
  have h1 : (zs.take k).length ≤ zs.length := by rw [List.length_take]; omega
  refine ⟨by have := h.1; omega, by have := h.2.1; omega, h.2.2.1, fun hn => ?_⟩
  obtain ⟨b, off, e, l1, l2, l3⟩ := h.rd (by omega)
  refine ⟨b, off, e, l1, l2, fun j hj => ?_⟩
  have := l3 j (by omega)
  rw [List.length_take] at hj
  unfold jbsAt at this ⊢
  rw [List.getElem?_take_of_lt (by omega)]
  exact this
theorem ArgJ.dropK {w : World} {b off c : Nat} {zs : List Jbs} (h : ArgJ w (some ⟨b, off, none⟩) c zs) (k : Nat) : ArgJ w (some ⟨b, off + (if c = k then 0 else k * 2), none⟩) (c - k) (zs.drop k) := by
  have h1 : (zs.drop k).length = zs.length - k := by simp
  have h2 := h.2.1
  by_cases e : c = k
  · rw [if_pos e, List.drop_eq_nil_of_le (by omega)]
    exact ⟨by simp, by simp, by have := h.2.2.1; omega, fun hn => by simp at hn⟩
  · rw [if_neg e]
    refine ⟨by have := h.1; omega, by omega, by have := h.2.2.1; omega, fun hn => ?_⟩
    obtain ⟨b', off', e, l1, l2, l3⟩ := h.rd (by omega)
    injection e with e
    injection e with e1 e2 _
    subst e1; subst e2
    refine ⟨b, off + k * 2, rfl, l1, l2, fun j hj => ?_⟩
    have := l3 (k + j) (by omega)
    unfold jbsAt at this ⊢
    rw [List.getElem?_drop]
    rw [Nat.add_mul, ← Nat.add_assoc] at this
    exact this
theorem ArgJ.dropA {w : World} {a : Addr} {c : Nat} {zs : List Jbs} (h : ArgJ w (some a) c zs) (k : Nat) : ArgJ w (if c = k then some a else some (a.add (k * 2))) (c - k) (zs.drop k) := by
  have h2 := h.2.2.1
  rcases Nat.eq_zero_or_pos zs.length with h0 | h0
  · have e : zs.drop k = [] := List.drop_eq_nil_of_le (by omega)
    rw [e]
    exact ⟨by simp, by simp, by omega, fun hn => by simp at hn⟩
  · obtain ⟨b, off, e, _⟩ := h.rd h0
    injection e with e
    subst e
    have := h.dropK k
    by_cases hc : c = k
    · rw [if_pos hc] at this ⊢
      exact this
    · rw [if_neg hc] at this ⊢
      rw [show (⟨b, off, none⟩ : Addr).add (k * 2) = ⟨b, off + k * 2, none⟩ by unfold Addr.add; split <;> simp_all]
      exact this
theorem ArgJ.dropN {w : World} {c : Nat} {zs : List Jbs} (h : ArgJ w none c zs) (k : Nat) : ArgJ w none (c - k) (zs.drop k) := by
  have h2 := h.2.2.1
  rcases Nat.eq_zero_or_pos zs.length with h0 | h0
  · have e : zs.drop k = [] := List.drop_eq_nil_of_le (by omega)
    rw [e]
    exact ⟨by simp, by simp, by omega, fun hn => by simp at hn⟩
  · obtain ⟨b, off, e, _⟩ := h.rd h0
    cases e
end Go.Proofs.YtodboccadccpfaaDoor
