/-
  What the law FnCableText calls besides: its draw, countOf, parts of a slice of sections.
-/
import Derived.Test.YtgidemhencbgdaaDoorCDraw
import Derived.Test.YtgidemhencbgdaaDoorTextS
namespace Go.Proofs.YtgidemhencbgdaaDoor
open Go.RowKit

/-! ### parts of a slice of sections -/
theorem secAt_take {ss : List Sec} {k j : Nat} (h : j < k) : secAt (ss.take k) j = secAt ss j := by simp [secAt, h]
theorem secAt_drop (ss : List Sec) (k j : Nat) : secAt (ss.drop k) j = secAt ss (k + j) := by simp [secAt]
theorem ArgC.take {w : World} {A : Option Addr} {c : Nat} {ss : List Sec} (h : ArgC w A c ss) (k : Nat) : ArgC w A c (ss.take k) := by
  have hl : (ss.take k).length ≤ ss.length := List.length_take_le' k ss
  refine ⟨Nat.le_trans hl h.1, Nat.le_trans hl h.2.1, h.2.2.1, fun hp => ?_⟩
  obtain ⟨b, off, e, h1, h2, hc⟩ := h.2.2.2 (by omega)
  refine ⟨b, off, e, h1, h2, fun j hj => ?_⟩
  rw [secAt_take (by rw [List.length_take] at hj; omega)]
  exact hc j (by omega)
theorem ArgC.drop {w : World} {b off c : Nat} {ss : List Sec} (h : ArgC w (some ⟨b, off, none⟩) c ss) (k : Nat) (hk : k ≤ ss.length) : ArgC w (some ⟨b, off + k * 3, none⟩) (c - k) (ss.drop k) := by
  have hl : (ss.drop k).length = ss.length - k := List.length_drop
  have h1 := h.1
  have h2 := h.2.1
  have h3 := h.2.2.1
  refine ⟨by omega, by omega, by omega, fun hp => ?_⟩
  obtain ⟨b', off', e, h1, h2, hc⟩ := h.2.2.2 (by omega)
  injection e with e
  injection e with e1 e2 _
  subst e1
  subst e2
  refine ⟨b, off + k * 3, rfl, h1, h2, fun j hj => ?_⟩
  rw [secAt_drop, show off + k * 3 + j * 3 = off + (k + j) * 3 by omega]
  exact hc (k + j) (by omega)

/-! ### countOf -/
theorem count_take (l : List UInt8) (c : UInt8) {k : Nat} (h : k < l.length) : ((l.take (k + 1)).count c : Int) = (l.take k).count c + if l[k] = c then 1 else 0 := by
  rw [List.take_succ_eq_append_getElem h, List.count_append, List.count_singleton]
  by_cases e : l[k] = c <;> simp [e]
theorem countOf_c (s : ByteArray) (c : UInt8) (w : World) (hs : s.size ≤ 1048576) :
    Calls Tryd.prog 8 #[.string s, .int .u8 c.toNat] w fun e w' => e = .returned (.int .i64 (s.data.toList.count c : Nat)) ∧ w = w' := by
  go_enter Tryd.func8, Tryd.ntmps8
  go_wp2
  go_loop [5, 6] (fun n i => ∃ k : Nat, k ≤ s.size ∧ i = .int .i64 k ∧ n = .int .i64 ((s.data.toList.take k).count c : Nat)) (fun _ i => s.size - (intOf i).toNat)
  case atStart => exact ⟨0, Nat.zero_le _, rfl, rfl⟩
  case round =>
    obtain ⟨k, hk, rfl, rfl⟩ := hrel
    have hll : s.data.toList.length = s.size := by rw [Array.length_toList]; rfl
    have hc1 : (s.data.toList.take k).count c ≤ k := Nat.le_trans List.count_le_length (List.length_take_le _ _)
    by_cases hlt : k < s.size
    · have hkl : k < s.data.toList.length := by omega
      have hsk : s[k]'hlt = s.data.toList[k] := rfl
      have ht := count_take s.data.toList c (k := k) hkl
      obtain ⟨m, hm⟩ : ∃ m, (s.data.toList.take k).count c = m := ⟨_, rfl⟩
      rw [hm] at hc1 ht ⊢
      have Hm := Lib.hid hm
      clear hm
      by_cases e : s.data.toList[k] = c
      · rw [if_pos e] at ht
        have hb : (((s[k]'hlt).toNat : Int) == (c.toNat : Int)) = true := by rw [beq_iff_eq, hsk, e]
        have Ht := Lib.hid ht
        clear ht e hsk hkl hll
        go_wp2
        go_round
        case rel => exact ⟨k + 1, by omega, by go_num, by rw [Ht.out]⟩
        case measure => simp [intOf]; omega
      · rw [if_neg e] at ht
        have hb : (((s[k]'hlt).toNat : Int) == (c.toNat : Int)) = false := by
          rw [beq_eq_false_iff_ne]
          intro h
          apply e
          apply UInt8.toNat_inj.1
          rw [← hsk]
          omega
        have Ht := Lib.hid ht
        clear ht e hsk hkl hll
        go_wp2
        go_round
        case rel => exact ⟨k + 1, by omega, by go_num, by rw [Ht.out, Int.add_zero]⟩
        case measure => simp [intOf]; omega
    · obtain rfl : k = s.size := by omega
      have e : s.data.toList.take s.size = s.data.toList := List.take_of_length_le (by omega)
      rw [e]
      clear e hll hc1
      go_wp2
      go_ret
      exact ⟨rfl, rfl⟩

/-! ### the draw -/
def RetText (w : World) (e : Ending) (w' : World) : Prop :=
  ∃ B d zs, e = .returned (.slice B (zs : List Sec).length d) ∧ zs.length ≤ 20 ∧ ArgC w' B d zs ∧ Below w.heap.size w w'
theorem DrawCableText_c (A : Option Addr) (n c : Nat) (w : World) (hn : n ≤ 9223372036854775807) (hnc : n ≤ c) (hb : Bytes w.heap.size w A n) :
    Calls Tryd.prog 5 #[.slice A n c] w (RetText w) := by
  have Hb := Lib.hid hb
  clear hb
  go_enter Tryd.func5, Tryd.ntmps5
  go_wp2_with fail
  refine (l6Open_c A n c _ hn hnc Hb.out).mono ?_
  rintro e w0 ⟨n1, c1, rfl, hr0, hb0, hs0⟩
  have H0 := Lib.hid hr0
  have HB0 := Lib.hid hb0
  obtain ⟨R, hR⟩ : ∃ R, w.heap.size = R := ⟨_, rfl⟩
  rw [hR] at H0 hs0
  have hRR : w.heap.size ≤ R := by omega
  have HR := Lib.hid hR
  clear hr0 hb0
  go_wp2_with fail
  clear hR
  refine (l91Cable_c R A n1 c1 0 5 _ H0.out hs0 (by omega) (by omega) (by omega)).mono ?_
  rintro e w1 ⟨B, d, zs, q, rfl, hzl, ha1, _, _, _, hg1⟩
  have Ha1 := Lib.hid ha1
  have Hb1 := Lib.hid (show Below w.heap.size w w1 from HB0.out.grown hg1 HB0.out.size (fun r e => by cases e; exact hRR))
  clear ha1 hg1
  go_wp2
  go_ret
  exact ⟨B, d, zs, rfl, hzl, Ha1.out, Hb1.out⟩

end Go.Proofs.YtgidemhencbgdaaDoor
