/-
  letterOf of the program: the letter to which pulses lead.
-/
import Derived.Test.YtgnolhikphoagaaDoorTre
import Derived.Test.YtgnolhikphoagaaDoorStr
import Derived.Deep.QuietTactic
import Derived.BigQuiet
namespace Go.Proofs.YtgnolhikphoagaaDoor
open Go.RowKit

theorem ltr_no {f n : Nat} {l : List UInt8} (h : 28 ≤ n) : ltr f n l = [] := by cases f <;> simp [ltr, h]
theorem ltr_here {f n : Nat} (h : n < 28) : ltr (f + 1) n [] = letL n := by
  unfold ltr; rw [if_neg (by omega)]
theorem ltr_minus {f n : Nat} {l : List UInt8} {c : UInt8} (h : n < 28) (e : c = 45) : ltr (f + 1) n (c :: l) = ltr f (2 * n) l := by
  conv => lhs; unfold ltr
  rw [if_neg (by omega)]
  exact if_pos e
theorem ltr_plus {f n : Nat} {l : List UInt8} {c : UInt8} (h : n < 28) (e : c ≠ 45) : ltr (f + 1) n (c :: l) = ltr f (2 * n + 1) l := by
  conv => lhs; unfold ltr
  rw [if_neg (by omega)]
  exact if_neg e
/-- a text that is not empty: its first byte and the rest -/
theorem head_rest {s : ByteArray} (h : 0 < s.size) : byL s = s[0] :: byL (s.extract 1 s.size) := by
  rw [byL_extract, List.take_of_length_le (by rw [byL_len]; exact Nat.le_refl _)]
  have h1 := byL_at s 0 h
  cases e : byL s with
  | nil => rw [e] at h1; cases h1
  | cons c l =>
    rw [e] at h1
    cases h1
    rfl

set_option maxHeartbeats 2000000 in
theorem letterOf_c (w : World) (f n : Nat) (A : Option Addr) (h : Tree w f n A) : ∀ (s : ByteArray), s.size ≤ 1048576 → ∀ q,
    Calls Tryd.prog 61 #[.pointer A, .string s] (w.drewN q) (RetQ (.string (str (ltr f n (byL s)))) (w.drewN q)) := by
  induction h with
  | leaf f n h =>
    intro s _ q
    have HR := Lib.hid (ltr_no (f := f) (l := byL s) h)
    go_enter Tryd.func61, Tryd.ntmps61
    go_wp2
    go_ret
    exact ⟨by rw [HR.out]; rfl, 0, rfl⟩
  | node f n b m p h hb c0 c1 c2 _ _ im ip =>
    intro s hs q
    have IM := Lib.hid im
    have IP := Lib.hid ip
    clear im ip
    by_cases h0 : s.size = 0
    · have hs0 : byL s = [] := List.length_eq_zero_iff.1 (by rw [byL_len]; exact h0)
      have hem : s.toList.isEmpty = true := by rw [toList_by, hs0]; rfl
      have HR := Lib.hid (ltr_here (f := f) h)
      have k0 : (w.drewN q).cell? ⟨b, 0, none⟩ = some (.string (str (letL n))) := c0
      have Hs0 := Lib.hid hs0
      obtain ⟨X, hX⟩ : ∃ X, str (letL n) = X := ⟨_, rfl⟩
      rw [hX] at k0
      have HX := Lib.hid hX
      clear h0 hs0 hX c0 c1 c2
      go_enter Tryd.func61, Tryd.ntmps61
      go_wp2
      go_ret
      exact ⟨by rw [Hs0.out, HR.out, HX.out]; rfl, 0, rfl⟩
    · have hpos : 0 < s.size := by omega
      have hem : s.toList.isEmpty = false := by
        rw [toList_by, head_rest hpos]; rfl
      have hr := head_rest hpos
      obtain ⟨r, hrr⟩ : ∃ r, s.extract 1 s.size = r := ⟨_, rfl⟩
      have hrs : r.size ≤ 1048576 := by rw [← hrr, ByteArray.size_extract]; omega
      rw [hrr] at hr
      obtain ⟨c, hc⟩ : ∃ c : UInt8, s[0] = c := ⟨_, rfl⟩
      rw [hc] at hr
      have Hr := Lib.hid hr
      obtain ⟨W, hW⟩ : ∃ W, w.drewN q = W := ⟨_, rfl⟩
      have d1 : W.cell? ⟨b, 1, none⟩ = some (.pointer m) := by rw [← hW]; exact c1
      have d2 : W.cell? ⟨b, 2, none⟩ = some (.pointer p) := by rw [← hW]; exact c2
      have g1 : (0 : Int) < (s.size : Int) := by omega
      have g2 : (1 : Int) ≤ (s.size : Int) := by omega
      by_cases e : c = 45
      · have f1 : ((c.toNat : Int) == 45) = true := by rw [e]; rfl
        have hl := ltr_minus (f := f) (l := byL r) h e
        have cm : ∀ j, Calls Tryd.prog 61 #[.pointer m, .string r] (W.drewN j) (fun e w' => e = .returned (.string (str (ltr f (2 * n) (byL r)))) ∧ ∃ m, w' = (W.drewN j).drewN m) := by
          intro j
          rw [← hW, World.drewN_drewN]
          exact IM.out r hrs _
        obtain ⟨X, hX⟩ : ∃ X, str (ltr f (2 * n) (byL r)) = X := ⟨_, rfl⟩
        rw [hX] at cm
        have CM := Lib.hid cm
        have Hl := Lib.hid hl
        have HX := Lib.hid hX
        have HW := Lib.hid hW
        clear cm hl hX e hr hs hrs c0 c1 c2
        rw [hW]
        clear hW
        go_enter Tryd.func61, Tryd.ntmps61
        go_wp2
        go_quiet ((go_at_call 61; (with_reducible exact Calls.quiet_of (CM.out _))))
        go_wp2
        go_ret
        exact ⟨by rw [Hr.out, Hl.out, HX.out]; rfl, _, rfl⟩
      · have f1 : ((c.toNat : Int) == 45) = false := beq_eq_false_iff_ne.2 (fun h => e (UInt8.toNat_inj.1 (by show c.toNat = 45; omega)))
        have hl := ltr_plus (f := f) (l := byL r) h e
        have cm : ∀ j, Calls Tryd.prog 61 #[.pointer p, .string r] (W.drewN j) (fun e w' => e = .returned (.string (str (ltr f (2 * n + 1) (byL r)))) ∧ ∃ m, w' = (W.drewN j).drewN m) := by
          intro j
          rw [← hW, World.drewN_drewN]
          exact IP.out r hrs _
        obtain ⟨X, hX⟩ : ∃ X, str (ltr f (2 * n + 1) (byL r)) = X := ⟨_, rfl⟩
        rw [hX] at cm
        have CM := Lib.hid cm
        have Hl := Lib.hid hl
        have HX := Lib.hid hX
        clear cm hl hX e hr hs hrs c0 c1 c2
        rw [hW]
        clear hW
        go_enter Tryd.func61, Tryd.ntmps61
        go_wp2
        go_quiet ((go_at_call 61; (with_reducible exact Calls.quiet_of (CM.out _))))
        go_wp2
        go_ret
        exact ⟨by rw [Hr.out, Hl.out, HX.out]; rfl, _, rfl⟩

end Go.Proofs.YtgnolhikphoagaaDoor
