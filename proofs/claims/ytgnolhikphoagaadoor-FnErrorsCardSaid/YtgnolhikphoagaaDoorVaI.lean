/-
  SignalValid of the program.
-/
import Derived.Test.YtgnolhikphoagaaDoorSgV
import Derived.Test.YtgnolhikphoagaaDoorStr
import Derived.Test.YtgnolhikphoagaaDoorTabU
namespace Go.Proofs.YtgnolhikphoagaaDoor
open Go.RowKit

theorem trim_sig {s : ByteArray} (h : s.size ≤ 80) : sigB (byL s) = decide (Lib.trimS (byL s) [45, 43, 48] = []) := by
  unfold sigB
  rw [byL_len, decide_eq_true h, Bool.true_and, Bool.eq_iff_iff, decide_eq_true_eq, trim_nil]

set_option maxHeartbeats 1000000 in
theorem implSignalValid_b (s : ByteArray) (w : World) (hs : s.size ≤ 1048576) : Calls Tryd.prog 18 #[.string s] w (RetB (.bool (sigB (byL s))) w) := by
  by_cases h80 : s.size ≤ 80
  · have g1 : decide ((s.size : Int) ≤ 80) = true := by simp; omega
    have HC := Lib.hid (fun w => trim_c s ⟨#[45, 43, 48]⟩ w hs (by decide) (ascii_of_all (by decide)))
    have hv := trim_sig h80
    have Hv := Lib.hid hv
    clear hv
    cases hd : decide (Lib.trimS (byL s) [45, 43, 48] = [])
    · have hne : Lib.trimS (byL s) [45, 43, 48] ≠ [] := of_decide_eq_false hd
      have he := str_full hne
      have HC2 := Lib.hid (fun w => (show Calls Tryd.prog 50 #[.string s, .string ⟨#[45, 43, 48]⟩] w fun e w' => e = .returned (.string (str (Lib.trimS (byL s) [45, 43, 48]))) ∧ Below w.heap.size w w' from HC.out w))
      obtain ⟨d, hdd⟩ : ∃ d, str (Lib.trimS (byL s) [45, 43, 48]) = d := ⟨_, rfl⟩
      rw [hdd] at he HC2
      have Hd := Lib.hid hd
      clear hd hne hdd HC
      go_enter Tryd.func18, Tryd.ntmps18
      go_wp2_with fail
      refine (HC2.out _).mono ?_
      rintro e w' ⟨rfl, hb⟩
      have Hb := Lib.hid hb
      clear hb
      go_wp2
      go_ret
      exact ⟨by rw [Hv.out, Hd.out]; rfl, Hb.out⟩
    · have hne : Lib.trimS (byL s) [45, 43, 48] = [] := of_decide_eq_true hd
      have he := str_empty
      have HC2 := Lib.hid (fun w => (show Calls Tryd.prog 50 #[.string s, .string ⟨#[45, 43, 48]⟩] w fun e w' => e = .returned (.string (str (Lib.trimS (byL s) [45, 43, 48]))) ∧ Below w.heap.size w w' from HC.out w))
      rw [hne] at HC2
      have Hd := Lib.hid hd
      clear hd hne HC
      obtain ⟨d, hdd⟩ : ∃ d, str [] = d := ⟨_, rfl⟩
      rw [hdd] at he HC2
      clear hdd
      go_enter Tryd.func18, Tryd.ntmps18
      go_wp2_with fail
      refine (HC2.out _).mono ?_
      rintro e w' ⟨rfl, hb⟩
      have Hb := Lib.hid hb
      clear hb
      go_wp2
      go_ret
      exact ⟨by rw [Hv.out, Hd.out]; rfl, Hb.out⟩
  · have g1 : decide ((s.size : Int) ≤ 80) = false := by simp; omega
    have hv : sigB (byL s) = false := by
      unfold sigB
      rw [byL_len, decide_eq_false h80, Bool.false_and]
    have Hv := Lib.hid hv
    clear hv
    go_enter Tryd.func18, Tryd.ntmps18
    go_wp2
    go_ret
    exact ⟨by rw [Hv.out]; rfl, Below.refl _ _⟩

end Go.Proofs.YtgnolhikphoagaaDoor
