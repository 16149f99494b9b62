/-
  codesOf of the program: how many branches so many pulses lead to.
-/
import Derived.Test.YthhckijoilphiaaDoorTre
import Derived.Deep.QuietTactic
import Derived.BigQuiet
namespace Go.Proofs.YthhckijoilphiaaDoor
open Go.RowKit

theorem cdo_no {f n k : Nat} (h : 28 ≤ n) : cdo f n k = 0 := by cases f <;> simp [cdo, h]
theorem cdo_zero {f n : Nat} (h : n < 28) : cdo (f + 1) n 0 = 1 := by
  unfold cdo; rw [if_neg (by omega)]
theorem cdo_succ {f n k : Nat} (h : n < 28) : cdo (f + 1) n (k + 1) = cdo f (2 * n) k + cdo f (2 * n + 1) k := by
  conv => lhs; unfold cdo
  rw [if_neg (by omega)]
theorem below_drewN' {w : World} (q : Nat) : Below w.heap.size w (w.drewN q) := below_drewN (Below.refl _ _) q

set_option maxHeartbeats 2000000 in
theorem codesOf_c (w : World) (f n : Nat) (A : Option Addr) (h : Tree w f n A) : f ≤ 20 → ∀ k : Nat, k ≤ 100 → ∀ q,
    Calls Tryd.prog 63 #[.pointer A, .int .i64 k] (w.drewN q) (RetQ (.int .i64 (cdo f n k : Nat)) (w.drewN q)) := by
  induction h with
  | leaf f n h =>
    intro _ k _ q
    have HR := Lib.hid (cdo_no (f := f) (k := k) h)
    go_enter Tryd.func63, Tryd.ntmps63
    go_wp2
    go_ret
    exact ⟨by rw [HR.out]; rfl, 0, rfl⟩
  | node f n b m p h hb c0 c1 c2 _ _ im ip =>
    intro hf k hk q
    have IM := Lib.hid (im (by omega))
    have IP := Lib.hid (ip (by omega))
    clear im ip
    cases k with
    | zero =>
      have HR := Lib.hid (cdo_zero (f := f) h)
      have k1 : (w.drewN q).cell? ⟨b, 1, none⟩ = some (.pointer m) := c1
      go_enter Tryd.func63, Tryd.ntmps63
      go_wp2
      go_ret
      exact ⟨by rw [HR.out]; rfl, 0, rfl⟩
    | succ k =>
      have HR := Lib.hid (cdo_succ (f := f) (k := k) h)
      have b2 := cdo_le f (2 * n) k
      have b3 := cdo_le f (2 * n + 1) k
      have b4 : 2 ^ f ≤ 2 ^ 20 := Nat.pow_le_pow_right (by omega) (by omega)
      obtain ⟨x2, hx2⟩ : ∃ x, cdo f (2 * n) k = x := ⟨_, rfl⟩
      obtain ⟨x3, hx3⟩ : ∃ x, cdo f (2 * n + 1) k = x := ⟨_, rfl⟩
      have c2' := fun q => IM.out k (by omega) q
      have c3' := fun q => IP.out k (by omega) q
      rw [hx2] at b2
      rw [hx3] at b3
      simp only [hx2] at c2'
      simp only [hx3] at c3'
      have C2 := Lib.hid c2'
      have C3 := Lib.hid c3'
      have X2 := Lib.hid hx2
      have X3 := Lib.hid hx3
      have e1 : ((k + 1 : Nat) : Int) = (k : Int) + 1 := by omega
      rw [e1]
      clear c2' c3' hx2 hx3 e1 IM IP
      have g0 : (((k : Int) + 1) == 0) = false := by simp; omega
      have q1 : IntKind.i64.wrap ((k : Int) + 1 - 1) = (k : Int) := by rw [show (k : Int) + 1 - 1 = (k : Int) by omega]; exact IntWalk.i64_in _ (by omega)
      have q2 : IntKind.i64.wrap ((x2 : Int) + (x3 : Int)) = (x2 : Int) + (x3 : Int) := IntWalk.i64_in _ (by omega)
      obtain ⟨W, hW⟩ : ∃ W, w.drewN q = W := ⟨_, rfl⟩
      have d0 : W.cell? ⟨b, 0, none⟩ = some (.string (str (letL n))) := by rw [← hW]; exact c0
      have d1 : W.cell? ⟨b, 1, none⟩ = some (.pointer m) := by rw [← hW]; exact c1
      have d2 : W.cell? ⟨b, 2, none⟩ = some (.pointer p) := by rw [← hW]; exact c2
      have C2' := Lib.hid (show ∀ j, Calls Tryd.prog 63 #[.pointer m, .int .i64 k] (W.drewN j) (fun e w' => e = .returned (.int .i64 (x2 : Nat)) ∧ ∃ m, w' = (W.drewN j).drewN m) by intro j; rw [← hW, World.drewN_drewN]; exact C2.out _)
      have C3' := Lib.hid (show ∀ j, Calls Tryd.prog 63 #[.pointer p, .int .i64 k] (W.drewN j) (fun e w' => e = .returned (.int .i64 (x3 : Nat)) ∧ ∃ m, w' = (W.drewN j).drewN m) by intro j; rw [← hW, World.drewN_drewN]; exact C3.out _)
      rw [hW]
      clear hW c0 c1 c2 C2 C3
      go_enter Tryd.func63, Tryd.ntmps63
      go_wp2
      go_quiet ((first | (go_at_call 63; (with_reducible exact Calls.quiet_of (C2'.out _))) | (go_at_call 63; (with_reducible exact Calls.quiet_of (C3'.out _)))))
      all_goals
        go_wp2
        go_ret
        exact ⟨by rw [HR.out, X2.out, X3.out]; rfl, _, rfl⟩

end Go.Proofs.YthhckijoilphiaaDoor
