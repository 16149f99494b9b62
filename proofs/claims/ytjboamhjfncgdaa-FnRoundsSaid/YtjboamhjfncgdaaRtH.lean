/-
  LiftFirst and LiftRounds of the program.
-/
import Derived.Test.YtjboamhjfncgdaaRtG
namespace Go.Proofs.Ytjboamhjfncgdaa
open Go.RowKit

theorem flat_one (f : Nat → Nat) : ∀ l : List Nat, ((l.map fun j => [f j]).map ints).flatten = ints (l.map f)
  | [] => rfl
  | j :: l => by
    have ih := flat_one f l
    simp only [List.map_cons, List.flatten_cons]
    rw [ih]; rfl
theorem first_flat (R : List Rot) : ((rndF R 1 R.length []).map ints).flatten = ordF R R.length := by
  have h := rndF_one R R.length 0 (by omega)
  rw [show ordF R 0 = [] from rfl] at h
  rw [h, flat_one, ordF_flat, List.range_eq_range']

set_option maxRecDepth 100000 in
set_option maxHeartbeats 4000000 in
theorem implLiftFirst_b (A : Option Addr) (c : Nat) (ss : List Rot) (w : World) (ha : ArgK w A c ss) :
    Calls Try.prog 27 #[.slice A ss.length c] w (RetS 3 (fun v => .tuple #[v, .bool (chartB ss)]) (firstV ss) w) := by
  have HA := Lib.hid ha
  clear ha
  go_enter Try.func27, Try.ntmps27
  go_wp2_with fail
  refine (implChartValid_b _ _ _ _ HA.out).mono ?_
  rintro e w1 ⟨rfl, hb⟩
  have Hb1 := Lib.hid hb
  clear hb
  cases e1 : chartB ss
  · have Hv := Lib.hid (And.intro e1 (firstV_no e1))
    clear e1
    go_wp2
    go_ret2
    rw [Hv.out.1, Hv.out.2]
    exact RetS.nil (f := fun v => .tuple #[v, .bool false]) Hb1.out
  have h8 := chart_len e1
  have Hv := Lib.hid (And.intro e1 (firstV_yes e1))
  have HF := Lib.hid (fun w ha => routesFrom_c A c ss h8 ss.length 0 (by omega) w ha)
  rw [show ((0 : Nat) : Int) = 0 from rfl, ← leftN_nil] at HF
  unfold restV at HF
  have HL := Lib.hid (fun w => liftAll_c ss 1 (by omega) (by omega) e1 ss.length [] (leftN_len _ _) (by omega) w)
  rw [show ((1 : Nat) : Int) = 1 from rfl] at HL
  have hfl := first_flat ss
  obtain ⟨X, hX⟩ : ∃ X, (rndF ss 1 ss.length []).map ints = X := ⟨_, rfl⟩
  have hXl : X.length ≤ 8 := by rw [← hX, List.length_map]; exact Nat.le_trans (rndF_len ss 1 ss.length []) h8
  rw [hX] at HL hfl
  have hfn : X.flatten.length ≤ 8 := by rw [hfl, ordF_len]; exact h8
  have Hfl := Lib.hid hfl
  clear e1 hX hfl
  go_wp2_with fail
  refine (HF.out _ (HA.out.go Hb1.out)).mono ?_
  rintro e w2 ⟨rfl, hb⟩
  have Hb2 := Lib.hid (below_step Hb1.out hb)
  clear hb HF
  go_wp2_with fail
  refine (HL.out _).mono ?_
  rintro e w3 ⟨A3, c3, rfl, ra3, hb3⟩
  have Hb3 := Lib.hid (below_step Hb2.out hb3)
  have HC := Lib.hid (concatL_c A3 c3 X w3 ra3 (by omega) (by omega))
  clear ra3 hb3 HL
  go_wp2_with fail
  refine HC.out.mono ?_
  rintro e w4 ⟨A4, c4, rfl, ra4, ro4, hb4⟩
  dsimp only [id]
  rw [Hfl.out] at ra4 ro4 ⊢
  have Hb4 := Lib.hid (below_step Hb3.out hb4)
  have Ra := Lib.hid ra4
  have Ro := Lib.hid (ro4.more (Nat.le_trans Hb3.out.size (Nat.le_refl _)) (Nat.le_refl _))
  clear ra4 ro4 hb4 HC
  go_wp2
  go_ret2
  rw [Hv.out.1, Hv.out.2]
  exact ⟨A4, c4, rfl, Ra.out, Ro.out, Hb4.out⟩

set_option maxRecDepth 100000 in
set_option maxHeartbeats 4000000 in
theorem implLiftRounds_b (A : Option Addr) (c : Nat) (ss : List Rot) (w : World) (ha : ArgK w A c ss) :
    Calls Try.prog 56 #[.slice A ss.length c] w (RetB (.int .i64 (rdsV ss)) w) := by
  have HA := Lib.hid ha
  clear ha
  go_enter Try.func56, Try.ntmps56
  go_wp2_with fail
  refine (implChartValid_b _ _ _ _ HA.out).mono ?_
  rintro e w1 ⟨rfl, hb⟩
  have Hb1 := Lib.hid hb
  clear hb
  cases e1 : chartB ss
  · have Hv := Lib.hid (rdsV_no e1)
    clear e1
    go_wp2
    go_ret
    exact ⟨by rw [Hv.out] <;> rfl, Hb1.out⟩
  have h8 := chart_len e1
  have hv := rdsV_yes e1
  have HF := Lib.hid (fun w ha => routesFrom_c A c ss h8 ss.length 0 (by omega) w ha)
  rw [show ((0 : Nat) : Int) = 0 from rfl, ← leftN_nil] at HF
  unfold restV at HF
  have HL := Lib.hid (fun w => liftAll_c ss 8 (by omega) (by omega) e1 ss.length [] (leftN_len _ _) (by omega) w)
  rw [show ((8 : Nat) : Int) = 8 from rfl] at HL
  unfold rdsN at hv
  rw [show (rndF ss 8 ss.length []).length = ((rndF ss 8 ss.length []).map ints).length from (List.length_map ..).symm] at hv
  obtain ⟨X, hX⟩ : ∃ X, (rndF ss 8 ss.length []).map ints = X := ⟨_, rfl⟩
  rw [hX] at HL hv
  have Hv := Lib.hid hv
  clear e1 hX hv
  go_wp2_with fail
  refine (HF.out _ (HA.out.go Hb1.out)).mono ?_
  rintro e w2 ⟨rfl, hb⟩
  have Hb2 := Lib.hid (below_step Hb1.out hb)
  clear hb HF
  go_wp2_with fail
  refine (HL.out _).mono ?_
  rintro e w3 ⟨A3, c3, rfl, ra3, hb3⟩
  have Hb3 := Lib.hid (below_step Hb2.out hb3)
  clear ra3 hb3 HL
  go_wp2
  go_ret
  exact ⟨by rw [Hv.out] <;> rfl, Hb3.out⟩

end Go.Proofs.Ytjboamhjfncgdaa
