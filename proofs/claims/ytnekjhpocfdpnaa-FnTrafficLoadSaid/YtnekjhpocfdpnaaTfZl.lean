/-
  TrafficLoad of the model.
-/
import Derived.Test.YtnekjhpocfdpnaaTfZ
namespace Go.Proofs.Ytnekjhpocfdpnaa
open Go.RowKit

set_option maxRecDepth 100000 in
set_option maxHeartbeats 1000000 in
theorem specTrafficLoad_b (n : Int) (A : Option Addr) (c : Nat) (ss : List Lin) (f t : Int) (w : World) (ha : ArgL w A c ss) :
    Calls Try.prog 17 #[.int .i64 n, .slice A ss.length c, .int .i64 f, .int .i64 t] w (RetS 3 (fun v => .tuple #[v, .bool (endB n ss f t)]) (TLv n ss f t) w) := by
  have HA := Lib.hid ha
  clear ha
  go_enter Try.func17, Try.ntmps17
  go_wp2_with fail
  refine (l7Two_c _ _ _ _ _ _ _ HA.out).mono ?_
  rintro e w1 ⟨rfl, hb1⟩
  have Hb1 := Lib.hid hb1
  have HA1 := Lib.hid (HA.out.go hb1)
  clear hb1
  cases e1 : endB n ss f t
  · have N := Lib.hid (TLv_no e1)
    have E1 := Lib.hid e1
    clear e1
    go_wp2
    go_ret2
    rw [N.out, E1.out]
    exact RetS.none0 (f := fun v => .tuple #[v, .bool false]) Hb1.out
  have E1 := Lib.hid e1
  have hT := TLv_yes e1
  have HT := Lib.hid hT
  obtain ⟨m, rfl, _, hf, ht, _⟩ := ends_nat e1
  obtain ⟨fn, rfl⟩ : ∃ fn : Nat, f = (fn : Int) := ⟨f.toNat, by omega⟩
  obtain ⟨tn, rfl⟩ : ∃ tn : Nat, t = (tn : Int) := ⟨t.toNat, by omega⟩
  clear e1 hT hf ht
  go_wp2_with fail
  refine (l7Load_c _ _ _ _ _ _ _ HA1.out E1.out).mono ?_
  rintro e w2 ⟨A2, c2, rfl, ha2, ho2, hb2⟩
  dsimp only [id]
  have Ha2 := Lib.hid ha2
  have Ho2 := Lib.hid (ho2.more Hb1.out.size (Nat.le_refl _))
  have Hb2 := Lib.hid (below_step Hb1.out hb2)
  clear ha2 ho2 hb2
  go_wp2
  go_ret2
  rw [HT.out, E1.out]
  exact ⟨A2, c2, rfl, Ha2.out, Ho2.out, Hb2.out⟩

end Go.Proofs.Ytnekjhpocfdpnaa
