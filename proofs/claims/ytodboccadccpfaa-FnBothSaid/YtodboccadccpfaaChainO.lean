/-
  chainOf.
-/
import Derived.Test.YtodboccadccpfaaChain
import Derived.Test.YtodboccadccpfaaCabV
namespace Go.Proofs.Ytodboccadccpfaa
open Go.RowKit

/-- the sections of the nodes -/
def secs (ns : List (Nat × Sec)) : List Sec := ns.map (·.2)
theorem secs_append (a b : List (Nat × Sec)) : secs (a ++ b) = secs a ++ secs b := by simp [secs]
theorem secs_length (a : List (Nat × Sec)) : (secs a).length = a.length := by simp [secs]
theorem secs_snoc (a : List (Nat × Sec)) (N : Nat) (s : Sec) : secs (a ++ [(N, s)]) = secs a ++ [s] := by simp [secs]
theorem secs_cons (x : Nat × Sec) (r : List (Nat × Sec)) : secs (x :: r) = x.2 :: secs r := rfl

theorem split_secs {ns xs ys : List (Nat × Sec)} {x : Nat × Sec} {ss : List Sec} (hs : ns = xs ++ x :: ys) (hss : secs ns = ss) : ss = secs xs ++ x.2 :: secs ys := by
  rw [← hss, hs, secs_append]
  rfl

set_option maxRecDepth 100000 in
/-- chainOf of a list that is no cable -/
theorem chainOf_no (A : Option Addr) (c : Nat) (ss : List Sec) (w : World) (ha : ArgC w A c ss) (hv : cabB ss = false) :
    Calls Try.prog 70 #[.slice A ss.length c] w fun e w' => e = .returned (.tuple #[.pointer none, .bool false]) ∧ Below w.heap.size w w' := by
  have HA := Lib.hid ha
  have Hv := Lib.hid hv
  clear ha hv
  go_enter Try.func70, Try.ntmps70
  go_wp2_with fail
  refine (implCableValid_c A c ss _ HA.out).mono ?_
  rintro e w' ⟨rfl, hb⟩
  rw [Hv.out]
  have Hb := Lib.hid hb
  clear hb
  go_wp2
  go_ret2
  exact ⟨rfl, Hb.out⟩

/-- WHAT chainOf OF A CABLE LEAVES: a chain of its sections in new memory. -/
def RetChain (f : Value → Value) (ss : List Sec) (w : World) (e : Ending) (w' : World) : Prop :=
  ∃ C ns, e = .returned (f (.pointer (some ⟨C, 0, none⟩))) ∧ secs ns = ss ∧ Chain (fun k => w.heap.size ≤ k) w' C ns ∧ Below w.heap.size w w'

set_option maxRecDepth 100000 in
set_option maxHeartbeats 1000000 in
theorem chainOf_yes (A : Option Addr) (c : Nat) (ss : List Sec) (w : World) (ha : ArgC w A c ss) (hv : cabB ss = true) :
    Calls Try.prog 70 #[.slice A ss.length c] w (RetChain (fun v => .tuple #[v, .bool true]) ss w) := by
  have HA := Lib.hid ha
  have Hv := Lib.hid hv
  have hl := ha.len
  clear ha hv
  go_enter Try.func70, Try.ntmps70
  go_wp2_with fail
  refine (implCableValid_c A c ss _ HA.out).mono ?_
  rintro e w1 ⟨rfl, hb⟩
  rw [Hv.out]
  have hC := Chain.new (P := fun k => w.heap.size ≤ k) w1 hb.size
  obtain ⟨C, hCC⟩ : ∃ C, w1.heap.size = C := ⟨_, rfl⟩
  have hb2 := hb.alloc hb.size (.cells #[.pointer none, .pointer none] 135)
  clear hb
  rw [hCC] at hC
  go_wp2
  clear hCC
  go_loopw [14] (fun i wr => ∃ (k : Nat) (ns : List (Nat × Sec)), k ≤ ss.length ∧ i = .int .i64 k ∧ secs ns = ss.take k ∧ Chain (fun k => w.heap.size ≤ k) wr C ns ∧ Below w.heap.size w wr) (fun i _ => ss.length - (intOf i).toNat)
  case atStart => exact ⟨0, [], Nat.zero_le _, rfl, rfl, hC, hb2⟩
  case round =>
    clear hC hb2
    obtain ⟨k, ns, hk, rfl, hn, hC, hb⟩ := hrel
    have Hn := Lib.hid hn
    have HC := Lib.hid hC
    have Hb := Lib.hid hb
    clear hn hC hb
    by_cases hlt : k < ss.length
    · obtain ⟨b, off, rfl, _, hbw, hc0, hc1, hc2⟩ := (HA.out.go Hb.out).rd.at_ hlt
      obtain ⟨s, hs⟩ : ∃ s, secAt ss k = s := ⟨_, rfl⟩
      rw [hs] at hc0 hc1 hc2
      have Hs := Lib.hid hs
      clear hs
      have g1 : (k : Int) < (ss.length : Int) := by omega
      have hsz := Hb.out.size
      go_wp2_with fail
      refine (add_c (fun k => w.heap.size ≤ k) C ns s _ (HC.out.go ((Below.refl _ _).alloc (Nat.le_refl _) _)) (by intro k hk; simp at hk; omega)).mono ?_
      rintro e w2 ⟨⟨v, rfl⟩, ⟨N, hC2⟩, hf⟩
      have HC2 := Lib.hid hC2
      have Hb2 := Lib.hid ((Hb.out.alloc Hb.out.size _).trans (hf.below (B := w.heap.size) (by simp; omega) (fun k hk hp => by omega)))
      clear hC2 hf
      go_wp2
      go_roundw
      case rel => exact ⟨k + 1, ns ++ [(N, s)], by omega, by go_num, by rw [secs_snoc, Hn.out, take_snoc ss hlt, ← secAt_lt hlt, Hs.out], HC2.out, Hb2.out⟩
      case measure => simp [intOf]; omega
    · obtain rfl : k = ss.length := by omega
      go_wp2
      go_ret2
      exact ⟨C, ns, rfl, by rw [Hn.out, List.take_length], HC.out, Hb.out⟩

end Go.Proofs.Ytodboccadccpfaa
