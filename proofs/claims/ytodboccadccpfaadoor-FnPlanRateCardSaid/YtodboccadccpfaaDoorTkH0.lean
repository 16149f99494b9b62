/-
  What orders lean on: ranges, Index and Contains at ints, the model's l4Has.
-/
import Derived.Test.YtodboccadccpfaaDoorRng0
import Derived.Test.YtodboccadccpfaaDoorMem
import Derived.Test.YtodboccadccpfaaDoorProg
import Derived.Lib.Hide
namespace Go.Proofs.YtodboccadccpfaaDoor
open Go.RowKit

theorem notin_zero (zs : List Int) (x : Int) : x ∉ zs.take 0 := by simp
theorem notin_succ {zs : List Int} {x : Int} {k : Nat} (h : x ∉ zs.take k) (hk : k < zs.length) (hx : ¬ x = zs[k]?.getD 0) : x ∉ zs.take (k + 1) := by
  rw [List.take_succ_eq_append_getElem hk]
  intro h2
  rcases List.mem_append.1 h2 with h3 | h3
  · exact h h3
  · simp at h3; apply hx; simp [hk, h3]
theorem in_at {zs : List Int} {x : Int} {k : Nat} (hk : k < zs.length) (hx : x = zs[k]?.getD 0) : x ∈ zs := by
  rw [hx]; simp [hk]

set_option maxRecDepth 100000 in
set_option maxHeartbeats 1000000 in
theorem index_c (A : Option Addr) (c : Nat) (zs : List Int) (x : Int) (w : World) (ha : Arg w A c zs) :
    Calls Tryd.prog 63 #[.slice A zs.length c, .int .i64 x] w fun e w' => (∃ i : Int, e = .returned (.int .i64 i) ∧ (0 ≤ i ↔ x ∈ zs) ∧ -1 ≤ i ∧ i ≤ 2097152) ∧ Below w.heap.size w w' := by
  have hl := ha.len
  have HA := Lib.hid ha
  clear ha
  go_enter Tryd.func63, Tryd.ntmps63
  go_wp2
  go_loopw [8] (fun i wr => ∃ k : Nat, k ≤ zs.length ∧ i = .int .i64 k ∧ x ∉ zs.take k ∧ Below w.heap.size w wr) (fun i _ => zs.length - (intOf i).toNat)
  case atStart => exact ⟨0, Nat.zero_le _, rfl, notin_zero zs x, Below.refl _ _⟩
  case round =>
    obtain ⟨k, hk, rfl, ho, hb⟩ := hrel
    have Ho := Lib.hid ho
    have Hb := Lib.hid hb
    clear ho hb
    by_cases hlt : k < zs.length
    · obtain ⟨b, off, rfl, _, hbw, hc0⟩ := (HA.out.go Hb.out).rd.at_ hlt
      have Hin := Lib.hid (in_at (zs := zs) (x := x) hlt)
      have Hno := Lib.hid (notin_succ Ho.out hlt)
      obtain ⟨y, hy⟩ : ∃ y, zs[k]?.getD 0 = y := ⟨_, rfl⟩
      rw [hy] at hc0 Hin Hno
      have g1 : (k : Int) < (zs.length : Int) := by omega
      clear hy
      by_cases hxy : x = y
      · go_wp2
        go_ret
        exact ⟨⟨k, rfl, ⟨fun _ => Hin.out hxy, fun _ => by omega⟩, by omega, by omega⟩, Hb.out⟩
      · go_wp2
        go_roundw
        case rel => exact ⟨k + 1, by omega, by go_num, Hno.out hxy, Hb.out⟩
        case measure => simp [intOf]; omega
    · obtain rfl : k = zs.length := by omega
      have h1 := Ho.out
      rw [List.take_length] at h1
      have H1 := Lib.hid h1
      clear h1
      go_wp2
      go_ret
      exact ⟨⟨-1, rfl, ⟨fun h => by omega, fun h => absurd h H1.out⟩, by omega, by omega⟩, Hb.out⟩

set_option maxRecDepth 100000 in
theorem contains_c (A : Option Addr) (c : Nat) (zs : List Int) (x : Int) (w : World) (ha : Arg w A c zs) :
    Calls Tryd.prog 49 #[.slice A zs.length c, .int .i64 x] w (RetB (.bool (decide (x ∈ zs))) w) := by
  have HA := Lib.hid ha
  clear ha
  go_enter Tryd.func49, Tryd.ntmps49
  go_wp2_with fail
  refine (index_c A c zs x _ HA.out).mono ?_
  rintro e w1 ⟨⟨i, rfl, hi, h1, h2⟩, hb⟩
  have Hi := Lib.hid hi
  have Hb := Lib.hid hb
  clear hi hb
  go_wp2
  go_ret
  exact ⟨by rw [show decide (x ∈ zs) = decide (0 ≤ i) from decide_eq_decide.2 Hi.out.symm]; rfl, Hb.out⟩

set_option maxRecDepth 100000 in
set_option maxHeartbeats 1000000 in
theorem l4Has_c (A : Option Addr) (c : Nat) (zs : List Int) (x : Int) (w : World) (ha : Arg w A c zs) :
    Calls Tryd.prog 51 #[.slice A zs.length c, .int .i64 x] w fun e w' => e = .returned (.bool (decide (x ∈ zs))) ∧ w = w' := by
  have hl := ha.len
  have HA := Lib.hid ha
  clear ha
  go_enter Tryd.func51, Tryd.ntmps51
  go_wp2
  go_loopw [5] (fun i wr => ∃ k : Nat, k ≤ zs.length ∧ i = .int .i64 k ∧ x ∉ zs.take k ∧ w = wr) (fun i _ => zs.length - (intOf i).toNat)
  case atStart => exact ⟨0, Nat.zero_le _, rfl, notin_zero zs x, rfl⟩
  case round =>
    obtain ⟨k, hk, rfl, ho, rfl⟩ := hrel
    have Ho := Lib.hid ho
    clear ho
    by_cases hlt : k < zs.length
    · obtain ⟨b, off, rfl, _, hbw, hc0⟩ := HA.out.rd.at_ hlt
      have Hin := Lib.hid (fun h => in_at (zs := zs) (x := x) hlt (Eq.symm h))
      have Hno := Lib.hid (fun h : ¬ zs[k]?.getD 0 = x => notin_succ Ho.out hlt (fun q => h q.symm))
      obtain ⟨y, hy⟩ : ∃ y, zs[k]?.getD 0 = y := ⟨_, rfl⟩
      rw [hy] at hc0 Hin Hno
      have g1 : (k : Int) < (zs.length : Int) := by omega
      clear hy
      by_cases hxy : y = x
      · go_wp2
        go_ret
        exact ⟨by rw [decide_eq_true (Hin.out hxy)]; rfl, rfl⟩
      · go_wp2
        go_roundw
        case rel => exact ⟨k + 1, by omega, by go_num, Hno.out hxy, trivial⟩
        case measure => simp [intOf]; omega
    · obtain rfl : k = zs.length := by omega
      have h1 := Ho.out
      rw [List.take_length] at h1
      have H1 := Lib.hid h1
      clear h1
      go_wp2
      go_ret
      exact ⟨by rw [decide_eq_false H1.out]; rfl, rfl⟩

theorem Rd.take {lo hi : Nat} {W : World} {A : Option Addr} {zs : List Int} (h : Rd lo hi W A zs) (k : Nat) : Rd lo hi W A (zs.take k) := fun hn => by
  have h1 : (zs.take k).length ≤ zs.length := by simp; omega
  obtain ⟨b, off, e, h2, h3, hc⟩ := h (by omega)
  refine ⟨b, off, e, h2, h3, fun j hj => ?_⟩
  rw [hc j (by omega), List.getElem?_take_of_lt (by simp at hj; omega)]
theorem Arg.take {w : World} {A : Option Addr} {c : Nat} {zs : List Int} (h : Arg w A c zs) (k : Nat) : Arg w A c (zs.take k) := by
  have h1 : (zs.take k).length ≤ zs.length := by simp; omega
  exact ⟨by have := h.1; omega, by have := h.2.1; omega, h.2.2.1, h.2.2.2.take k⟩
theorem take_len {zs : List Int} {k : Nat} (h : k ≤ zs.length) : (zs.take k).length = k := by simp; omega


end Go.Proofs.YtodboccadccpfaaDoor
