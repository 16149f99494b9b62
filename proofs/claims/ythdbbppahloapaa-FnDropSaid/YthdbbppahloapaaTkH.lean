/-
  What orders lean on: ranges, Index and Contains at ints, the model's l4Has.
-/
import Derived.Test.YthdbbppahloapaaMem
import Derived.Test.YthdbbppahloapaaProg
import Derived.Lib.Hide
namespace Go.Proofs.Ythdbbppahloapaa
open Go.RowKit

/-- a number in a range -/
def inB (n lo hi : Int) : Bool := decide (lo ≤ n) && decide (n ≤ hi)
theorem inB_true {n lo hi : Int} : inB n lo hi = true ↔ lo ≤ n ∧ n ≤ hi := by simp [inB]
theorem inB_false {n lo hi : Int} : inB n lo hi = false ↔ n < lo ∨ hi < n := by simp [inB]; omega

theorem inRange_c (a b c : Int) (w : World) : Calls Try.prog 41 #[.int .i64 a, .int .i64 b, .int .i64 c] w fun e w' => e = .returned (.bool (inB a b c)) ∧ w = w' := by
  unfold inB
  by_cases h1 : b ≤ a <;> by_cases h2 : a ≤ c
  all_goals
    go_enter Try.func41, Try.ntmps41
    go_wp2
    go_ret
    exact ⟨by simp [h1, h2], rfl⟩

theorem l6In_c (a b c : Int) (w : World) : Calls Try.prog 39 #[.int .i64 a, .int .i64 b, .int .i64 c] w fun e w' => e = .returned (.bool (inB a b c)) ∧ w = w' := by
  unfold inB
  by_cases h1 : b ≤ a <;> by_cases h2 : a ≤ c
  all_goals
    go_enter Try.func39, Try.ntmps39
    go_wp2
    go_ret
    exact ⟨by simp [h1, h2], rfl⟩

/-- every number of a list lies in a range -/
def allB (zs : List Int) (lo hi : Int) : Bool := zs.all fun z => inB z lo hi
theorem allB_true {zs : List Int} {lo hi : Int} : allB zs lo hi = true ↔ ∀ j, j < zs.length → lo ≤ zs[j]?.getD 0 ∧ zs[j]?.getD 0 ≤ hi := by
  unfold allB
  rw [List.all_eq_true]
  constructor
  · intro h j hj
    have := h zs[j] (List.getElem_mem hj)
    rw [inB_true] at this
    simpa [List.getElem?_eq_getElem hj] using this
  · intro h z hz
    obtain ⟨j, hj, rfl⟩ := List.mem_iff_getElem.1 hz
    rw [inB_true]
    simpa [List.getElem?_eq_getElem hj] using h j hj
/-- the first k numbers lie in the range -/
def allTo (zs : List Int) (lo hi : Int) (k : Nat) : Prop := ∀ j, j < k → lo ≤ zs[j]?.getD 0 ∧ zs[j]?.getD 0 ≤ hi
theorem allTo_zero (zs : List Int) (lo hi : Int) : allTo zs lo hi 0 := fun j hj => absurd hj (by omega)
theorem allTo_succ {zs : List Int} {lo hi : Int} {k : Nat} (h : allTo zs lo hi k) (hk : lo ≤ zs[k]?.getD 0 ∧ zs[k]?.getD 0 ≤ hi) : allTo zs lo hi (k + 1) := fun j hj => by
  rcases Nat.lt_or_ge j k with h1 | h1
  · exact h j h1
  · obtain rfl : j = k := by omega
    exact hk
theorem allB_of_to {zs : List Int} {lo hi : Int} (h : allTo zs lo hi zs.length) : allB zs lo hi = true := allB_true.2 h
theorem allB_not {zs : List Int} {lo hi : Int} {k : Nat} (hk : k < zs.length) (h : inB (zs[k]?.getD 0) lo hi = false) : allB zs lo hi = false := by
  rw [Bool.eq_false_iff]
  intro h2
  have := allB_true.1 h2 k hk
  rw [inB_false] at h
  omega

set_option maxHeartbeats 400000 in
theorem allInRange_c (A : Option Addr) (c : Nat) (zs : List Int) (lo hi : Int) (w : World) (ha : Arg w A c zs) :
    Calls Try.prog 62 #[.slice A zs.length c, .int .i64 lo, .int .i64 hi] w fun e w' => e = .returned (.bool (allB zs lo hi)) ∧ w = w' := by
  obtain ⟨hl, _, _, hr⟩ := ha
  go_enter Try.func62, Try.ntmps62
  go_wp2
  go_loop [11] (fun i => ∃ k : Nat, k ≤ zs.length ∧ allTo zs lo hi k ∧ i = .int .i64 k) (fun i => zs.length - (intOf i).toNat)
  case atStart => exact ⟨0, Nat.zero_le _, allTo_zero _ _ _, rfl⟩
  case round =>
    obtain ⟨k, hk, ha, rfl⟩ := hrel
    have Ha := Lib.hid ha
    clear ha
    by_cases hlt : k < zs.length
    · obtain ⟨b, off, rfl, _, _, hc⟩ := hr.at_ hlt
      have Hr := Lib.hid hr
      clear hr
      have e0 : zs[k]?.getD 0 = zs[k] := by simp [hlt]
      rw [e0] at hc
      have E0 := Lib.hid e0
      clear e0
      cases hin : inB zs[k] lo hi
      all_goals
        have hin2 := Lib.hid hin
        go_wp2_with (go_at_call 41; refine (inRange_c _ _ _ _).mono ?_; rintro e w' ⟨rfl, rfl⟩)
      · go_ret
        exact ⟨by rw [allB_not hlt (by rw [E0.out]; exact hin2.out)]; rfl, rfl⟩
      · go_round
        case rel => exact ⟨k + 1, by omega, allTo_succ Ha.out (by rw [E0.out]; exact inB_true.1 hin2.out), by go_num⟩
        case measure => simp [intOf]; omega
    · obtain rfl : k = zs.length := by omega
      go_wp2
      go_ret
      exact ⟨by rw [allB_of_to Ha.out]; rfl, rfl⟩

theorem notin_zero (zs : List Int) (x : Int) : x ∉ zs.take 0 := by simp
theorem notin_succ {zs : List Int} {x : Int} {k : Nat} (h : x ∉ zs.take k) (hk : k < zs.length) (hx : ¬ x = zs[k]?.getD 0) : x ∉ zs.take (k + 1) := by
  rw [List.take_succ_eq_append_getElem hk]
  intro h2
  rcases List.mem_append.1 h2 with h3 | h3
  · exact h h3
  · simp at h3; apply hx; simp [hk, h3]
theorem in_at {zs : List Int} {x : Int} {k : Nat} (hk : k < zs.length) (hx : x = zs[k]?.getD 0) : x ∈ zs := by
  rw [hx]; simp [hk]

set_option maxHeartbeats 1000000 in
theorem index_c (A : Option Addr) (c : Nat) (zs : List Int) (x : Int) (w : World) (ha : Arg w A c zs) :
    Calls Try.prog 61 #[.slice A zs.length c, .int .i64 x] w fun e w' => (∃ i : Int, e = .returned (.int .i64 i) ∧ (0 ≤ i ↔ x ∈ zs) ∧ -1 ≤ i ∧ i ≤ 2097152) ∧ Below w.heap.size w w' := by
  have hl := ha.len
  have HA := Lib.hid ha
  clear ha
  go_enter Try.func61, Try.ntmps61
  go_wp2
  go_loopw [8] (fun i wr => ∃ k : Nat, k ≤ zs.length ∧ i = .int .i64 k ∧ x ∉ zs.take k ∧ Below w.heap.size w wr) (fun i _ => zs.length - (intOf i).toNat)
  case atStart => exact ⟨0, Nat.zero_le _, rfl, notin_zero zs x, Below.refl _ _⟩
  case round =>
    obtain ⟨k, hk, rfl, ho, hb⟩ := hrel
    have Ho := Lib.hid ho
    have Hb := Lib.hid hb
    clear ho hb
    by_cases hlt : k < zs.length
    · obtain ⟨b, off, rfl, _, hbw, hc0⟩ := (HA.out.go Hb.out).rd.at_ hlt
      have Hin := Lib.hid (in_at (zs := zs) (x := x) hlt)
      have Hno := Lib.hid (notin_succ Ho.out hlt)
      obtain ⟨y, hy⟩ : ∃ y, zs[k]?.getD 0 = y := ⟨_, rfl⟩
      rw [hy] at hc0 Hin Hno
      have g1 : (k : Int) < (zs.length : Int) := by omega
      clear hy
      by_cases hxy : x = y
      · go_wp2
        go_ret
        exact ⟨⟨k, rfl, ⟨fun _ => Hin.out hxy, fun _ => by omega⟩, by omega, by omega⟩, Hb.out⟩
      · go_wp2
        go_roundw
        case rel => exact ⟨k + 1, by omega, by go_num, Hno.out hxy, Hb.out⟩
        case measure => simp [intOf]; omega
    · obtain rfl : k = zs.length := by omega
      have h1 := Ho.out
      rw [List.take_length] at h1
      have H1 := Lib.hid h1
      clear h1
      go_wp2
      go_ret
      exact ⟨⟨-1, rfl, ⟨fun h => by omega, fun h => absurd h H1.out⟩, by omega, by omega⟩, Hb.out⟩

theorem contains_c (A : Option Addr) (c : Nat) (zs : List Int) (x : Int) (w : World) (ha : Arg w A c zs) :
    Calls Try.prog 52 #[.slice A zs.length c, .int .i64 x] w (RetB (.bool (decide (x ∈ zs))) w) := by
  have HA := Lib.hid ha
  clear ha
  go_enter Try.func52, Try.ntmps52
  go_wp2_with fail
  refine (index_c A c zs x _ HA.out).mono ?_
  rintro e w1 ⟨⟨i, rfl, hi, h1, h2⟩, hb⟩
  have Hi := Lib.hid hi
  have Hb := Lib.hid hb
  clear hi hb
  go_wp2
  go_ret
  exact ⟨by rw [show decide (x ∈ zs) = decide (0 ≤ i) from decide_eq_decide.2 Hi.out.symm]; rfl, Hb.out⟩

set_option maxHeartbeats 1000000 in
theorem l4Has_c (A : Option Addr) (c : Nat) (zs : List Int) (x : Int) (w : World) (ha : Arg w A c zs) :
    Calls Try.prog 49 #[.slice A zs.length c, .int .i64 x] w fun e w' => e = .returned (.bool (decide (x ∈ zs))) ∧ w = w' := by
  have hl := ha.len
  have HA := Lib.hid ha
  clear ha
  go_enter Try.func49, Try.ntmps49
  go_wp2
  go_loopw [5] (fun i wr => ∃ k : Nat, k ≤ zs.length ∧ i = .int .i64 k ∧ x ∉ zs.take k ∧ w = wr) (fun i _ => zs.length - (intOf i).toNat)
  case atStart => exact ⟨0, Nat.zero_le _, rfl, notin_zero zs x, rfl⟩
  case round =>
    obtain ⟨k, hk, rfl, ho, rfl⟩ := hrel
    have Ho := Lib.hid ho
    clear ho
    by_cases hlt : k < zs.length
    · obtain ⟨b, off, rfl, _, hbw, hc0⟩ := HA.out.rd.at_ hlt
      have Hin := Lib.hid (fun h => in_at (zs := zs) (x := x) hlt (Eq.symm h))
      have Hno := Lib.hid (fun h : ¬ zs[k]?.getD 0 = x => notin_succ Ho.out hlt (fun q => h q.symm))
      obtain ⟨y, hy⟩ : ∃ y, zs[k]?.getD 0 = y := ⟨_, rfl⟩
      rw [hy] at hc0 Hin Hno
      have g1 : (k : Int) < (zs.length : Int) := by omega
      clear hy
      by_cases hxy : y = x
      · go_wp2
        go_ret
        exact ⟨by rw [decide_eq_true (Hin.out hxy)]; rfl, rfl⟩
      · go_wp2
        go_roundw
        case rel => exact ⟨k + 1, by omega, by go_num, Hno.out hxy, trivial⟩
        case measure => simp [intOf]; omega
    · obtain rfl : k = zs.length := by omega
      have h1 := Ho.out
      rw [List.take_length] at h1
      have H1 := Lib.hid h1
      clear h1
      go_wp2
      go_ret
      exact ⟨by rw [decide_eq_false H1.out]; rfl, rfl⟩

theorem Rd.take {lo hi : Nat} {W : World} {A : Option Addr} {zs : List Int} (h : Rd lo hi W A zs) (k : Nat) : Rd lo hi W A (zs.take k) := fun hn => by
  have h1 : (zs.take k).length ≤ zs.length := by simp; omega
  obtain ⟨b, off, e, h2, h3, hc⟩ := h (by omega)
  refine ⟨b, off, e, h2, h3, fun j hj => ?_⟩
  rw [hc j (by omega), List.getElem?_take_of_lt (by simp at hj; omega)]
theorem Arg.take {w : World} {A : Option Addr} {c : Nat} {zs : List Int} (h : Arg w A c zs) (k : Nat) : Arg w A c (zs.take k) := by
  have h1 : (zs.take k).length ≤ zs.length := by simp; omega
  exact ⟨by have := h.1; omega, by have := h.2.1; omega, h.2.2.1, h.2.2.2.take k⟩
theorem take_len {zs : List Int} {k : Nat} (h : k ≤ zs.length) : (zs.take k).length = k := by simp; omega


end Go.Proofs.Ythdbbppahloapaa
