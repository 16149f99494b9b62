/-
  The first stack on whose top lies what a function value accepts: top, IndexFunc at stacks, firstTop.
-/
import Derived.Test.YtodboccadccpfaaStkC
import Derived.Shelf.Abstract
namespace Go.Proofs.Ytodboccadccpfaa
open Go.RowKit

/-- something lies on the pile, and it is accepted -/
def accP (q : Int → Bool) (z : List Int) : Bool := match z with
  | [] => false
  | _ :: _ => q (topI z)
theorem accP_ne {q : Int → Bool} {z : List Int} (h : z ≠ []) : accP q z = q (topI z) := by
  cases z with
  | nil => exact absurd rfl h
  | cons a r => rfl
/-- i IS THE FIRST STACK whose top is accepted, or -1 -/
def IsFirst (Q : List (List Int)) (q : Int → Bool) (i : Int) : Prop :=
  (∃ k : Nat, i = k ∧ k < Q.length ∧ accP q (pileAt Q k) = true ∧ ∀ j, j < k → accP q (pileAt Q j) = false) ∨ (i = -1 ∧ ∀ j, j < Q.length → accP q (pileAt Q j) = false)
theorem pileAt_some {Q : List (List Int)} {k : Nat} (h : k < Q.length) : Q[k]? = some (pileAt Q k) := by
  unfold pileAt
  rw [List.getElem?_eq_getElem h]
  rfl
theorem topI_last {z : List Int} {j : Nat} (h : z.length = j + 1) : z[j]?.getD 0 = topI z := by
  unfold topI
  rw [List.getLast?_eq_getElem?, h]
  rfl

set_option maxRecDepth 100000 in
set_option maxHeartbeats 1000000 in
theorem top_c (g k : Nat) (A : Option Addr) (c : Nat) (z : List Int) (w : World) (hc : w.cell? ⟨g, k, none⟩ = some (.slice A z.length c)) (hr : Rd 0 w.heap.size w A z) (hl : z.length ≤ 2097152) :
    Calls Try.prog 138 #[.pointer (some ⟨g, k, none⟩)] w (RetQ (.tuple #[.int .i64 (topI z), .bool (decide (z ≠ []))]) w) := by
  by_cases hz : z = []
  · subst hz
    go_enter Try.func138, Try.ntmps138
    go_wp2
    go_ret2
    exact ⟨rfl, 0, rfl⟩
  · have hp : 0 < z.length := List.length_pos_iff.2 hz
    obtain ⟨j, hj⟩ : ∃ j, z.length = j + 1 := ⟨z.length - 1, by omega⟩
    obtain ⟨b, off, rfl, _, _, hd⟩ := hr.at_ (show j < z.length by omega)
    rw [topI_last hj] at hd
    have Hz := Lib.hid (decide_eq_true hz)
    clear hr
    rw [hj] at hc hl
    obtain ⟨x, hx⟩ : ∃ x, topI z = x := ⟨_, rfl⟩
    rw [hx] at hd ⊢
    have g1 : IntKind.i64.wrap (((j + 1 : Nat) : Int) - 1) = (j : Int) := by rw [show ((j + 1 : Nat) : Int) - 1 = (j : Int) by omega]; exact IntWalk.i64_in _ (by omega)
    have g2 : ¬ ((j + 1 : Nat) : Int) = 0 := by omega
    have g4 : (0 : Int) ≤ (j : Int) := by omega
    have g5 : (j : Int) < ((j + 1 : Nat) : Int) := by omega
    clear hj hz hp hx
    go_enter Try.func138, Try.ntmps138
    go_wp2
    go_quiet (fail)
    all_goals
      go_wp2
      go_ret2
      exact ⟨by rw [Hz.out]; rfl, nq, rfl⟩

set_option maxRecDepth 100000 in
set_option maxHeartbeats 1000000 in
theorem first1_c (g : Nat) (caps : Array Value) (q : Int → Bool) (pb : Nat) (A : Option Addr) (c : Nat) (z : List Int) (w : World) (hen : ∀ (args : Array Value) (w : World), (callFunc g args).run Try.prog w = .ok (.enter g args) w)
    (hb : w.cell? ⟨pb, 0, none⟩ = some (.func (.func g) #[] caps)) (hpb : pb < w.heap.size) (hr : Rd 0 w.heap.size w A z) (hl : z.length ≤ 2097152)
    (hq : ∀ x W, Below w.heap.size w W → Calls Try.prog g (#[.int .i64 x] ++ caps) W (RetB (.bool (q x)) W)) :
    Calls Try.prog 137 #[.agg #[.slice A z.length c], .pointer (some ⟨pb, 0, none⟩)] w (RetB (.bool (accP q z)) w) := by
  have Hr := Lib.hid hr
  have HQ := Lib.hid hq
  have b1 : Below w.heap.size w (w.alloc (.cells #[.slice A z.length c] 157)) := (Below.refl _ _).alloc (Nat.le_refl _) _
  have HB := Lib.hid b1
  have HC := Lib.hid (show (w.alloc (.cells #[.slice A z.length c] 157)).cell? ⟨w.heap.size, 0, none⟩ = some (.slice A z.length c) from cell_of_row _ _ 0 _ _ _ (heap_alloc_new w _))
  clear hr hq b1
  go_enter Try.func137, Try.ntmps137
  go_wp2_with fail
  refine (top_c w.heap.size 0 A c z _ HC.out ((Hr.out.below HB.out).more (Nat.le_refl _) HB.out.size) hl).mono ?_
  rintro e w1 ⟨rfl, m, rfl⟩
  have hb1 : Below w.heap.size w ((w.alloc (.cells #[.slice A z.length c] 157)).drewN m) := below_drewN HB.out m
  have hbc := (hb1.cell (p := ⟨pb, 0, none⟩) hpb).trans hb
  obtain ⟨W1, hW1⟩ : ∃ W1, (w.alloc (.cells #[.slice A z.length c] 157)).drewN m = W1 := ⟨_, rfl⟩
  rw [hW1] at hb1 hbc ⊢
  have Hb1 := Lib.hid hb1
  clear hb1 hW1
  by_cases hz : z = []
  · subst hz
    go_wp2
    go_ret
    exact ⟨rfl, Hb1.out⟩
  · rw [decide_eq_true hz]
    have Ha := Lib.hid (accP_ne (q := q) hz)
    obtain ⟨x, hx⟩ : ∃ x, topI z = x := ⟨_, rfl⟩
    rw [hx] at Ha ⊢
    clear hz hx
    go_wp2_with fail
    refine (HQ.out x _ Hb1.out).mono ?_
    rintro e w2 ⟨rfl, hb2⟩
    have Hb2 := Lib.hid hb2
    clear hb2
    go_wp2
    go_ret
    exact ⟨by rw [Ha.out]; rfl, below_step Hb1.out Hb2.out⟩

theorem isFirst_at {Q : List (List Int)} {q : Int → Bool} {k : Nat} (hk : k < Q.length) (h : accP q (pileAt Q k) = true) (h2 : ∀ j, j < k → accP q (pileAt Q j) = false) : IsFirst Q q k := .inl ⟨k, rfl, hk, h, h2⟩

set_option maxRecDepth 100000 in
set_option maxHeartbeats 1000000 in
theorem indexFunc_c (g : Nat) (caps : Array Value) (q : Int → Bool) (pb : Nat) (A : Option Addr) (c : Nat) (Q : List (List Int)) (w : World) (hen : ∀ (args : Array Value) (w : World), (callFunc g args).run Try.prog w = .ok (.enter g args) w)
    (hb : w.cell? ⟨pb, 0, none⟩ = some (.func (.func g) #[] caps)) (hpb : pb < w.heap.size) (hr : HRd w A Q) (hl : Q.length ≤ 100) (hl2 : ∀ k, (pileAt Q k).length ≤ 100)
    (hq : ∀ x W, Below w.heap.size w W → Calls Try.prog g (#[.int .i64 x] ++ caps) W (RetB (.bool (q x)) W)) :
    Calls Try.prog 136 #[.slice A Q.length c, .func (.func 137) #[] #[.pointer (some ⟨pb, 0, none⟩)]] w
      fun e w' => (∃ i : Int, e = .returned (.int .i64 i) ∧ IsFirst Q q i) ∧ Below w.heap.size w w' := by
  have Hr := Lib.hid hr
  have HQ := Lib.hid hq
  have Hen := Lib.hid hen
  clear hr hq hen
  go_enter Try.func136, Try.ntmps136
  go_wp2
  go_loopw [8] (fun i wr => ∃ k : Nat, k ≤ Q.length ∧ i = .int .i64 k ∧ (∀ j, j < k → accP q (pileAt Q j) = false) ∧ Below w.heap.size w wr) (fun i _ => Q.length - (intOf i).toNat)
  case atStart => exact ⟨0, Nat.zero_le _, rfl, fun j hj => absurd hj (by omega), Below.refl _ _⟩
  case round =>
    obtain ⟨k, hk, rfl, ho, hbb⟩ := hrel
    have Ho := Lib.hid ho
    have Hb := Lib.hid hbb
    clear ho hbb
    by_cases hlt : k < Q.length
    · obtain ⟨b, off, B, c2, rfl, hbw, hc0, hrd⟩ := (Hr.out.go Hb.out) k _ (pileAt_some hlt)
      have Hfirst := Lib.hid (first1_c g caps q pb B c2 (pileAt Q k) wr Hen.out ((Hb.out.cell (p := ⟨pb, 0, none⟩) hpb).trans hb) (Nat.lt_of_lt_of_le hpb Hb.out.size) hrd (by have := hl2 k; omega) (fun x W h => HQ.out x W (below_step Hb.out h)))
      have Hyes := Lib.hid (fun h => isFirst_at (q := q) hlt h Ho.out)
      have Hno := Lib.hid (fun (h : accP q (pileAt Q k) = false) (j : Nat) (hj : j < k + 1) => (show accP q (pileAt Q j) = false from by
        rcases Nat.lt_or_ge j k with h1 | h1
        · exact Ho.out j h1
        · obtain rfl : j = k := by omega
          exact h))
      obtain ⟨z, hz⟩ : ∃ z, pileAt Q k = z := ⟨_, rfl⟩
      rw [hz] at hc0 Hfirst Hyes Hno
      have g1 : (k : Int) < (Q.length : Int) := by omega
      clear hz hrd
      go_wp2_with fail
      refine Hfirst.out.mono ?_
      rintro e w2 ⟨rfl, hb2⟩
      have Hb2 := Lib.hid hb2
      clear hb2
      cases ha : accP q z
      · have Hn := Lib.hid (Hno.out ha)
        clear ha
        go_wp2
        go_roundw
        case rel => exact ⟨k + 1, by omega, by go_num, Hn.out, below_step Hb.out Hb2.out⟩
        case measure => simp [intOf]; omega
      · have Hn := Lib.hid (Hyes.out ha)
        clear ha
        go_wp2
        go_ret
        exact ⟨⟨_, rfl, Hn.out⟩, below_step Hb.out Hb2.out⟩
    · obtain rfl : k = Q.length := by omega
      go_wp2
      go_ret
      exact ⟨⟨_, rfl, .inr ⟨rfl, Ho.out⟩⟩, Hb.out⟩

set_option maxRecDepth 100000 in
set_option maxHeartbeats 1000000 in
theorem firstTop_c (g : Nat) (caps : Array Value) (q : Int → Bool) (A : Option Addr) (c : Nat) (Q : List (List Int)) (w : World) (hen : ∀ (args : Array Value) (w : World), (callFunc g args).run Try.prog w = .ok (.enter g args) w)
    (hr : HRd w A Q) (hl : Q.length ≤ 100) (hl2 : ∀ k, (pileAt Q k).length ≤ 100)
    (hq : ∀ x W, Below w.heap.size w W → Calls Try.prog g (#[.int .i64 x] ++ caps) W (RetB (.bool (q x)) W)) :
    Calls Try.prog 125 #[.slice A Q.length c, .func (.func g) #[] caps] w
      fun e w' => (∃ i : Int, e = .returned (.int .i64 i) ∧ IsFirst Q q i) ∧ Below w.heap.size w w' := by
  have b1 : Below w.heap.size w (w.alloc (.cells #[.func (.func g) #[] caps] 155)) := (Below.refl _ _).alloc (Nat.le_refl _) _
  have HB := Lib.hid b1
  have Hidx := Lib.hid (indexFunc_c g caps q w.heap.size A c Q (w.alloc (.cells #[.func (.func g) #[] caps] 155)) hen (cell_of_row _ _ 0 _ _ _ (heap_alloc_new w _)) (by simp) (hr.go b1) hl hl2 (fun x W h => hq x W (below_step b1 h)))
  clear b1 hen hr hq
  go_enter Try.func125, Try.ntmps125
  go_wp2_with fail
  refine Hidx.out.mono ?_
  rintro e w2 ⟨⟨i, rfl, hi⟩, hb2⟩
  have Hi := Lib.hid hi
  have Hb2 := Lib.hid hb2
  clear hi hb2
  go_wp2
  go_ret
  exact ⟨⟨_, rfl, Hi.out⟩, below_step HB.out Hb2.out⟩

end Go.Proofs.Ytodboccadccpfaa
