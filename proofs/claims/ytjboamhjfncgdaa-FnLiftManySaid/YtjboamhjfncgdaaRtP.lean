/-
  LiftMany of the program: sets of bits, and a table over all sets.
-/
import Derived.Test.YtjboamhjfncgdaaRtA
import Derived.Test.YtjboamhjfncgdaaRtN
import Derived.Test.YtjboamhjfncgdaaMade
import Derived.IntWalk
namespace Go.Proofs.Ytjboamhjfncgdaa
open Go.RowKit

/-! ### numbers as sets -/
theorem wrapI (n : Nat) (h : n < 4294967296) : IntKind.i64.wrap (n : Int) = (n : Int) := IntWalk.i64_in _ (by omega)
theorem bv64 (n : Nat) (h : n < 4294967296) : (BitVec.ofInt 64 (n : Int)).toNat = n := by
  rw [BitVec.ofInt_natCast, BitVec.toNat_ofNat, Nat.mod_eq_of_lt (by omega)]
theorem and64 (a b : Nat) (ha : a < 4294967296) (hb : b < 4294967296) : bits .and .i64 (a : Int) (b : Int) = ((a &&& b : Nat) : Int) := by
  show IntKind.i64.wrap ((BitVec.ofInt 64 (a : Int) &&& BitVec.ofInt 64 (b : Int)).toNat : Int) = _
  rw [BitVec.toNat_and, bv64 a ha, bv64 b hb]
  exact wrapI _ (Nat.lt_of_le_of_lt Nat.and_le_left ha)
theorem or64 (a b : Nat) (ha : a < 4294967296) (hb : b < 4294967296) : bits .or .i64 (a : Int) (b : Int) = ((a ||| b : Nat) : Int) := by
  show IntKind.i64.wrap ((BitVec.ofInt 64 (a : Int) ||| BitVec.ofInt 64 (b : Int)).toNat : Int) = _
  rw [BitVec.toNat_or, bv64 a ha, bv64 b hb]
  exact wrapI _ (Nat.or_lt_two_pow (n := 32) ha hb)

/-! ### a row of numbers -/
def cellsF (n : Nat) (F : Nat → Nat) : List Value := (List.range n).map fun j => .int .i64 (F j : Int)
theorem cellsF_len (n : Nat) (F : Nat → Nat) : (cellsF n F).length = n := by simp [cellsF]
theorem cellsF_at {n : Nat} {F : Nat → Nat} {j : Nat} (h : j < n) : (cellsF n F)[j]? = some (.int .i64 (F j : Int)) := by simp [cellsF, h]
theorem cellsF_set (n : Nat) (F : Nat → Nat) (k y : Nat) : (cellsF n F).set k (.int .i64 (y : Int)) = cellsF n (fun j => if j = k then y else F j) := by
  apply List.ext_getElem?
  intro j
  by_cases hj : j < n
  · rw [cellsF_at hj]
    by_cases hk : j = k
    · subst hk
      rw [List.getElem?_set_self (by rw [cellsF_len]; exact hj), if_pos rfl]
    · rw [List.getElem?_set_ne (fun e => hk e.symm), cellsF_at hj, if_neg hk]
  · rw [List.getElem?_eq_none (by rw [List.length_set, cellsF_len]; omega), List.getElem?_eq_none (by rw [cellsF_len]; omega)]
theorem cellsF_zero (n : Nat) : (madeCells (Value.cells (.int .i64 0)) (n * 1)).toList = cellsF n (fun _ => 0) := by
  rw [made_ints]
  apply List.ext_getElem?
  intro j
  by_cases hj : j < n
  · rw [cellsF_at hj]; simp [hj]
  · rw [List.getElem?_eq_none (by simp; omega), List.getElem?_eq_none (by rw [cellsF_len]; omega)]
/-- the row v holds F -/
theorem cellsF_ints (n : Nat) (F : Nat → Nat) (f : Nat → Nat) (h : ∀ j, j < n → F j = f j) : cellsF n F = (ints ((List.range n).map f)).map (Value.int .i64) := by
  unfold cellsF ints
  rw [List.map_map, List.map_map]
  refine List.map_congr_left fun j hj => ?_
  rw [h j (List.mem_range.1 hj)]; rfl
def OnF (w wr : World) (v : Value) (n : Nat) (F : Nat → Nat) : Prop := wr.ownsRow w.heap.size 3 1 v n (cellsF n F) ∧ Below w.heap.size w wr
theorem OnF.go {w w1 w2 : World} {v : Value} {n : Nat} {F : Nat → Nat} (h : OnF w w1 v n F) (hb : Below w1.heap.size w1 w2) : OnF w w2 v n F := ⟨own_below h.1 hb, below_step h.2 hb⟩

theorem OnF.set {w wr : World} {g n : Nat} {F : Nat → Nat} (h : OnF w wr (.slice (some ⟨g, 0, none⟩) n n) n F) (k y : Nat) (hg : w.heap.size ≤ g) : OnF w (wr.setCell ⟨g, k, none⟩ (.int .i64 (y : Int))).drew (.slice (some ⟨g, 0, none⟩) n n) n (fun j => if j = k then y else F j) := by
  obtain ⟨h1, h2⟩ := h.1.stored k (.int .i64 (y : Int))
  rw [cellsF_set] at h1
  have hb : Below w.heap.size w (wr.setCell ⟨g, k, none⟩ (.int .i64 (y : Int))) := h.2.grown h2 h.2.size (fun r e => by cases e; exact hg)
  exact ⟨own_below h1 (below_drewN (Below.refl _ _) 1), below_drewN hb 1⟩
theorem wrap_two (y : Nat) (h : y < 32) : wrap64 ((2 : Int) ^ y) = ((2 ^ y : Nat) : Int) := by
  have p2 : 2 ^ y < 4294967296 := Nat.lt_of_lt_of_le (Nat.pow_lt_pow_right (by omega) h) (by decide)
  rw [show ((2 : Int) ^ y) = ((2 ^ y : Nat) : Int) by rw [Int.natCast_pow]; rfl]
  generalize 2 ^ y = Z at p2 ⊢
  unfold wrap64
  omega
theorem argI_at2 {w : World} {A : Option Addr} {c : Nat} {zs : List Int} (ha : Arg w A c zs) {k : Nat} (hk : k < zs.length) : ∃ b off, A = some ⟨b, off, none⟩ ∧ ∀ W, Below w.heap.size w W → W.cell? ⟨b, off + k, none⟩ = some (.int .i64 (zs[k]?.getD 0)) := by
  obtain ⟨b, off, e, _, hb, hc⟩ := ha.rd.at_ hk
  exact ⟨b, off, e, fun W h => (h.cell (p := ⟨b, off + k, none⟩) hb).trans hc⟩
set_option maxRecDepth 100000 in
set_option maxHeartbeats 4000000 in
theorem setsAbove_c (A : Option Addr) (c : Nat) (ss : List Rot) (w : World) (hch : chartB ss = true) (ha : ArgK w A c ss) :
    Calls Try.prog 96 #[.slice A ss.length c] w (RetS 3 id (ints ((List.range ss.length).map (aboveM ss))) w) := by
  obtain ⟨i0, hi, hz0, hz1, hz2⟩ := info_parts int_info
  have HA := Lib.hid ha
  have Hch := Lib.hid hch
  have h8 := chart_len hch
  have Hz := Lib.hid (cellsF_zero ss.length)
  clear ha hch
  go_enter Try.func96, Try.ntmps96
  go_wp2_with (at_make; refine wpList_make_full _ rfl (.tmp 8) (.tmp 8) 25 rfl w.heap.size 3 i0 _ 1 Try.underlying25 hi hz0 hz1 .i64 .i64 _ _ ss.length rfl rfl rfl rfl (by rw [hz2]; omega) (by unfold maxLen; omega) (Nat.le_refl _) ?_; intro w1 hown hg1)
  rw [Hz.out] at hown
  have HO := Lib.hid (show OnF w w1 (.slice (some ⟨w.heap.size, 0, none⟩) ss.length ss.length) ss.length (fun _ => 0) from ⟨hown, (Below.refl _ _).grown hg1 (Nat.le_refl _) (by simp)⟩)
  clear hown hg1
  obtain ⟨g, hg⟩ : ∃ g, w.heap.size = g := ⟨_, rfl⟩
  have Hg := Lib.hid hg
  rw [hg] at HO ⊢
  go_loopw [12] (fun i wr => ∃ (k : Nat) (F : Nat → Nat), k ≤ ss.length ∧ i = .int .i64 k ∧ OnF w wr (.slice (some ⟨g, 0, none⟩) ss.length ss.length) ss.length F ∧ (∀ j, j < k → F j = aboveM ss j) ∧ ∀ j, k ≤ j → F j = 0) (fun i _ => ss.length - (intOf i).toNat)
  case atStart => exact ⟨0, _, Nat.zero_le _, rfl, HO.out, fun j h => absurd h (by omega), fun j _ => rfl⟩
  case round =>
    obtain ⟨k, F, hk, rfl, ho, hF1, hF0⟩ := hrel
    have Ho := Lib.hid ho
    have HF1 := Lib.hid hF1
    have HF0 := Lib.hid hF0
    clear ho hF1 hF0
    obtain ⟨wo, hwo⟩ : ∃ wo, wo = wr := ⟨_, rfl⟩
    subst hwo
    by_cases hlt : k < ss.length
    · have g1 : (k : Int) < (ss.length : Int) := by omega
      have HR := Lib.hid (show abvV ss (k : Int) = ints (abvN ss k) from abvV_yes (hasR_nat Hch.out hlt))
      go_wp2_with fail
      refine (implRouteAbove_b A c ss (k : Int) _ (HA.out.go Ho.out.2)).mono ?_
      rintro e w2 ⟨A2, c2, rfl, ra, ro, rb⟩
      dsimp only [id]
      rw [HR.out] at ra ro ⊢
      have Ho2 := Lib.hid (Ho.out.go rb)
      have hal := ints_length (abvN ss k)
      have hal8 := abvN_len ss k
      obtain ⟨q, hq⟩ : ∃ q, (ints (abvN ss k)).length = q := ⟨_, rfl⟩
      have Hq := Lib.hid (show (abvN ss k).length = q by omega)
      have Hq2 := Lib.hid hq
      have HH := Lib.hid (ro.held (Nat.le_refl _) ra.len : Held wo.heap.size w2.heap.size w2 A2 c2 (ints (abvN ss k)))
      have hgw : g < wo.heap.size := (Ho.out.1.lt g rfl).2
      rw [hq]
      have hq8 : q ≤ 8 := by omega
      have hss := rb.size
      clear ra ro rb hq hal hal8 HR
      go_wp2
      go_loopw [19] (fun i w3 => ∃ (m : Nat) (G : Nat → Nat), m ≤ q ∧ i = .int .i64 m ∧ OnF w w3 (.slice (some ⟨g, 0, none⟩) ss.length ss.length) ss.length G ∧ (∀ j, j < k → G j = aboveM ss j) ∧ (∀ j, k < j → G j = 0) ∧ G k = maskTo ((abvN ss k).take m) ∧ Held wo.heap.size w2.heap.size w3 A2 c2 (ints (abvN ss k)) ∧ w2.heap.size ≤ w3.heap.size) (fun i _ => q - (intOf i).toNat)
      case atStart => exact ⟨0, F, Nat.zero_le _, rfl, Ho2.out, HF1.out, fun j h => HF0.out j (by omega), HF0.out k (Nat.le_refl _), HH.out, Nat.le_refl _⟩
      case round =>
        obtain ⟨m, G, hm, rfl, ho, hG1, hG0, hGk, hh, hs3⟩ := hrel
        by_cases hmq : m < q
        · have hmA : m < (abvN ss k).length := by have := Hq.out; omega
          obtain ⟨b, off, rfl, hcell⟩ := argI_at2 hh.arg (k := m) (by rw [Hq2.out]; exact hmq)
          have hc0 := hcell _ (Below.refl _ _)
          rw [ints_at hmA] at hc0
          have hlt9 := maskTo_lt ss k m h8
          have hmem : (abvN ss k)[m]?.getD 0 < ss.length := by
            have : (abvN ss k)[m]?.getD 0 ∈ abvN ss k := by simp [hmA]
            exact (abvN_mem.1 this).2.1
          have hsn : maskTo ((abvN ss k).take (m + 1)) = maskTo ((abvN ss k).take m) ||| 2 ^ ((abvN ss k)[m]?.getD 0) := by
            rw [List.take_succ_eq_append_getElem hmA, maskTo_snoc]; simp [hmA]
          obtain ⟨y, hy⟩ : ∃ y, (abvN ss k)[m]?.getD 0 = y := ⟨_, rfl⟩
          rw [hy] at hc0 hmem hsn
          obtain ⟨X, hX⟩ : ∃ X, maskTo ((abvN ss k).take m) = X := ⟨_, rfl⟩
          rw [hX] at hGk hlt9 hsn
          have hcG : wr.cell? ⟨g, k, none⟩ = some (.int .i64 (X : Int)) := by
            have h5 := (ho.1.cellAt k (by omega)).trans (cellsF_at hlt)
            rw [hGk] at h5; exact h5
          have hfG := ho.1.frozenAt k
          have hst := fun z : Nat => ho.1.stored k (.int .i64 (z : Int))
          have p2 : 2 ^ y < 4294967296 := Nat.lt_of_lt_of_le (Nat.pow_lt_pow_right (by omega) (show y < 32 by omega)) (by decide)
          have o1 := or64 X (2 ^ y) (by omega) p2
          have hmin : min y 64 = y := by omega
          have g9 : (m : Int) < (q : Int) := by omega
          have g8 : (k : Int) < (ss.length : Int) := by omega
          have hw2 := wrap_two y (by omega)
          have hrow := ho.1.stored k (.int .i64 ((X ||| 2 ^ y : Nat) : Int))
          have hhk := hh.go (show Below wr.heap.size wr wr from Below.refl _ _)
          have Ho3 := Lib.hid ho
          have Hh := Lib.hid hh
          have HG1 := Lib.hid hG1
          have HG0 := Lib.hid hG0
          have Hval := Lib.hid (show bits .or .i64 (X : Int) (wrap64 ((2 : Int) ^ y)) = ((X ||| 2 ^ y : Nat) : Int) by rw [hw2]; exact o1)
          have Hsn := Lib.hid hsn
          clear ho hh hG1 hG0 hw2 o1 hst hsn hX hy hrow hhk hGk hcell hmem
          go_wp2
          go_region
          all_goals
            go_wp2
            rw [Hval.out]
            have Hset := Lib.hid (Ho3.out.set k (X ||| 2 ^ y) (by have := Hg.out; omega))
            have hgr : wr.grownBy (wr.setCell ⟨g, k, none⟩ (.int .i64 ((X ||| 2 ^ y : Nat) : Int))) (some g) := (Ho3.out.1.stored k (.int .i64 ((X ||| 2 ^ y : Nat) : Int))).2
            go_roundw
            case rel => exact ⟨m + 1, _, by omega, by go_num, Hset.out, fun j hj => by rw [if_neg (by omega)]; exact HG1.out j hj, fun j hj => by rw [if_neg (by omega)]; exact HG0.out j hj, by rw [if_pos rfl, Hsn.out], (Hh.out.grown hgr (fun r e => by cases e; exact .inl hgw)).go (below_drewN (Below.refl _ _) 1), Nat.le_trans hs3 hgr.size⟩
            case measure => simp [intOf]; omega
        · obtain rfl : m = q := by omega
          have Ho3 := Lib.hid ho
          have hGa : G k = aboveM ss k := by rw [hGk, ← Hq.out, List.take_length]; rfl
          have HG1 := Lib.hid (show ∀ j, j < k + 1 → G j = aboveM ss j from fun j hj => by
            rcases (by omega : j < k ∨ j = k) with h | rfl
            · exact hG1 j h
            · exact hGa)
          have HG0 := Lib.hid (show ∀ j, k + 1 ≤ j → G j = 0 from fun j hj => hG0 j (by omega))
          clear ho hG1 hG0 hGk hh hGa
          go_wp2
          go_roundw
          case rel => exact ⟨k + 1, G, by omega, by go_num, Ho3.out, HG1.out, HG0.out⟩
          case measure => simp [intOf]; omega
    · obtain rfl : k = ss.length := by omega
      have hce := cellsF_ints ss.length F (aboveM ss) HF1.out
      have hown := Ho.out.1
      rw [hce] at hown
      have hln : (ints ((List.range ss.length).map (aboveM ss))).length = ss.length := by rw [ints_length]; simp
      have Hown := Lib.hid hown
      have Hln := Lib.hid hln
      clear hce hown hln
      go_wp2
      go_ret
      exact RetS.mk (f := id) (by rw [Hln.out]; omega) (by rw [Hln.out]; exact Hown.out) Ho.out.2

end Go.Proofs.Ytjboamhjfncgdaa
