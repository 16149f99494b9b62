/-
  The laws' toIntS over lists of ints.
-/
import Derived.Test.YtjboamhjfncgdaaBaseQ
namespace Go.Proofs.Ytjboamhjfncgdaa
open Go.RowKit

set_option maxHeartbeats 400000 in
theorem toIntS_c (A : Option Addr) (c : Nat) (zs : List Int) (w : World) (ha : Arg w A c zs) :
    Calls Try.prog 52 #[.slice A zs.length c] w (RetS 3 id zs w) := by
  obtain ⟨hl, _, _, hr⟩ := ha
  have hh : w.heap.size ≤ w.heap.size := Nat.le_refl _
  obtain ⟨i0, hi, hz0, hz1, hz2⟩ := info_parts int_info
  have hmi := made_ints zs.length
  have HMI := Lib.hid hmi
  clear hmi
  go_enter Try.func52, Try.ntmps52
  go_wp2_with (at_make; refine wpList_make_full _ rfl (.tmp 6) (.tmp 6) 25 rfl w.heap.size 3 i0 (.int .i64 0) 1 Try.underlying25 hi hz0 hz1 .i64 .i64 _ _ zs.length rfl rfl rfl rfl (by rw [hz2]; omega) (by unfold maxLen; omega) (Nat.le_refl _) ?_; intro w1 hown hg1)
  rw [HMI.out, ← copyTo_zero] at hown
  have hb1 : Below w.heap.size w w1 := (Below.refl _ _).grown hg1 (Nat.le_refl _) (by simp)
  obtain ⟨B, hB⟩ : ∃ B, B = w.heap.size := ⟨_, rfl⟩
  rw [← hB] at hown hb1 ⊢
  have hhB : w.heap.size ≤ B := by omega
  have HB := Lib.hid hB
  clear hB hg1
  go_loopw [4] (fun i wr => ∃ k : Nat, k ≤ zs.length ∧ i = .int .i64 k ∧ wr.ownsRow B 3 1 (.slice (some ⟨B, 0, none⟩) zs.length zs.length) zs.length ((copyTo zs k).map (Value.int .i64)) ∧ Below B w wr) (fun i _ => zs.length - (intOf i).toNat)
  case atStart => exact ⟨0, Nat.zero_le _, rfl, hown, hb1⟩
  case round =>
    obtain ⟨k, hk, rfl, hok, hbk⟩ := hrel
    by_cases hlt : k < zs.length
    · obtain ⟨b, off, rfl, _, hbh, hc⟩ := (hr.below (hbk.mono hhB)).at_ hlt
      have R1 := Lib.hid hr
      have Hown := Lib.hid hown
      have Hb1 := Lib.hid hb1
      clear hr hown hb1
      have e0 : zs[k]?.getD 0 = zs[k] := by simp [hlt]
      rw [e0] at hc
      have hst := hok.stored k (.int .i64 zs[k])
      rw [← List.map_set, copyTo_set zs hlt] at hst
      have hck := hok.cellAt k (by omega)
      have hfk := hok.frozenAt k
      rw [List.getElem?_map, List.getElem?_eq_getElem (by rw [copyTo_length zs hk]; exact hlt)] at hck
      simp only [Option.map_some] at hck
      have Hst := Lib.hid hst
      have Hok := Lib.hid hok
      clear hst hok e0
      go_wp2
      go_roundw
      case rel => exact ⟨k + 1, by omega, by go_num, Hst.out.1, hbk.setCell (p := ⟨B, k, none⟩) (Nat.le_refl _) _⟩
      case measure => simp [intOf]; omega
    · obtain rfl : k = zs.length := by omega
      rw [copyTo_all] at hok
      go_wp2
      go_ret
      exact RetS.mk (f := id) hl (by rw [← HB.out]; exact hok) (by rw [← HB.out]; exact hbk)

/-! ### markIntS writes k, k + 1, .. into a slice; heldIntS asks whether it holds them -/

end Go.Proofs.Ytjboamhjfncgdaa
