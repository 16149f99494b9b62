/-
  firstPlan of the program.
-/
import Derived.Test.YtbcgglkgdjafiaaPlA
import Derived.Test.YtbcgglkgdjafiaaPlnB
import Derived.Test.YtbcgglkgdjafiaaMade
namespace Go.Proofs.Ytbcgglkgdjafiaa
open Go.RowKit

theorem fpInfo : (Try.prog.info? 3).map (fun i => (i.zero, i.size, i.bytes)) = some (some (.int .i64 0), 1, 8) := by kernel_rfl
def cntTo (n k : Nat) : List Int := firstP k ++ List.replicate (n - k) 0
theorem firstP_len (n : Nat) : (firstP n).length = n := by simp [firstP]
theorem cntTo_len {n k : Nat} (h : k ≤ n) : (cntTo n k).length = n := by simp [cntTo, firstP_len]; omega
theorem cntTo_zero (n : Nat) : cntTo n 0 = List.replicate n 0 := by simp [cntTo, firstP]
theorem cntTo_all (n : Nat) : cntTo n n = firstP n := by simp [cntTo]
theorem cntTo_succ {n k : Nat} (h : k < n) : cntTo n (k + 1) = (cntTo n k).set k (k : Int) := by
  unfold cntTo
  have h1 : firstP (k + 1) = firstP k ++ [(k : Int)] := by simp [firstP, List.range_succ]
  rw [h1, List.set_append_right _ _ (by rw [firstP_len]; omega), firstP_len, Nat.sub_self, show n - k = (n - (k + 1)) + 1 by omega, List.replicate_succ, List.set_cons_zero, List.append_assoc]
  rfl
set_option maxHeartbeats 2000000 in
theorem firstPlan_c (n : Nat) (hn : n ≤ 6) (w : World) :
    Calls Try.prog 41 #[.int .i64 n] w fun e w' => ∃ b : Nat, e = .returned (.slice (some ⟨b, 0, none⟩) n n) ∧ w.heap.size ≤ b ∧ PlAt w' b (firstP n) ∧ Below w.heap.size w w' := by
  obtain ⟨i0, hi, hz0, hz1, hz2⟩ := info_parts fpInfo
  have HMI := Lib.hid (made_ints n)
  go_enter Try.func41, Try.ntmps41
  go_wp2_with (at_make; refine wpList_make_full _ rfl (.tmp 5) (.tmp 5) 33 rfl w.heap.size 3 i0 (.int .i64 0) 1 Try.underlying33 hi hz0 hz1 .i64 .i64 _ _ n rfl rfl rfl rfl (by rw [hz2]; omega) (by unfold maxLen; omega) (Nat.le_refl _) ?_; intro w1 hown hg1)
  rw [HMI.out, ← cntTo_zero] at hown
  have hb1 : Below w.heap.size w w1 := (Below.refl _ _).grown hg1 (Nat.le_refl _) (by simp)
  obtain ⟨B, hB⟩ : ∃ B, B = w.heap.size := ⟨_, rfl⟩
  rw [← hB] at hown hb1 ⊢
  have hhB : w.heap.size ≤ B := by omega
  have HB := Lib.hid hB
  have HO := Lib.hid hown
  have Hb1 := Lib.hid hb1
  clear hB hg1 hown hb1
  go_wp2
  go_loopw [9] (fun i wr => ∃ k : Nat, k ≤ n ∧ i = .int .i64 k ∧ wr.ownsRow B 3 1 (.slice (some ⟨B, 0, none⟩) n n) n ((cntTo n k).map (Value.int .i64)) ∧ Below B w wr) (fun i _ => n - (intOf i).toNat)
  case atStart => exact ⟨0, Nat.zero_le _, rfl, HO.out, Hb1.out⟩
  case round =>
    obtain ⟨k, hk, rfl, hok, hbk⟩ := hrel
    by_cases hlt : k < n
    · have hst := hok.stored k (.int .i64 k)
      rw [← List.map_set, ← cntTo_succ hlt] at hst
      have hck := hok.cellAt k (by omega)
      have hfk := hok.frozenAt k
      obtain ⟨u, hu⟩ : ∃ u, (cntTo n k)[k]? = some u := ⟨(cntTo n k)[k]'(by rw [cntTo_len hk]; exact hlt), List.getElem?_eq_getElem _⟩
      rw [List.getElem?_map, hu] at hck
      simp only [Option.map_some] at hck
      have Hst := Lib.hid hst
      have Hbk := Lib.hid hbk
      have g1 : (k : Int) < (n : Int) := by omega
      clear hst hok hu hbk
      go_wp2
      go_roundw
      case rel => exact ⟨k + 1, by omega, by go_num, Hst.out.1, Hbk.out.setCell (p := ⟨B, k, none⟩) (Nat.le_refl _) _⟩
      case measure => simp [intOf]; omega
    · obtain rfl : k = n := by omega
      rw [cntTo_all] at hok
      have HK := Lib.hid hok
      have Hbk := Lib.hid hbk
      clear hok hbk
      go_wp2
      go_ret
      have h9 := PlAt.of_own HK.out
      exact ⟨B, rfl, hhB, h9.1, by rw [← HB.out]; exact Hbk.out⟩

end Go.Proofs.Ytbcgglkgdjafiaa
