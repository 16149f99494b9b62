/-
  countOf of the laws; the draws of forecasts with a number.
-/
import Derived.Test.YtbcgglkgdjafiaaDoorWDraw
import Derived.Test.YtbcgglkgdjafiaaDoorFcC
namespace Go.Proofs.YtbcgglkgdjafiaaDoor
open Go.RowKit

theorem op_take (L : List UInt8) (k : Nat) (h : k < L.length) (b : UInt8) (hb : L[k]? = some b) : opT L (k + 1) = opT L k + (if isO b then 1 else 0) := by
  rw [List.getElem?_eq_getElem h] at hb
  injection hb with hb
  rw [opT_succ L k h, hb]

set_option maxHeartbeats 1000000 in
theorem countOf_c (s : ByteArray) (hs : s.size ≤ 1000) (w : World) :
    Calls Tryd.prog 18 #[.string s, .int .u8 111] w fun e w' => e = .returned (.int .i64 (opT (byL s) s.size : Int)) ∧ w = w' := by
  go_enter Tryd.func18, Tryd.ntmps18
  go_wp2
  go_loop [5, 6] (fun q i => ∃ k : Nat, k ≤ s.size ∧ i = .int .i64 k ∧ q = .int .i64 (opT (byL s) k : Int)) (fun _ i => s.size - (intOf i).toNat)
  case atStart => exact ⟨0, Nat.zero_le _, rfl, by rw [opT_zero]; rfl⟩
  case round =>
    obtain ⟨k, hk, rfl, rfl⟩ := hrel
    by_cases hlt : k < s.size
    · have g1 : (k : Int) < (s.size : Int) := by omega
      have hon := op_take (byL s) k (by rw [byL_len]; exact hlt) s[k] (byL_at s k hlt)
      have hle := opT_le (byL s) k
      obtain ⟨x, hx⟩ : ∃ x, opT (byL s) k = x := ⟨_, rfl⟩
      obtain ⟨y, hy⟩ : ∃ y, opT (byL s) (k + 1) = y := ⟨_, rfl⟩
      rw [hx, hy] at hon
      rw [hx] at hle
      rw [hx]
      obtain ⟨b, hbb⟩ : ∃ b : UInt8, s[k] = b := ⟨_, rfl⟩
      rw [hbb] at hon
      by_cases e1 : b.toNat = 111
      · have hy2 : y = x + 1 := by rw [hon]; simp [isO, e1]
        have Hy := Lib.hid (hy.trans hy2)
        have e2 : ((b.toNat : Int) == 111) = true := by simp; omega
        clear hon hx hy hy2
        go_wp2
        go_round
        case rel => exact ⟨k + 1, by omega, by go_num, by rw [Hy.out]; go_num⟩
        case measure => simp [intOf]; omega
      · have hy2 : y = x := by rw [hon]; simp [isO, e1]
        have Hy := Lib.hid (hy.trans hy2)
        have e2 : ((b.toNat : Int) == 111) = false := by rw [beq_eq_false_iff_ne]; omega
        clear hon hx hy hy2
        go_wp2
        go_round
        case rel => exact ⟨k + 1, by omega, by go_num, by rw [Hy.out]⟩
        case measure => simp [intOf]; omega
    · obtain rfl : k = s.size := by omega
      go_wp2
      go_ret
      exact ⟨rfl, rfl⟩
theorem byL_one (s : ByteArray) (d : Nat) (h : d < s.size) : (s.extract d (d + 1)).size = 1 ∧ opT (byL (s.extract d (d + 1))) 1 + opT (byL s) d = opT (byL s) (d + 1) := by
  have hl := byL_len s
  have e : byL (s.extract d (d + 1)) = [s[d]] := by
    unfold byL
    rw [ByteArray.data_extract, Array.toList_extract]
    have h1 := byL_at s d h
    unfold byL at h1 hl
    rw [List.extract_eq_take_drop, show d + 1 - d = 1 by omega, List.drop_eq_getElem_cons (by rw [hl]; exact h)]
    rw [List.getElem?_eq_getElem (by rw [hl]; exact h)] at h1
    injection h1 with h1
    rw [h1]; rfl
  refine ⟨?_, ?_⟩
  · rw [← byL_len, e]; rfl
  · rw [e, op_take (byL s) d (by rw [hl]; exact h) _ (byL_at s d h), opT_cons, opT_nil]; omega

/-- what a drawn text with a number is -/
def RetTD (m : Nat) (lo hi : Int) (w : World) (e : Ending) (w' : World) : Prop :=
  ∃ (s : ByteArray) (d : Int), e = .returned (.tuple #[.string s, .int .i64 d]) ∧ s.size ≤ m ∧ lo ≤ d ∧ d ≤ hi ∧ Below w.heap.size w w'
theorem DrawForecastOpen_c (A : Option Addr) (n c : Nat) (w : World) (hn : n ≤ 9223372036854775807) (hnc : n ≤ c) (hb : Bytes w.heap.size w A n) :
    Calls Tryd.prog 15 #[.slice A n c] w (RetTD 13 (-1) 16 w) := by
  have Hb := Lib.hid hb
  clear hb
  go_enter Tryd.func15, Tryd.ntmps15
  go_wp2_with fail
  refine (l6Open_c A n c _ hn hnc Hb.out).mono ?_
  rintro e w1 ⟨n', c', rfl, hr1, hb1, hlt1⟩
  have Hr1 := Lib.hid hr1
  have Hb1 := Lib.hid hb1
  clear hr1 hb1
  go_wp2_with fail
  refine (l92Forecast_c _ A n' c' 0 12 _ Hr1.out hlt1 (by omega) (by omega)).mono ?_
  rintro e w2 ⟨s, q, rfl, hs, hr2, hq, hg2⟩
  have Hr2 := Lib.hid hr2
  have Hb2 := Lib.hid (Hb1.out.grown hg2 Hb1.out.size (fun r e => by injection e with e; omega))
  clear hr2 hg2
  have g1 : (s.size : Int) + 3 ≤ 20 := by omega
  have q1 : IntKind.i64.wrap ((s.size : Int) + 3) = (s.size : Int) + 3 := IntWalk.i64_in _ (by omega)
  go_wp2_with fail
  refine (pick_c _ A n' c' q ((s.size : Int) + 3) _ Hr2.out (by omega) (by omega) (by omega)).mono ?_
  rintro e w3 ⟨k, rfl, hk0, hk1, hr3, hg3⟩
  have Hb3 := Lib.hid (Hb2.out.grown hg3 Hb2.out.size (fun r e => by injection e with e; omega))
  clear hr3 hg3
  have q2 : IntKind.i64.wrap (k - 1) = k - 1 := IntWalk.i64_in _ (by omega)
  go_wp2
  go_ret2
  exact ⟨s, k - 1, rfl, by omega, by omega, by omega, Hb3.out⟩

end Go.Proofs.YtbcgglkgdjafiaaDoor
