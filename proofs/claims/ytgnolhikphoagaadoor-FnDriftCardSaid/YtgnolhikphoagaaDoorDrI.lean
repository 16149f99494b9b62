/-
  driftAtEnd and SignalDrift of the program.
-/
import Derived.Test.YtgnolhikphoagaaDoorVaI
import Derived.Test.YtgnolhikphoagaaDoorMade
import Derived.Test.YtgnolhikphoagaaDoorStkA
namespace Go.Proofs.YtgnolhikphoagaaDoor
open Go.RowKit

/-- the drifts as they are filled in -/
def drZ (l : List UInt8) (N k : Nat) : List Int := driT l k ++ List.replicate (N - k) 0
theorem drZ_len (l : List UInt8) (N k : Nat) (h : k ≤ N) : (drZ l N k).length = N := by simp [drZ, driT_len]; omega
theorem drZ_zero (l : List UInt8) (N : Nat) : drZ l N 0 = List.replicate N 0 := by simp [drZ, driT]
theorem drZ_all (l : List UInt8) (N : Nat) : drZ l N N = driT l N := by simp [drZ]
theorem drZ_set (l : List UInt8) (N k : Nat) (h : k < N) : (drZ l N k).set k (driV (l.take (k + 1))) = drZ l N (k + 1) := by
  unfold drZ
  rw [driT_succ, List.set_append_right _ _ (by rw [driT_len]; exact Nat.le_refl _), driT_len, Nat.sub_self, show N - k = (N - (k + 1)) + 1 by omega, List.replicate_succ]
  simp

set_option maxHeartbeats 400000 in
theorem driftAtEnd_c (s : ByteArray) (w : World) (hs : s.size ≤ 1048576) : Calls Tryd.prog 51 #[.string s] w fun e w' => e = .returned (.int .i64 (driV (byL s))) ∧ w = w' := by
  have h1 : (byL s).count 43 ≤ s.size := by rw [← byL_len]; exact List.count_le_length
  have h2 : (byL s).count 45 ≤ s.size := by rw [← byL_len]; exact List.count_le_length
  have c1 := fun w => (show Calls Tryd.prog 79 #[.string s, .string ⟨#[43]⟩] w fun e w' => e = .returned (.int .i64 ((byL s).count 43 : Nat)) ∧ w' = w from Tryd.strings_Count_one s 43 w)
  have c2 := fun w => (show Calls Tryd.prog 79 #[.string s, .string ⟨#[45]⟩] w fun e w' => e = .returned (.int .i64 ((byL s).count 45 : Nat)) ∧ w' = w from Tryd.strings_Count_one s 45 w)
  have HV := Lib.hid (show driV (byL s) = (((byL s).count 43 : Nat) : Int) - (((byL s).count 45 : Nat) : Int) from rfl)
  obtain ⟨x, hx⟩ : ∃ x, (byL s).count 43 = x := ⟨_, rfl⟩
  obtain ⟨y, hy⟩ : ∃ y, (byL s).count 45 = y := ⟨_, rfl⟩
  simp only [hx] at c1 h1 HV
  simp only [hy] at c2 h2 HV
  have C1 := Lib.hid c1
  have C2 := Lib.hid c2
  clear c1 c2 hx hy
  go_enter Tryd.func51, Tryd.ntmps51
  go_wp2_with fail
  refine (C1.out _).mono ?_
  rintro e w1 ⟨rfl, rfl⟩
  go_wp2_with fail
  refine (C2.out _).mono ?_
  rintro e w2 ⟨rfl, rfl⟩
  go_wp2
  go_ret
  exact ⟨by rw [HV.out]; rfl, rfl⟩

set_option maxHeartbeats 2000000 in
theorem implSignalDrift_b (s : ByteArray) (w : World) (hs : s.size ≤ 1048576) : Calls Tryd.prog 21 #[.string s] w (RetS 3 (fun v => .tuple #[v, .bool (sigB (byL s))]) (driL (byL s)) w) := by
  have HS := Lib.hid (fun w => implSignalValid_b s w hs)
  cases h1 : sigB (byL s)
  · have HV := Lib.hid (driL_no h1)
    rw [h1] at HS
    clear h1
    go_enter Tryd.func21, Tryd.ntmps21
    go_wp2_with fail
    refine (HS.out _).mono ?_
    rintro e w1 ⟨rfl, hb1⟩
    have Hb1 := Lib.hid hb1
    clear hb1
    go_wp2
    go_ret2
    rw [HV.out]
    exact RetS.nil (f := fun v => .tuple #[v, .bool false]) Hb1.out
  · have h80 := sigB_len h1
    have HV := Lib.hid (driL_yes h1)
    rw [h1] at HS
    obtain ⟨i0, hi, hz0, hz1, hz2⟩ := info_parts int_info
    have HMI := Lib.hid (made_ints s.size)
    clear h1
    go_enter Tryd.func21, Tryd.ntmps21
    go_wp2_with fail
    refine (HS.out _).mono ?_
    rintro e w1 ⟨rfl, hb1⟩
    have Hb1 := Lib.hid hb1
    have hs1 := hb1.size
    clear hb1
    go_wp2_with (at_make; refine wpList_make_full _ rfl (.tmp 10) (.tmp 10) 31 rfl w1.heap.size 3 i0 (.int .i64 0) 1 Tryd.underlying31 hi hz0 hz1 .i64 .i64 _ _ s.size rfl rfl rfl rfl (by rw [hz2]; omega) (by unfold maxLen; omega) (Nat.le_refl _) ?_; intro w2 hown hg1)
    rw [HMI.out, ← drZ_zero (byL s)] at hown
    have hb1 : Below w1.heap.size w1 w2 := (Below.refl _ _).grown hg1 (Nat.le_refl _) (by simp)
    obtain ⟨B, hB⟩ : ∃ B, B = w1.heap.size := ⟨_, rfl⟩
    rw [← hB] at hown hb1 ⊢
    have HBe := Lib.hid hB
    have Hown := Lib.hid hown
    have Hb2 := Lib.hid hb1
    clear hB hg1 hown hb1 hi hz0 hz1 hz2
    go_loopw [14] (fun i wr => ∃ k : Nat, k ≤ s.size ∧ i = .int .i64 k ∧ wr.ownsRow B 3 1 (.slice (some ⟨B, 0, none⟩) s.size s.size) s.size ((drZ (byL s) s.size k).map (Value.int .i64)) ∧ Below B w1 wr) (fun i _ => s.size - (intOf i).toNat)
    case atStart => exact ⟨0, Nat.zero_le _, rfl, Hown.out, Hb2.out⟩
    case round =>
      clear Hown Hb2
      obtain ⟨k, hk, rfl, hok, hbk⟩ := hrel
      have Hbk := Lib.hid hbk
      have Hok := Lib.hid hok
      clear hbk hok
      by_cases hlt : k < s.size
      · have hzl := drZ_len (byL s) s.size k (by omega)
        have hzs := drZ_set (byL s) s.size k hlt
        obtain ⟨x, hx⟩ : ∃ x, s.extract 0 (k + 1) = x := ⟨_, rfl⟩
        have zx : x.size ≤ 1048576 := by rw [← hx, ByteArray.size_extract]; omega
        have hbx : byL x = (byL s).take (k + 1) := by rw [← hx, byL_extract, List.drop_zero]
        have hc := fun w => driftAtEnd_c x w zx
        rw [hbx] at hc
        obtain ⟨d, hd⟩ : ∃ d, driV ((byL s).take (k + 1)) = d := ⟨_, rfl⟩
        rw [hd] at hc hzs
        have HC := Lib.hid hc
        obtain ⟨y, hy⟩ : ∃ y, drZ (byL s) s.size k = y := ⟨_, rfl⟩
        rw [hy] at hzl hzs
        have hok := Hok.out
        rw [hy] at hok
        have hky : k < y.length := by omega
        obtain ⟨g, cap, hform, hck, hfk, hgb, ho', hg'⟩ := own_put (by rw [hzl]; exact hok) hky d
        injection hform with e1 e2 e3
        injection e1 with e1
        injection e1 with e1 _ _
        subst e1
        clear e2
        obtain ⟨u0, hu0⟩ : ∃ u, y[k]'hky = u := ⟨_, rfl⟩
        rw [hu0] at hck
        clear hu0
        have hsl : (y.set k d).length = s.size := by rw [List.length_set]; exact hzl
        rw [hsl, hzs, ← e3] at ho'
        have Ho' := Lib.hid ho'
        have Hb' := Lib.hid (Hbk.out.setCell (p := ⟨B, k, none⟩) (Nat.le_refl _) (.int .i64 d))
        have g1 : (k : Int) < (s.size : Int) := by omega
        have g2 : (k : Int) + 1 ≤ (s.size : Int) := by omega
        have q1 : (0 : Int) ≤ (k : Int) := by omega
        have q3 : ((k : Int) + 1).toNat = k + 1 := by omega
        have q4 : (0 : Int) ≤ (k : Int) + 1 := by omega
        clear hc hbx hd hy hok hky e3 hgb hg' hsl hzs ho' hzl
        go_wp2_with fail
        refine (HC.out _).mono ?_
        rintro e w3 ⟨rfl, rfl⟩
        go_wp2
        go_roundw
        case rel => exact ⟨k + 1, by omega, by go_num, Ho'.out, Hb'.out⟩
        case measure => simp [intOf]; omega
      · obtain rfl : k = s.size := by omega
        have hok := Hok.out
        rw [drZ_all] at hok
        have Hok2 := Lib.hid hok
        have hbw : Below w.heap.size w wr := Hb1.out.trans (Hbk.out.mono (by rw [HBe.out]; exact hs1))
        have Hbw := Lib.hid hbw
        have Hlen := Lib.hid (driT_len (byL s) s.size)
        have HBl := Lib.hid (show w.heap.size ≤ B by rw [HBe.out]; exact hs1)
        clear hok hbw Hok
        go_wp2
        go_ret2
        rw [HV.out, byL_len]
        exact RetS.mk (f := fun v => .tuple #[v, .bool true]) (by rw [Hlen.out]; omega) (by rw [Hlen.out]; exact OwnsRow.more Hok2.out HBl.out) Hbw.out

end Go.Proofs.YtgnolhikphoagaaDoor
