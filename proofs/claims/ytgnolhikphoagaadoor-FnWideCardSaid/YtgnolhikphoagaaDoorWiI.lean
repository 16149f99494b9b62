/-
  SignalWide of the program.
-/
import Derived.Test.YtgnolhikphoagaaDoorDrI
import Derived.Test.YtgnolhikphoagaaDoorSgX
namespace Go.Proofs.YtgnolhikphoagaaDoor
open Go.RowKit

theorem own_cells {W : World} {base g cap : Nat} {e : TypeId} {xs : List Int} (h : W.ownsRow base e 1 (.slice (some ⟨g, 0, none⟩) xs.length cap) xs.length (xs.map (Value.int .i64))) :
    ∀ j, j < xs.length → W.cell? ⟨g, 0 + j, none⟩ = some (.int .i64 (xs.getD j 0)) := by
  intro j hj
  have := h.cells (g := g) rfl j (.int .i64 (xs.getD j 0)) (by simp [List.getD, hj])
  rwa [show (⟨g, 0, none⟩ : Addr).add j = ⟨g, 0 + j, none⟩ by unfold Addr.add; split <;> simp_all] at this

set_option maxHeartbeats 2000000 in
theorem implSignalWide_b (s : ByteArray) (w : World) (hs : s.size ≤ 1048576) : Calls Tryd.prog 25 #[.string s] w (RetB (.int .i64 (widV (byL s))) w) := by
  have HS := Lib.hid (fun w => implSignalDrift_b s w hs)
  cases h1 : sigB (byL s)
  · have HV := Lib.hid (widV_no h1)
    rw [h1] at HS
    clear h1
    go_enter Tryd.func25, Tryd.ntmps25
    go_wp2_with fail
    refine (HS.out _).mono ?_
    rintro e w1 ⟨A, c, rfl, ha, ho, hb1⟩
    have Hb1 := Lib.hid hb1
    clear hb1 ha ho
    dsimp only
    go_wp2
    go_ret
    exact ⟨by rw [HV.out]; rfl, Hb1.out⟩
  · have h80 := sigB_len h1
    have hv := widV_max h1
    rw [driL_yes h1] at HS
    rw [byL_len] at hv HS
    have hX := driT_len (byL s) s.size
    have hXb := driT_le (byL s) s.size (by rw [byL_len]; exact h80)
    rw [h1] at HS
    obtain ⟨X, hXX⟩ : ∃ X, driT (byL s) s.size = X := ⟨_, rfl⟩
    rw [hXX] at HS hv hX hXb
    have hm := maxOf_le X hXb
    have hn := minOf_le X hXb
    obtain ⟨i0, hi, hz0, hz1, hz2⟩ := info_parts int_info
    have HV := Lib.hid hv
    have HX := Lib.hid hX
    have hxl : X.length ≤ 80 := by omega
    clear h1 hv hXX hX hXb
    go_enter Tryd.func25, Tryd.ntmps25
    go_wp2_with fail
    refine (HS.out _).mono ?_
    rintro e w1 ⟨A, c, rfl, ha, ho, hb1⟩
    have Hb1 := Lib.hid hb1
    have hs1 := hb1.size
    have hok := ho.own
    have Ha := Lib.hid ha
    have Ho := Lib.hid ho
    clear hb1 ha ho
    dsimp only
    go_wp2_with (at_builtin; refine wpList_append_own _ rfl _ _ 31 rfl w.heap.size 3 i0 (.int .i64 0) 1 8 Tryd.underlying31 hi hz0 hz1 hz2 rfl (by decide) (.slice A X.length c) X.length _ rfl (hok.alloc _) ⟨w1.heap.size, 0, none⟩ 1 1 [.int .i64 0] rfl rfl (one_new _ _ _) (by simp [Value.oneCell']) (by unfold maxLen; omega) (by omega) (by simp; omega) ?_; intro v' w3 hown3 hg3 _; obtain ⟨g, cap, rfl⟩ := own_succ hown3)
    have hg : w.heap.size ≤ g ∧ g < w3.heap.size := hown3.lt g rfl
    have hbw : Below w.heap.size w w3 := (Hb1.out.alloc hs1 _).grown hg3 (by simp; omega) (fun r e => (hok.lt r e).1)
    have Hbw := Lib.hid hbw
    obtain ⟨Y, hY⟩ : ∃ Y, X ++ [0] = Y := ⟨_, rfl⟩
    have hYl : X.length + 1 = Y.length := by rw [← hY]; simp
    have hown4 : w3.ownsRow w.heap.size 3 1 (.slice (some ⟨g, 0, none⟩) Y.length cap) Y.length (Y.map (Value.int .i64)) := by
      rw [← hYl, ← hY, List.map_append]; exact hown3
    have hcell := own_cells hown4
    rw [hY] at hm hn HV
    rw [hYl]
    have hy0 : 0 < Y.length := by omega
    have hy1 : Y.length ≤ 81 := by omega
    have HM := Lib.hid (Tryd.slices_Max_int g 0 Y.length cap Y w3 hy0 (Nat.le_refl _) (by omega) hcell)
    have HN := Lib.hid (Tryd.slices_Min_int g 0 Y.length cap Y w3 hy0 (Nat.le_refl _) (by omega) hcell)
    rw [List.take_length] at HM HN
    obtain ⟨p, hp⟩ : ∃ p, Lib.maxOf Y = p := ⟨_, rfl⟩
    obtain ⟨q, hq⟩ : ∃ q, Lib.minOf Y = q := ⟨_, rfl⟩
    rw [hp] at hm HM HV
    rw [hq] at hn HN HV
    clear hY hYl hown4 hcell hown3 hg3 hok hbw hp hq hi hz0 hz1 hz2 hg
    go_wp2_with fail
    refine HM.out.mono ?_
    rintro e w4 ⟨rfl, rfl⟩
    go_wp2_with fail
    refine HN.out.mono ?_
    rintro e w5 ⟨rfl, rfl⟩
    go_wp2
    go_ret
    exact ⟨by rw [HV.out]; rfl, Hbw.out⟩

end Go.Proofs.YtgnolhikphoagaaDoor
