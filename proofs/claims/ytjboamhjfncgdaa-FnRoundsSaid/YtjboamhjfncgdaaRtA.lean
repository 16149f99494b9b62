/-
  RouteAbove and ChartCrossings of the program. (Written by a program of mine, gen9a.py.)
-/
import Derived.Test.YtjboamhjfncgdaaRtI
namespace Go.Proofs.Ytjboamhjfncgdaa
open Go.RowKit

theorem chart_all {R : List Rot} (h : chartB R = true) {l : List Nat} (hl : ∀ i ∈ l, i < R.length) : ∀ i ∈ l, RtIn (rotAt R i) := fun i hi => chart_in h (hl i hi)
theorem range_lt {k m n : Nat} (h : k + m = n) : ∀ i ∈ List.range' k m, i < n := fun i hi => by have := List.mem_range'_1.1 hi; omega

set_option maxRecDepth 100000 in
set_option maxHeartbeats 4000000 in
theorem implRouteAbove_b (A : Option Addr) (c : Nat) (ss : List Rot) (kk : Int) (w : World) (ha : ArgK w A c ss) :
    Calls Try.prog 44 #[.slice A ss.length c, .int .i64 kk] w (RetS 3 id (abvV ss kk) w) := by
  have HA := Lib.hid ha
  clear ha
  go_enter Try.func44, Try.ntmps44
  go_wp2_with fail
  refine (hasRoute_c _ _ _ _ _ HA.out).mono ?_
  rintro e w1 ⟨rfl, hb⟩
  have Hb := Lib.hid hb
  clear hb
  cases e1 : hasR ss kk
  · have Hv := Lib.hid (abvV_no e1)
    clear e1
    go_wp2
    go_ret
    rw [Hv.out]
    exact RetS.nil (f := id) Hb.out
  obtain ⟨k1, k2, k3⟩ := hasR_true.1 e1
  obtain ⟨k, rfl⟩ : ∃ k : Nat, kk = (k : Int) := ⟨kk.toNat, by omega⟩
  have hlt : k < ss.length := by omega
  have h8 := chart_len k1
  have hv : abvV ss (k : Int) = ints ((List.range' (k + 1) (ss.length - (k + 1))).filter fun i => crB (rotAt ss i) (rotAt ss k)) := abvV_yes e1
  obtain ⟨b, off, rfl, hat⟩ := argK_at HA.out hlt
  have Hat := Lib.hid hat
  have HF := Lib.hid (fun w ha => routesFrom_c (some ⟨b, off, none⟩) c ss h8 (ss.length - (k + 1)) (k + 1) (by omega) w ha)
  have e2 : ((k + 1 : Nat) : Int) = (k : Int) + 1 := by omega
  rw [e2] at HF
  obtain ⟨l, hl⟩ : ∃ l, List.range' (k + 1) (ss.length - (k + 1)) = l := ⟨_, rfl⟩
  have hin : ∀ i ∈ l, RtIn (rotAt ss i) := chart_all k1 (by rw [← hl]; exact range_lt (by omega))
  have hl8 : l.length ≤ 8 := by rw [← hl]; simp; omega
  rw [hl] at HF hv
  have hm := fun w => ac_meth ss l w
  have hn := fun w => ac_nil ss l w
  have hk := fun args w => ac_call l args w
  have HC := Lib.hid (fun w => across_c ss (rotAt ss k) (chart_in k1 hlt) l hin hl8 w)
  obtain ⟨s, hs⟩ : ∃ s, rotAt ss k = s := ⟨_, rfl⟩
  obtain ⟨T, hT⟩ : ∃ T, tyR l = T := ⟨_, rfl⟩
  obtain ⟨V, hV⟩ : ∃ V, pay ss l = V := ⟨_, rfl⟩
  obtain ⟨g, hg⟩ : ∃ g, acF l = g := ⟨_, rfl⟩
  unfold restV at HF
  rw [hT, hV, hg] at hm
  rw [hT, hV] at hn HF
  rw [hg] at hk
  rw [hV, hg, hs] at HC
  rw [hs] at Hat hv
  unfold Rot.v at HC
  obtain ⟨Z, hZ⟩ : ∃ Z, l.filter (fun i => crB (rotAt ss i) s) = Z := ⟨_, rfl⟩
  rw [hZ] at hv HC
  have Hv := Lib.hid hv
  have g1 : (k : Int) < (ss.length : Int) := by omega
  have q1 : IntKind.i64.wrap ((k : Int) + 1) = (k : Int) + 1 := IntWalk.i64_in _ (by omega)
  clear hat hv hs hT hV hg hZ hl hin hl8 e1 e2 k1 k2 k3
  go_wp2
  refine wp_region_held_drew (S := (fun W => Below w.heap.size w W)) (by kernel_rfl) (below_drewN Hb.out 1) (fun hHeld => ?_)
  refine wpAnyH_take (i := 0) (oi := { dst := some 9, op := _, type := _, pos := _, after := _, guard := _ }) (v := ?va0) rfl (by kernel_rfl) (by kernel_rfl) (by kernel_rfl) (fun _ _ _ h => h) (Or.inl ⟨by kernel_rfl, ?ya0⟩) (by assumption) ?ra0
  case ya0 => intro w hSw; (try dsimp only at hSw); go_simp; try with_reducible rfl
  try simp only [Act.put, List.setIfInBounds_toArray, List.set_cons_zero, List.set_cons_succ]
  refine wpAnyH_take (i := 1) (oi := { dst := some 10, op := _, type := _, pos := _, after := _, guard := _ }) (v := ?va1) rfl (by kernel_rfl) (by kernel_rfl) (by kernel_rfl) (fun _ _ _ h => h) (Or.inl ⟨by kernel_rfl, ?ya1⟩) (by assumption) ?ra1
  case ya1 => intro w hSw; (try dsimp only at hSw); go_simp; try with_reducible rfl
  try simp only [Act.put, List.setIfInBounds_toArray, List.set_cons_zero, List.set_cons_succ]
  refine wpAnyH_take (i := 2) (oi := { dst := some 11, op := _, type := _, pos := _, after := _, guard := _ }) (v := ?va2) rfl (by kernel_rfl) (by kernel_rfl) (by kernel_rfl) (fun _ _ _ h => h) (Or.inl ⟨by kernel_rfl, ?ya2⟩) (by assumption) ?ra2
  case ya2 => intro w hSw; (try dsimp only at hSw); go_simp; try with_reducible rfl
  try simp only [Act.put, List.setIfInBounds_toArray, List.set_cons_zero, List.set_cons_succ]
  refine wpAnyH_take (i := 4) (oi := { dst := some 13, op := _, type := _, pos := _, after := _, guard := _ }) (v := ?va4) rfl (by kernel_rfl) (by kernel_rfl) (by kernel_rfl) (fun _ _ _ h => h) (Or.inl ⟨by kernel_rfl, ?ya4⟩) (by assumption) ?ra4
  case ya4 => intro w hSw; (try dsimp only at hSw); go_simp; try with_reducible rfl
  try simp only [Act.put, List.setIfInBounds_toArray, List.set_cons_zero, List.set_cons_succ]
  refine wpAnyH_take (i := 5) (oi := { dst := some 14, op := _, type := _, pos := _, after := _, guard := _ }) (v := ?va5) rfl (by kernel_rfl) (by kernel_rfl) (by kernel_rfl) (fun _ _ _ h => h) (Or.inl ⟨by kernel_rfl, ?ya5⟩) (by assumption) ?ra5
  case ya5 => intro w hSw; (try dsimp only at hSw); go_simp; try with_reducible rfl
  try simp only [Act.put, List.setIfInBounds_toArray, List.set_cons_zero, List.set_cons_succ]
  refine wpAnyH_take (i := 6) (oi := { dst := some 15, op := _, type := _, pos := _, after := _, guard := _ }) (v := ?va6) rfl (by kernel_rfl) (by kernel_rfl) (by kernel_rfl) (fun _ _ _ h => h) (Or.inl ⟨by kernel_rfl, ?ya6⟩) (by assumption) ?ra6
  case ya6 => intro w hSw; (try dsimp only at hSw); go_simp; try with_reducible rfl
  try simp only [Act.put, List.setIfInBounds_toArray, List.set_cons_zero, List.set_cons_succ]
  refine wpAnyH_take (i := 7) (oi := { dst := some 16, op := _, type := _, pos := _, after := _, guard := _ }) (v := ?va7) rfl (by kernel_rfl) (by kernel_rfl) (by kernel_rfl) (fun _ _ _ h => h) (Or.inl ⟨by kernel_rfl, ?ya7⟩) (by assumption) ?ra7
  case ya7 => intro w hSw; obtain ⟨c0, c1, c2, c3⟩ := Hat.out _ hSw; (try dsimp only at hSw); go_simp; try with_reducible rfl
  try simp only [Act.put, List.setIfInBounds_toArray, List.set_cons_zero, List.set_cons_succ]
  refine wpAnyH_ready (rs := [3]) (by kernel_rfl) (by simp) ?_
  refine AllReadyH.cons (o := { dst := some 12, op := _, type := _, pos := _, after := _, guard := _ }) rfl (fun K hK => ?_) AllReadyH.nil
  go_simp
  refine (HF.out _ (HA.out.go (by assumption))).mono ?_
  rintro e w2 ⟨rfl, hb2⟩
  go_wp2_with fail
  refine hK.out _ _ (below_step hHeld hb2) (fun hHeld2 => ?_)
  clear hK K
  try simp only [Act.put, List.setIfInBounds_toArray, List.set_cons_zero, List.set_cons_succ]
  refine wpAnyH_take (i := 8) (oi := { dst := some 17, op := _, type := _, pos := _, after := _, guard := _ }) (v := ?vb8) rfl (by kernel_rfl) (by kernel_rfl) (by kernel_rfl) (fun _ _ _ h => h) (Or.inl ⟨by kernel_rfl, ?yb8⟩) (by assumption) ?rb8
  case yb8 => intro w hSw; (try dsimp only at hSw); go_simp; try with_reducible rfl
  try simp only [Act.put, List.setIfInBounds_toArray, List.set_cons_zero, List.set_cons_succ]
  refine wpAnyH_take (i := 9) (oi := { dst := some 18, op := _, type := _, pos := _, after := _, guard := _ }) (v := ?vb9) rfl (by kernel_rfl) (by kernel_rfl) (by kernel_rfl) (fun _ _ _ h => h) (Or.inl ⟨by kernel_rfl, ?yb9⟩) (by assumption) ?rb9
  case yb9 => intro w hSw; (try dsimp only at hSw); go_simp; try with_reducible rfl
  try simp only [Act.put, List.setIfInBounds_toArray, List.set_cons_zero, List.set_cons_succ]
  refine wpAnyH_take (i := 10) (oi := { dst := some 19, op := _, type := _, pos := _, after := _, guard := _ }) (v := ?vb10) rfl (by kernel_rfl) (by kernel_rfl) (by kernel_rfl) (fun _ _ _ h => h) (Or.inl ⟨by kernel_rfl, ?yb10⟩) (by assumption) ?rb10
  case yb10 => intro w hSw; (try dsimp only at hSw); go_simp; try with_reducible rfl
  try simp only [Act.put, List.setIfInBounds_toArray, List.set_cons_zero, List.set_cons_succ]
  refine wpAnyH_ready (rs := [11]) (by kernel_rfl) (by simp) ?_
  refine AllReadyH.cons (o := { dst := some 20, op := _, type := _, pos := _, after := _, guard := _ }) rfl (fun K hK => ?_) AllReadyH.nil
  go_simp
  refine (HC.out _).mono ?_
  rintro e w3 ⟨A3, c3, rfl, ra3, ro3, rb3⟩
  have Ra := Lib.hid ra3
  have Ro := Lib.hid (ro3.more hHeld2.size (Nat.le_refl _))
  clear ra3 ro3
  dsimp only [id]
  go_wp2_with fail
  refine hK.out _ _ (below_step hHeld2 rb3) (fun hHeld3 => ?_)
  clear hK K
  try simp only [Act.put, List.setIfInBounds_toArray, List.set_cons_zero, List.set_cons_succ]
  refine wpAnyH_take (i := 12) (oi := { dst := some 4, op := _, type := _, pos := _, after := _, guard := _ }) (v := ?vc12) rfl (by kernel_rfl) (by kernel_rfl) (by kernel_rfl) (fun _ _ _ h => h) (Or.inl ⟨by kernel_rfl, ?yc12⟩) (by assumption) ?rc12
  case yc12 => intro w hSw; (try dsimp only at hSw); go_simp; try with_reducible rfl
  try simp only [Act.put, List.setIfInBounds_toArray, List.set_cons_zero, List.set_cons_succ]
  refine wpAnyH_done (by kernel_rfl) ?_ _
  go_wp2
  go_ret
  rw [Hv.out]
  exact ⟨A3, c3, rfl, Ra.out, Ro.out, hHeld3⟩

def above_len (R : List Rot) (k : Nat) : Nat := (abvN R k).length
set_option maxRecDepth 100000 in
set_option maxHeartbeats 2000000 in
theorem implChartCrossings_b (A : Option Addr) (c : Nat) (ss : List Rot) (w : World) (ha : ArgK w A c ss) :
    Calls Try.prog 31 #[.slice A ss.length c] w (RetB (.int .i64 (crsV ss)) w) := by
  have HA := Lib.hid ha
  clear ha
  go_enter Try.func31, Try.ntmps31
  go_wp2_with fail
  refine (implChartValid_b _ _ _ _ HA.out).mono ?_
  rintro e w1 ⟨rfl, hb⟩
  have Hb1 := Lib.hid hb
  clear hb
  cases e1 : chartB ss
  · have Hv := Lib.hid (crsV_no e1)
    clear e1
    go_wp2
    go_ret
    exact ⟨by rw [Hv.out]; rfl, Hb1.out⟩
  have h8 := chart_len e1
  have hv : crsV ss = ((sumTo (above_len ss) ss.length : Nat) : Int) := by rw [crsV_yes e1, ← crs_abv]; rfl
  have Hv := Lib.hid hv
  have HR := Lib.hid (fun (k : Nat) (hk : k < ss.length) => (show abvV ss (k : Int) = ints (abvN ss k) from abvV_yes (hasR_nat e1 hk)))
  clear e1 hv
  go_wp2
  go_loopw [3, 10] (fun x i wr => ∃ k : Nat, k ≤ ss.length ∧ i = .int .i64 k ∧ x = .int .i64 (sumTo (above_len ss) k : Nat) ∧ Below w.heap.size w wr) (fun _ i _ => ss.length - (intOf i).toNat)
  case atStart => exact ⟨0, Nat.zero_le _, rfl, rfl, Hb1.out⟩
  case round =>
    obtain ⟨k, hk, rfl, rfl, hb⟩ := hrel
    have Hb := Lib.hid hb
    clear hb
    have hle : sumTo (above_len ss) k ≤ k * 8 := sumTo_le fun j _ => Nat.le_trans (abvN_len ss j) h8
    have hs1 := sumTo_succ (above_len ss) k
    have hb1 : above_len ss k ≤ 8 := Nat.le_trans (abvN_len ss k) h8
    by_cases hlt : k < ss.length
    · have g1 : (k : Int) < (ss.length : Int) := by omega
      have HR2 := Lib.hid (HR.out k hlt)
      have HL : (ints (abvN ss k)).length = above_len ss k := ints_length _
      obtain ⟨X, hX⟩ : ∃ X, sumTo (above_len ss) k = X := ⟨_, rfl⟩
      obtain ⟨Y, hY⟩ : ∃ Y, above_len ss k = Y := ⟨_, rfl⟩
      obtain ⟨Z, hZ⟩ : ∃ Z, sumTo (above_len ss) (k + 1) = Z := ⟨_, rfl⟩
      have HX := Lib.hid hX
      have HZ := Lib.hid hZ
      rw [hX, hY, hZ] at hs1
      rw [hX] at hle
      rw [hY] at hb1 HL
      rw [hX]
      have q1 : IntKind.i64.wrap ((X : Int) + (Y : Int)) = ((X + Y : Nat) : Int) := by rw [IntWalk.i64_in _ (by omega)]; omega
      have HS := Lib.hid hs1
      have HL2 := Lib.hid HL
      have q2 : IntKind.i64.wrap ((X : Int) + ((ints (abvN ss k)).length : Int)) = ((X + Y : Nat) : Int) := by rw [HL]; exact q1
      clear hX hY hZ hs1 HL
      go_wp2_with fail
      refine (implRouteAbove_b A c ss (k : Int) _ (HA.out.go Hb.out)).mono ?_
      rintro e w2 ⟨A2, c2, rfl, _, _, hb2⟩
      dsimp only [id]
      rw [HR2.out]
      have Hb2 := Lib.hid (below_step Hb.out hb2)
      clear hb2
      go_wp2
      go_roundw
      case rel => exact ⟨k + 1, by omega, by go_num, by rw [HZ.out, HS.out, Int.natCast_add], Hb2.out⟩
      case measure => simp [intOf]; omega
    · obtain rfl : k = ss.length := by omega
      go_wp2
      go_ret
      exact ⟨by rw [Hv.out]; rfl, Hb.out⟩

end Go.Proofs.Ytjboamhjfncgdaa
