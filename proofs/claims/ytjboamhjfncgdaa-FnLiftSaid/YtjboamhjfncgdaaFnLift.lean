/-
  The law FnLift: for all codes the law answers true. No condition. (Written by a program of mine, gen9z.py.)
-/
import Derived.Test.YtjboamhjfncgdaaFac
import Derived.Test.YtjboamhjfncgdaaRowB
import Derived.Test.YtjboamhjfncgdaaHas
import Derived.Test.YtjboamhjfncgdaaCtL
import Derived.Test.YtjboamhjfncgdaaRtA
import Derived.Test.YtjboamhjfncgdaaRtE
import Derived.Test.YtjboamhjfncgdaaRtL
import Derived.Test.YtjboamhjfncgdaaRtW
import Derived.Deep.RegionHeld3
namespace Go.Proofs.Ytjboamhjfncgdaa
open Go.ChangeShapes Go.WideShapes Go.ChangeAt Go.RowKit

theorem swap_cellsL (T : List Int) (i : Nat) : (((T.map (Value.int .i64)).set i (.int .i64 (T[i + 1]?.getD 0))).set (i + 1) (.int .i64 (T[i]?.getD 0))) = (swapI T i).map (Value.int .i64) := by
  unfold swapI
  rw [List.map_set, List.map_set, List.set_comm _ _ (by omega)]
theorem lift_abv {R : List Rot} {O : List Int} (h : liftB R O = true) {i k : Nat} (hi : i < O.length) (hk : k < i) : decide (O[i]?.getD 0 ∈ abvV R (O[k]?.getD 0)) = false := by
  obtain ⟨a, b, ea, eb, ha, _, hab, _⟩ := lift_above h hi hk
  obtain ⟨h1, _, _⟩ := liftB_true.1 h
  rw [ea, eb, abvV_yes (hasR_nat h1 ha)]
  exact decide_eq_false fun hm => hab (by simpa [ints_mem] using hm)

set_option maxRecDepth 100000 in
set_option maxHeartbeats 8000000 in
theorem fnLift_in (A0 : Option Addr) (n0 c0 : Nat) (A1 : Option Addr) (n1 c1 : Nat) (w : World) (hl0 : n0 ≤ 1048576) (hc0 : n0 ≤ c0) (hb0 : Bytes w.heap.size w A0 n0) (hl1 : n1 ≤ 1048576) (_ : n1 ≤ c1) (_ : Bytes w.heap.size w A1 n1) :
    Calls Try.prog 21 #[.slice A0 n0 c0, .slice A1 n1 c1] w (RetB (.bool true) w) := by
  obtain ⟨i0, hi, hz0, hz1, hz2⟩ := info_parts intInf
  have Hb := Lib.hid hb0
  clear hb0
  have u0 : decide ((1048576 : Int) < (n0 : Int)) = false := by simp; omega
  have u1 : decide ((1048576 : Int) < (n1 : Int)) = false := by simp; omega
  go_enter Try.func21, Try.ntmps21
  go_wp2_with fail
  refine (DrawLiftValid_c A0 n0 c0 _ (by omega) hc0 Hb.out).mono ?_
  rintro e w1 ⟨B, d, zs, Bo, co, O, rfl, hzl, hol, hA, hO, hB⟩
  have Ha := Lib.hid hA
  have Ho := Lib.hid hO
  have Bt := Lib.hid hB
  clear hA hO hB Hb
  dsimp only
  go_wp2_with fail
  refine (implLiftValid_b B d zs Bo co O _ Ha.out Ho.out).mono ?_
  rintro e w2 ⟨rfl, hb2⟩
  replace Ha := Lib.hid (Ha.out.go hb2)
  replace Ho := Lib.hid (Ho.out.go hb2)
  replace Bt := Lib.hid (below_step Bt.out hb2)
  clear hb2
  dsimp only
  go_wp2_with fail
  refine (specLiftValid_b B d zs Bo co O _ Ha.out Ho.out).mono ?_
  rintro e w3 ⟨rfl, hb3⟩
  have HA := Lib.hid (Ha.out.go hb3)
  have HO := Lib.hid (Ho.out.go hb3)
  have Bt3 := Lib.hid (below_step Bt.out hb3)
  clear hb3 Ha Ho Bt
  dsimp only
  cases hv : liftB zs O
  · clear hv
    go_wp2
    go_ret
    exact ⟨rfl, Bt3.out⟩
  have Habv := Lib.hid (fun i k (h1 : i < O.length) (h2 : k < i) => lift_abv hv h1 h2)
  have Hswp := Lib.hid (fun k (h : k + 1 < O.length) => lift_swap hv h)
  clear hv
  go_wp2
  go_loopw [9] (fun i wr => ∃ j : Nat, j ≤ O.length ∧ i = .int .i64 j ∧ Below w3.heap.size w3 wr) (fun i _ => O.length - (intOf i).toNat)
  case atStart => exact ⟨0, Nat.zero_le _, rfl, Below.refl _ _⟩
  case round =>
    obtain ⟨i, hi2, rfl, hb⟩ := hrel
    have Hb := Lib.hid hb
    clear hb
    by_cases hlt : i < O.length
    · have g1 : (i : Int) < (O.length : Int) := by omega
      have q1 : IntKind.i64.wrap ((i : Int) + 1) = (i : Int) + 1 := IntWalk.i64_in _ (by omega)
      have e1 : ((i + 1 : Nat) : Int) = (i : Int) + 1 := by omega
      go_wp2
      go_loopw [10] (fun j wr => ∃ m : Nat, m ≤ i ∧ j = .int .i64 m ∧ Below w3.heap.size w3 wr) (fun j _ => i - (intOf j).toNat)
      case atStart => exact ⟨0, Nat.zero_le _, rfl, Hb.out⟩
      case round =>
        obtain ⟨m, hm, rfl, hb⟩ := hrel
        have Hb2 := Lib.hid hb
        clear hb
        by_cases hlt2 : m < i
        · have g2 : (m : Int) < (i : Int) := by omega
          have g3 : (m : Int) < (O.length : Int) := by omega
          have q2 : IntKind.i64.wrap ((m : Int) + 1) = (m : Int) + 1 := IntWalk.i64_in _ (by omega)
          have e2 : ((m + 1 : Nat) : Int) = (m : Int) + 1 := by omega
          obtain ⟨bT, offT, rfl, h0⟩ := argI_at HO.out (k := m) (by omega)
          obtain ⟨bT', offT', eb, h1⟩ := argI_at HO.out (k := i) hlt
          injection eb with eb
          injection eb with eb eo _
          subst eb
          subst eo
          have hf := Habv.out i m hlt hlt2
          obtain ⟨x, hx⟩ : ∃ x, O[m]?.getD 0 = x := ⟨_, rfl⟩
          obtain ⟨y, hy⟩ : ∃ y, O[i]?.getD 0 = y := ⟨_, rfl⟩
          rw [hx] at h0 hf
          rw [hy] at h1 hf
          have Hat0 := Lib.hid (fun W (h : Below w3.heap.size w3 W) => h0 W h)
          have Hat1 := Lib.hid (fun W (h : Below w3.heap.size w3 W) => h1 W h)
          have hhi := fun W A c h => hasInt_c A c (abvV zs x) y W h
          rw [hf] at hhi
          have Hhi := Lib.hid hhi
          have Hra := Lib.hid (fun W h => implRouteAbove_b B d zs x W h)
          clear h0 h1 hf hx hy hhi
          go_wp2
          refine wp_region_held_drew (S := (fun W => Below w3.heap.size w3 W)) (by kernel_rfl) (below_drewN Hb2.out 1) (fun hHeld => ?_)
          refine wpAnyH_take (i := 0) (oi := { dst := some 53, op := _, type := _, pos := _, after := _, guard := _ }) (v := ?va0) rfl (by kernel_rfl) (by kernel_rfl) (by kernel_rfl) (fun _ _ _ h => h) (Or.inl ⟨by kernel_rfl, ?ya0⟩) (by assumption) ?ra0
          case ya0 => intro w hSw; (try dsimp only at hSw); go_simp; try with_reducible rfl
          try simp only [Act.put, List.setIfInBounds_toArray, List.set_cons_zero, List.set_cons_succ]
          refine wpAnyH_take (i := 1) (oi := { dst := some 54, op := _, type := _, pos := _, after := _, guard := _ }) (v := ?va1) rfl (by kernel_rfl) (by kernel_rfl) (by kernel_rfl) (fun _ _ _ h => h) (Or.inl ⟨by kernel_rfl, ?ya1⟩) (by assumption) ?ra1
          case ya1 => intro w hSw; (try dsimp only at hSw); go_simp; try with_reducible rfl
          try simp only [Act.put, List.setIfInBounds_toArray, List.set_cons_zero, List.set_cons_succ]
          refine wpAnyH_take (i := 2) (oi := { dst := some 55, op := _, type := _, pos := _, after := _, guard := _ }) (v := ?va2) rfl (by kernel_rfl) (by kernel_rfl) (by kernel_rfl) (fun _ _ _ h => h) (Or.inl ⟨by kernel_rfl, ?ya2⟩) (by assumption) ?ra2
          case ya2 => intro w hSw; (try dsimp only at hSw); go_simp; try with_reducible rfl
          try simp only [Act.put, List.setIfInBounds_toArray, List.set_cons_zero, List.set_cons_succ]
          refine wpAnyH_take (i := 3) (oi := { dst := some 56, op := _, type := _, pos := _, after := _, guard := _ }) (v := ?va3) rfl (by kernel_rfl) (by kernel_rfl) (by kernel_rfl) (fun _ _ _ h => h) (Or.inl ⟨by kernel_rfl, ?ya3⟩) (by assumption) ?ra3
          case ya3 => intro w hSw; (try dsimp only at hSw); go_simp; try with_reducible rfl
          try simp only [Act.put, List.setIfInBounds_toArray, List.set_cons_zero, List.set_cons_succ]
          refine wpAnyH_take (i := 4) (oi := { dst := some 57, op := _, type := _, pos := _, after := _, guard := _ }) (v := ?va4) rfl (by kernel_rfl) (by kernel_rfl) (by kernel_rfl) (fun _ _ _ h => h) (Or.inl ⟨by kernel_rfl, ?ya4⟩) (by assumption) ?ra4
          case ya4 => intro w hSw; have t0 := Hat0.out _ hSw; (try dsimp only at hSw); go_simp; try with_reducible rfl
          try simp only [Act.put, List.setIfInBounds_toArray, List.set_cons_zero, List.set_cons_succ]
          refine wpAnyH_take (i := 6) (oi := { dst := some 59, op := _, type := _, pos := _, after := _, guard := _ }) (v := ?va6) rfl (by kernel_rfl) (by kernel_rfl) (by kernel_rfl) (fun _ _ _ h => h) (Or.inl ⟨by kernel_rfl, ?ya6⟩) (by assumption) ?ra6
          case ya6 => intro w hSw; (try dsimp only at hSw); go_simp; try with_reducible rfl
          try simp only [Act.put, List.setIfInBounds_toArray, List.set_cons_zero, List.set_cons_succ]
          refine wpAnyH_take (i := 7) (oi := { dst := some 60, op := _, type := _, pos := _, after := _, guard := _ }) (v := ?va7) rfl (by kernel_rfl) (by kernel_rfl) (by kernel_rfl) (fun _ _ _ h => h) (Or.inl ⟨by kernel_rfl, ?ya7⟩) (by assumption) ?ra7
          case ya7 => intro w hSw; (try dsimp only at hSw); go_simp; try with_reducible rfl
          try simp only [Act.put, List.setIfInBounds_toArray, List.set_cons_zero, List.set_cons_succ]
          refine wpAnyH_take (i := 8) (oi := { dst := some 61, op := _, type := _, pos := _, after := _, guard := _ }) (v := ?va8) rfl (by kernel_rfl) (by kernel_rfl) (by kernel_rfl) (fun _ _ _ h => h) (Or.inl ⟨by kernel_rfl, ?ya8⟩) (by assumption) ?ra8
          case ya8 => intro w hSw; (try dsimp only at hSw); go_simp; try with_reducible rfl
          try simp only [Act.put, List.setIfInBounds_toArray, List.set_cons_zero, List.set_cons_succ]
          refine wpAnyH_take (i := 9) (oi := { dst := some 62, op := _, type := _, pos := _, after := _, guard := _ }) (v := ?va9) rfl (by kernel_rfl) (by kernel_rfl) (by kernel_rfl) (fun _ _ _ h => h) (Or.inl ⟨by kernel_rfl, ?ya9⟩) (by assumption) ?ra9
          case ya9 => intro w hSw; have t1 := Hat1.out _ hSw; (try dsimp only at hSw); go_simp; try with_reducible rfl
          try simp only [Act.put, List.setIfInBounds_toArray, List.set_cons_zero, List.set_cons_succ]
          refine wpAnyH_ready (rs := [5]) (by kernel_rfl) (by simp) ?_
          refine AllReadyH.cons (o := { dst := some 58, op := _, type := _, pos := _, after := _, guard := _ }) rfl (fun K hK => ?_) AllReadyH.nil
          go_simp
          refine (Hra.out _ (HA.out.go (by assumption))).mono ?_
          rintro e w10 ⟨B9, d9, rfl, ra, _, hb10⟩
          have R9 := Lib.hid ra
          dsimp only [id]
          go_wp2_with fail
          refine hK.out _ _ (below_step hHeld hb10) (fun hHeld2 => ?_)
          clear hK K
          try simp only [Act.put, List.setIfInBounds_toArray, List.set_cons_zero, List.set_cons_succ]
          refine wpAnyH_ready (rs := [10]) (by kernel_rfl) (by simp) ?_
          refine AllReadyH.cons (o := { dst := some 63, op := _, type := _, pos := _, after := _, guard := _ }) rfl (fun K hK => ?_) AllReadyH.nil
          go_simp
          refine (Hhi.out _ _ _ R9.out).mono ?_
          rintro e w11 ⟨rfl, rfl⟩
          go_wp2_with fail
          refine hK.out _ _ (hHeld2) (fun hHeld3 => ?_)
          clear hK K
          try simp only [Act.put, List.setIfInBounds_toArray, List.set_cons_zero, List.set_cons_succ]
          refine wpAnyH_done (by kernel_rfl) ?_ _
          go_wp2
          exact ⟨⟨m + 1, by omega, by rw [e2], hHeld3⟩, by simp only [intOf]; omega⟩
        · obtain rfl : m = i := by omega
          go_wp2
          exact ⟨⟨m + 1, by omega, by rw [e1], Hb2.out⟩, by simp only [intOf]; omega⟩
    · obtain rfl : i = O.length := by omega
      by_cases hz : O.length < 2
      · have z1 : (O.length : Int) < 2 := by omega
        go_wp2
        go_ret
        exact ⟨rfl, below_step Bt3.out Hb.out⟩
      have z1 : ¬ (O.length : Int) < 2 := by omega
      have z2 : ((O.length : Int) - 1 = 0) = False := eq_false (by omega)
      have z3 : ((O.length : Int) - 1 == 0) = false := beq_eq_false_iff_ne.2 (by omega)
      have q3 : IntKind.i64.wrap ((O.length : Int) - 1) = (O.length : Int) - 1 := IntWalk.i64_in _ (by omega)
      obtain ⟨k, hk⟩ : ∃ k, n1 % (O.length - 1) = k := ⟨_, rfl⟩
      have hkl : k < O.length - 1 := by rw [← hk]; exact Nat.mod_lt _ (by omega)
      have q5 : (n1 : Int).tmod ((O.length : Int) - 1) = (k : Int) := by
        rw [show (O.length : Int) - 1 = ((O.length - 1 : Nat) : Int) by omega, Int.tmod_eq_emod_of_nonneg (by omega), ← hk]; simp
      have q7 : IntKind.i64.wrap (k : Int) = (k : Int) := IntWalk.i64_in _ (by omega)
      have q8 : IntKind.i64.wrap ((k : Int) + 1) = (k : Int) + 1 := IntWalk.i64_in _ (by omega)
      have g1 : (k : Int) < (O.length : Int) := by omega
      have g2 : (k : Int) + 1 < (O.length : Int) := by omega
      have g3 : (0 : Int) ≤ (k : Int) + 1 := by omega
      have g4 : ((k : Int) + 1).toNat = k + 1 := by omega
      obtain ⟨bT, offT, rfl, h0⟩ := argI_at HO.out (k := k) (by omega)
      obtain ⟨bT', offT', eb, h1⟩ := argI_at HO.out (k := k + 1) (by omega)
      injection eb with eb
      injection eb with eb eo _
      subst eb
      subst eo
      have hsw := swap_cellsL O k
      have hls := Hswp.out k (by omega)
      obtain ⟨x, hx⟩ : ∃ x, O[k]?.getD 0 = x := ⟨_, rfl⟩
      obtain ⟨y, hy⟩ : ∃ y, O[k + 1]?.getD 0 = y := ⟨_, rfl⟩
      rw [hx] at h0 hsw hls
      rw [hy] at h1 hsw hls
      have Hat0 := Lib.hid (fun W (h : Below w3.heap.size w3 W) => h0 W h)
      have Hat1 := Lib.hid (fun W (h : Below w3.heap.size w3 W) => h1 W h)
      have Hsw := Lib.hid hsw
      have hrc := fun W h => implRoutesCross_b B d zs x y W h
      obtain ⟨cr, hcr⟩ : ∃ cr, crossB zs x y = cr := ⟨_, rfl⟩
      rw [hcr] at hrc hls
      have Hrc := Lib.hid hrc
      have Hls := Lib.hid hls
      have hk1 : k + 1 < O.length := by omega
      clear h0 h1 hsw hls hx hy hrc hcr hk Habv Hswp
      go_wp2_with (at_builtin; refine wpList_append_ints rfl (.tmp 73) (.tmp 74) 25 rfl wr.heap.size 3 i0 (.int .i64 0) Try.underlying25 hi hz0 hz1 hz2 rfl (.slice (some ⟨wr.heap.size, 0, none⟩) 0 0) [] rfl (own_none wr _) (some ⟨bT, offT, none⟩) co O rfl ((HO.out.go Hb.out).go (below_none wr _)) (by simp; omega) (by simp) ?_; intro v6 w6 hown6 hg6; have H6 := Lib.hid (ctx_nextL hown6 hg6); clear hown6 hg6; obtain ⟨g, cap, rfl⟩ := own_posL H6.out.1 (by omega); have H6g := Lib.hid (H6.out.1.lt g rfl).1; have Hb6 := Lib.hid (below_step Hb.out H6.out.2); have hst := H6.out.1.stored k (.int .i64 y); have hst2 := hst.1.stored (k + 1) (.int .i64 x); have Hb7 := Lib.hid (show Below w3.heap.size w3 (w6.setCell ⟨g, k, none⟩ (.int .i64 y)) from Hb6.out.setCell (p := ⟨g, k, none⟩) (Nat.le_trans Hb.out.size H6g.out) _); have Hb8 := Lib.hid (Hb7.out.setCell (p := ⟨g, k + 1, none⟩) (Nat.le_trans Hb.out.size H6g.out) (.int .i64 x)); have c1 := Hat1.out _ Hb6.out; have c2 := Hat0.out _ Hb7.out; have s1 := cell_intL (H6.out.1.cellAt k (by omega)) (by omega); have s1f := H6.out.1.frozenAt k; have s2 := cell_intL (H6.out.1.cellAt (k + 1) (by omega)) (by omega); have s2f := hst.1.frozenAt (k + 1); have hown8 := hst2.1; rw [Hsw.out] at hown8; have H8 := Lib.hid hown8; clear hst hst2 hown8)
      obtain ⟨w8, hw8⟩ : ∃ w8, w8 = (w6.setCell ⟨g, k, none⟩ (.int .i64 y)).setCell ⟨g, k + 1, none⟩ (.int .i64 x) := ⟨_, rfl⟩
      rw [← hw8]
      rw [← hw8] at Hb8 H8
      have HX : Ow 3 wr.heap.size w8.heap.size w8 (.slice (some ⟨g, 0, none⟩) (swapI O k).length cap) (swapI O k) := Ow.of_own (by rw [swapI_len]; exact H8.out)
      have HXa := Lib.hid (HX.arg (by rw [swapI_len]; omega) (Nat.le_refl _))
      have hlv := fun W ha hb => implLiftValid_b B d zs (some ⟨g, 0, none⟩) cap (swapI O k) W ha hb
      rw [swapI_len, Hls.out] at hlv
      have Hlv := Lib.hid hlv
      clear hw8 HX c1 c2 s1 s2 s1f s2f hlv
      refine wp_region_held_drew (S := (fun W => Below w8.heap.size w8 W)) (by kernel_rfl) (below_drewN (Below.refl _ _) 1) (fun hHeld => ?_)
      refine wpAnyH_take (i := 0) (oi := { dst := some 92, op := _, type := _, pos := _, after := _, guard := _ }) (v := ?vb0) rfl (by kernel_rfl) (by kernel_rfl) (by kernel_rfl) (fun _ _ _ h => h) (Or.inl ⟨by kernel_rfl, ?yb0⟩) (by assumption) ?rb0
      case yb0 => intro w hSw; (try dsimp only at hSw); go_simp; try with_reducible rfl
      try simp only [Act.put, List.setIfInBounds_toArray, List.set_cons_zero, List.set_cons_succ]
      refine wpAnyH_take (i := 1) (oi := { dst := some 93, op := _, type := _, pos := _, after := _, guard := _ }) (v := ?vb1) rfl (by kernel_rfl) (by kernel_rfl) (by kernel_rfl) (fun _ _ _ h => h) (Or.inl ⟨by kernel_rfl, ?yb1⟩) (by assumption) ?rb1
      case yb1 => intro w hSw; (try dsimp only at hSw); go_simp; try with_reducible rfl
      try simp only [Act.put, List.setIfInBounds_toArray, List.set_cons_zero, List.set_cons_succ]
      refine wpAnyH_take (i := 3) (oi := { dst := some 95, op := _, type := _, pos := _, after := _, guard := _ }) (v := ?vb3) rfl (by kernel_rfl) (by kernel_rfl) (by kernel_rfl) (fun _ _ _ h => h) (Or.inl ⟨by kernel_rfl, ?yb3⟩) (by assumption) ?rb3
      case yb3 => intro w hSw; (try dsimp only at hSw); go_simp; try with_reducible rfl
      try simp only [Act.put, List.setIfInBounds_toArray, List.set_cons_zero, List.set_cons_succ]
      refine wpAnyH_take (i := 4) (oi := { dst := some 96, op := _, type := _, pos := _, after := _, guard := _ }) (v := ?vb4) rfl (by kernel_rfl) (by kernel_rfl) (by kernel_rfl) (fun _ _ _ h => h) (Or.inl ⟨by kernel_rfl, ?yb4⟩) (by assumption) ?rb4
      case yb4 => intro w hSw; (try dsimp only at hSw); go_simp; try with_reducible rfl
      try simp only [Act.put, List.setIfInBounds_toArray, List.set_cons_zero, List.set_cons_succ]
      refine wpAnyH_take (i := 5) (oi := { dst := some 97, op := _, type := _, pos := _, after := _, guard := _ }) (v := ?vb5) rfl (by kernel_rfl) (by kernel_rfl) (by kernel_rfl) (fun _ _ _ h => h) (Or.inl ⟨by kernel_rfl, ?yb5⟩) (by assumption) ?rb5
      case yb5 => intro w hSw; (try dsimp only at hSw); go_simp; try with_reducible rfl
      try simp only [Act.put, List.setIfInBounds_toArray, List.set_cons_zero, List.set_cons_succ]
      refine wpAnyH_take (i := 6) (oi := { dst := some 98, op := _, type := _, pos := _, after := _, guard := _ }) (v := ?vb6) rfl (by kernel_rfl) (by kernel_rfl) (by kernel_rfl) (fun _ _ _ h => h) (Or.inl ⟨by kernel_rfl, ?yb6⟩) (by assumption) ?rb6
      case yb6 => intro w hSw; (try dsimp only at hSw); go_simp; try with_reducible rfl
      try simp only [Act.put, List.setIfInBounds_toArray, List.set_cons_zero, List.set_cons_succ]
      refine wpAnyH_take (i := 7) (oi := { dst := some 99, op := _, type := _, pos := _, after := _, guard := _ }) (v := ?vb7) rfl (by kernel_rfl) (by kernel_rfl) (by kernel_rfl) (fun _ _ _ h => h) (Or.inl ⟨by kernel_rfl, ?yb7⟩) (by assumption) ?rb7
      case yb7 => intro w hSw; have t0 := Hat0.out _ (below_step Hb8.out hSw); (try dsimp only at hSw); go_simp; try with_reducible rfl
      try simp only [Act.put, List.setIfInBounds_toArray, List.set_cons_zero, List.set_cons_succ]
      refine wpAnyH_take (i := 8) (oi := { dst := some 100, op := _, type := _, pos := _, after := _, guard := _ }) (v := ?vb8) rfl (by kernel_rfl) (by kernel_rfl) (by kernel_rfl) (fun _ _ _ h => h) (Or.inl ⟨by kernel_rfl, ?yb8⟩) (by assumption) ?rb8
      case yb8 => intro w hSw; (try dsimp only at hSw); go_simp; try with_reducible rfl
      try simp only [Act.put, List.setIfInBounds_toArray, List.set_cons_zero, List.set_cons_succ]
      refine wpAnyH_take (i := 9) (oi := { dst := some 101, op := _, type := _, pos := _, after := _, guard := _ }) (v := ?vb9) rfl (by kernel_rfl) (by kernel_rfl) (by kernel_rfl) (fun _ _ _ h => h) (Or.inl ⟨by kernel_rfl, ?yb9⟩) (by assumption) ?rb9
      case yb9 => intro w hSw; (try dsimp only at hSw); go_simp; try with_reducible rfl
      try simp only [Act.put, List.setIfInBounds_toArray, List.set_cons_zero, List.set_cons_succ]
      refine wpAnyH_take (i := 10) (oi := { dst := some 102, op := _, type := _, pos := _, after := _, guard := _ }) (v := ?vb10) rfl (by kernel_rfl) (by kernel_rfl) (by kernel_rfl) (fun _ _ _ h => h) (Or.inl ⟨by kernel_rfl, ?yb10⟩) (by assumption) ?rb10
      case yb10 => intro w hSw; (try dsimp only at hSw); go_simp; try with_reducible rfl
      try simp only [Act.put, List.setIfInBounds_toArray, List.set_cons_zero, List.set_cons_succ]
      refine wpAnyH_take (i := 11) (oi := { dst := some 103, op := _, type := _, pos := _, after := _, guard := _ }) (v := ?vb11) rfl (by kernel_rfl) (by kernel_rfl) (by kernel_rfl) (fun _ _ _ h => h) (Or.inl ⟨by kernel_rfl, ?yb11⟩) (by assumption) ?rb11
      case yb11 => intro w hSw; (try dsimp only at hSw); go_simp; try with_reducible rfl
      try simp only [Act.put, List.setIfInBounds_toArray, List.set_cons_zero, List.set_cons_succ]
      refine wpAnyH_take (i := 12) (oi := { dst := some 104, op := _, type := _, pos := _, after := _, guard := _ }) (v := ?vb12) rfl (by kernel_rfl) (by kernel_rfl) (by kernel_rfl) (fun _ _ _ h => h) (Or.inl ⟨by kernel_rfl, ?yb12⟩) (by assumption) ?rb12
      case yb12 => intro w hSw; have t1 := Hat1.out _ (below_step Hb8.out hSw); (try dsimp only at hSw); go_simp; try with_reducible rfl
      try simp only [Act.put, List.setIfInBounds_toArray, List.set_cons_zero, List.set_cons_succ]
      refine wpAnyH_ready (rs := [2]) (by kernel_rfl) (by simp) ?_
      refine AllReadyH.cons (o := { dst := some 94, op := _, type := _, pos := _, after := _, guard := _ }) rfl (fun K hK => ?_) AllReadyH.nil
      go_simp
      refine (Hlv.out _ ((HA.out.go Hb8.out).go (by assumption)) (HXa.out.go (by assumption))).mono ?_
      rintro e w10 ⟨rfl, hb10⟩
      go_wp2_with fail
      refine hK.out _ _ (below_step hHeld hb10) (fun hHeld2 => ?_)
      clear hK K
      try simp only [Act.put, List.setIfInBounds_toArray, List.set_cons_zero, List.set_cons_succ]
      refine wpAnyH_ready (rs := [13]) (by kernel_rfl) (by simp) ?_
      refine AllReadyH.cons (o := { dst := some 105, op := _, type := _, pos := _, after := _, guard := _ }) rfl (fun K hK => ?_) AllReadyH.nil
      go_simp
      refine (Hrc.out _ ((HA.out.go Hb8.out).go hHeld2)).mono ?_
      rintro e w11 ⟨rfl, hb11⟩
      go_wp2_with fail
      refine hK.out _ _ (below_step hHeld2 hb11) (fun hHeld3 => ?_)
      clear hK K
      try simp only [Act.put, List.setIfInBounds_toArray, List.set_cons_zero, List.set_cons_succ]
      refine wpAnyH_take (i := 14) (oi := { dst := some 106, op := _, type := _, pos := _, after := _, guard := _ }) (v := ?vc14) rfl (by kernel_rfl) (by kernel_rfl) (by kernel_rfl) (fun _ _ _ h => h) (Or.inl ⟨by kernel_rfl, ?yc14⟩) (by assumption) ?rc14
      case yc14 => intro w hSw; (try dsimp only at hSw); go_simp; try with_reducible rfl
      try simp only [Act.put, List.setIfInBounds_toArray, List.set_cons_zero, List.set_cons_succ]
      refine wpAnyH_take (i := 15) (oi := { dst := some 107, op := _, type := _, pos := _, after := _, guard := _ }) (v := ?vc15) rfl (by kernel_rfl) (by kernel_rfl) (by kernel_rfl) (fun _ _ _ h => h) (Or.inl ⟨by kernel_rfl, ?yc15⟩) (by assumption) ?rc15
      case yc15 => intro w hSw; (try dsimp only at hSw); go_simp; try with_reducible rfl
      try simp only [Act.put, List.setIfInBounds_toArray, List.set_cons_zero, List.set_cons_succ]
      refine wpAnyH_take (i := 16) (oi := { dst := some 4, op := _, type := _, pos := _, after := _, guard := _ }) (v := ?vc16) rfl (by kernel_rfl) (by kernel_rfl) (by kernel_rfl) (fun _ _ _ h => h) (Or.inl ⟨by kernel_rfl, ?yc16⟩) (by assumption) ?rc16
      case yc16 => intro w hSw; (try dsimp only at hSw); go_simp; try with_reducible rfl
      try simp only [Act.put, List.setIfInBounds_toArray, List.set_cons_zero, List.set_cons_succ]
      refine wpAnyH_done (by kernel_rfl) ?_ _
      go_wp2
      go_ret
      exact ⟨rfl, below_step (below_step Bt3.out Hb8.out) hHeld3⟩

theorem fnLift_walk (A0 : Option Addr) (n0 c0 : Nat) (A1 : Option Addr) (n1 c1 : Nat) (w : World) (hb0 : Byt0 w A0 n0 c0) (hb1 : Byt0 w A1 n1 c1) :
    Calls Try.prog 21 #[.slice A0 n0 c0, .slice A1 n1 c1] w (RetB (.bool true) w) := by
  by_cases hl0 : 1048576 < n0
  · clear hb0; clear hb1
    have u0 : decide ((1048576 : Int) < (n0 : Int)) = true := by simp; omega
    go_enter Try.func21, Try.ntmps21
    go_wp2
    go_ret
    exact ⟨rfl, Below.refl _ _⟩
  by_cases hl1 : 1048576 < n1
  · clear hb0; clear hb1
    have u0 : decide ((1048576 : Int) < (n0 : Int)) = false := by simp; omega
    have u1 : decide ((1048576 : Int) < (n1 : Int)) = true := by simp; omega
    go_enter Try.func21, Try.ntmps21
    go_wp2
    go_ret
    exact ⟨rfl, Below.refl _ _⟩
  exact fnLift_in A0 n0 c0 A1 n1 c1 w (by omega) hb0.1 hb0.2.2 (by omega) hb1.1 hb1.2.2

set_option maxRecDepth 100000 in
theorem fnLift_lifted (os : Os) (started : os.Started) (H : Type) (enc : TypeId × Value → H) :
    ReturnsInHanded {} Try.checked os 21 .any (Rows.fnLiftSpec.pre6 enc Try.prog Try.f21 Rows.fnLiftRow.domain false) (Rows.fnLiftSpec.post enc Try.prog Try.f21 false true false false) := by
  refine returnsInHanded_of_change (C := Try.checked) row_own started (by kernel_rfl) Try.func21
    (ChangeSpec.witness6 (enc := enc) (C := Try.checked) false ⟨#[], #[.slice none 0 0, .slice none 0 0], []⟩ 8 (by kernel_rfl) (by kernel_rfl) (by kernel_rfl) (by kernel_rfl)) ?_
  intro W base args ds gs before hval0 hW hcnd _
  have hval : ∀ (j : Nat) t v, Try.f21.params[j]? = some t → args[j]? = some v → Value.okWide Try.prog W .any base t v := hval0
  have hW' := hW
  obtain ⟨p, q, hA0, hV, rfl, _, _⟩ := hW
  have hA : DataW.TrodAll enc Try.prog W 0 (fun _ => true) true Try.f21.params.toList args.toList ds p := hA0
  rw [Try.params21] at hA hval
  obtain ⟨v0, vs0, d0, ds0, p0, q0, hargs, rfl, rfl, h0, r0⟩ := trodAll_cons hA
  obtain ⟨v1, vs1, d1, ds1, p1, q1, rfl, rfl, rfl, h1, r1⟩ := trodAll_cons r0
  obtain ⟨rfl, rfl, rfl⟩ := trodAll_nil r1
  obtain rfl : args = #[v0, v1] := by cases args; simp_all
  obtain ⟨rfl, rfl⟩ := trodVars_none hV
  have hlt0 : ∀ x ∈ p0, x.block < W.heap.size := fun x hx => by exact hW'.lt x (by simp [hx])
  obtain ⟨A0, n0, c0, rfl, hb0⟩ := open_bytes (hval 0 22 v0 rfl rfl) h0 hlt0
  have hlt1 : ∀ x ∈ p1, x.block < W.heap.size := fun x hx => by exact hW'.lt x (by simp [hx])
  obtain ⟨A1, n1, c1, rfl, hb1⟩ := open_bytes (hval 1 22 v1 rfl rfl) h1 hlt1
  clear hA0 hval0
  refine (fnLift_walk A0 n0 c0 A1 n1 c1 W hb0 hb1).mono fun e W' ⟨he, hb⟩ => ?_
  subst he
  exact ⟨_, rfl, _, _, _, [], _, [], hW', (trodAll_cons_mk (shut_bool Try.underlying4 _) trodAll_mk0), (trodAll_cons_mk (read_again_bytes h0 hlt0 hb) (trodAll_cons_mk (read_again_bytes h1 hlt1 hb) trodAll_mk0)), rfl, hb.frame _, fun h => by cases h⟩

set_option maxRecDepth 100000 in
theorem fnLift_closed : joinedFacts Try.prog 21 Try.f21 Rows.fnLiftSpec Rows.fnLiftRow = true := by
  unfold joinedFacts
  repeat' (with_reducible apply facAnd)
  all_goals first | (with_reducible exact facEnter) | (with_reducible exact facLaid) | (with_reducible exact facMaps) | (with_reducible exact facStops) | (with_reducible exact facKnobs) | (with_reducible exact facHeard) | (rw [facLifts]; as_aux_lemma => kernel_rfl) | (rw [facMake]; as_aux_lemma => kernel_rfl) | (as_aux_lemma => kernel_rfl)

/-- THE STATEMENT -/
theorem fnLift_holds : Rows.FnLiftSaid :=
  OpenClaim.holds_of_wide 21 Try.f21 rfl rfl rfl rfl rfl rfl rfl ⟨rfl, rfl, rfl, rfl, rfl⟩ rfl rfl rfl rfl rfl (by kernel_rfl) Try.func21 fnLift_closed
    (of_decide_eq_true (by kernel_rfl)) (by unfold Func.isWrapper; first | (rw [if_pos (by decide +kernel)]; kernel_rfl) | (rw [if_neg (by decide +kernel)]; exact ⟨rfl, rfl⟩))
    (fun os started H enc _ => fnLift_lifted os started H enc)
#print axioms fnLift_holds
end Go.Proofs.Ytjboamhjfncgdaa
