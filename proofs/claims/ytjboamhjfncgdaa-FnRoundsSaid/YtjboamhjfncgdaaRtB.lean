/-
  Two routes cross; ChartValid, a route of a chart, RoutesCross, RouteSide: of both. (Written by a program of mine, gen9b.py.)
-/
import Derived.Test.YtjboamhjfncgdaaRtV
import Derived.Test.YtjboamhjfncgdaaRtQ
import Derived.Deep.RegionHeld3
namespace Go.Proofs.Ytjboamhjfncgdaa
open Go.RowKit

set_option maxHeartbeats 2000000 in
theorem crosses_c (r s : Rot) (w : World) (hr : RtIn r) (hs : RtIn s) :
    Calls Try.prog 92 #[r.v, s.v] w (RetB (.bool (crB r s)) w) := by
  have T := Lib.hid (Two2.start w r s 37)
  have HA := Lib.hid (fun (W : World) => parts_c r s W hr hs)
  have HC := Lib.hid (fun (W : World) => parts_c s r W hs hr)
  clear hr hs
  unfold Rot.v at HA HC ⊢
  go_enter Try.func92, Try.ntmps92
  go_wp2_with fail
  refine (HA.out _).mono ?_
  rintro e w4 ⟨rfl, hb4⟩
  have T4 := Lib.hid (T.out.go hb4)
  clear hb4
  cases e1 : partB r s
  · have Hv := Lib.hid (cr_no e1)
    clear e1
    go_wp2
    go_ret
    exact ⟨by rw [Hv.out] <;> rfl, T4.out.end_⟩
  have Hv := Lib.hid (cr_yes e1)
  clear e1
  obtain ⟨c1, c2, c3, c4, c5, c6, c7, c8, _⟩ := T4.out
  go_wp2_with fail
  refine (HC.out _).mono ?_
  rintro e w5 ⟨rfl, hb5⟩
  have T5 := Lib.hid (T4.out.go hb5)
  clear hb5
  go_wp2
  go_ret
  exact ⟨by rw [Hv.out] <;> rfl, T5.out.end_⟩

theorem part_lt {r s : Rot} {x y : Int} (h : partB r s = decide (x * y < 0)) (hz : x * y < 0) : partB r s = true := by rw [h]; exact decide_eq_true hz
theorem part_ge {r s : Rot} {x y : Int} (h : partB r s = decide (x * y < 0)) (hz : ¬ x * y < 0) : partB r s = false := by rw [h]; exact decide_eq_false hz
set_option maxRecDepth 100000 in
set_option maxHeartbeats 8000000 in
theorem l9Cross_c (r s : Rot) (w : World) (hr : RtIn r) (hs : RtIn s) :
    Calls Try.prog 91 #[r.v, s.v] w (RetB (.bool (crB r s)) w) := by
  have T := Lib.hid (Two2.start w r s 37)
  have Hgo := Lib.hid (fun (W W' : World) => @Two2.go w W W' r s)
  have HA := Lib.hid (fun (W : World) => l9Side_c r s.a s.b W hr hs.1.1 hs.1.2)
  have HC := Lib.hid (fun (W : World) => l9Side_c r s.c s.d W hr hs.2.1 hs.2.2)
  have HE := Lib.hid (fun (W : World) => l9Side_c s r.a r.b W hs hr.1.1 hr.1.2)
  have HG := Lib.hid (fun (W : World) => l9Side_c s r.c r.d W hs hr.2.1 hr.2.2)
  have bx := side_bd r s.a s.b
  have bw := side_bd r s.c s.d
  have cx := side_bd s r.a r.b
  have cw := side_bd s r.c r.d
  obtain ⟨x, hx⟩ : ∃ x, sideV r s.a s.b = x := ⟨_, rfl⟩
  obtain ⟨y, hy⟩ : ∃ y, sideV r s.c s.d = y := ⟨_, rfl⟩
  obtain ⟨u, hu⟩ : ∃ u, sideV s r.a r.b = u := ⟨_, rfl⟩
  obtain ⟨v, hv⟩ : ∃ v, sideV s r.c r.d = v := ⟨_, rfl⟩
  have hxy := Lib.hid (part_val r s hx hy)
  have HW := Lib.hid (part_val s r hu hv)
  rw [hx] at bx HA
  rw [hy] at bw HC
  rw [hu] at cx HE
  rw [hv] at cw HG
  have bz := sides_bd x y bx bw
  have cz := sides_bd u v cx cw
  have q1 : IntKind.i64.wrap (x * y) = x * y := IntWalk.i64_in _ (by omega)
  have q2 : IntKind.i64.wrap (u * v) = u * v := IntWalk.i64_in _ (by omega)
  clear hx hy hu hv hr hs bx bw bz cx cw cz
  unfold Rot.v at HA HC HE HG ⊢
  go_enter Try.func91, Try.ntmps91
  go_wp2
  refine wp_region_held_drew (S := (fun W => Two2 w W r s)) (by kernel_rfl) (T.out.drew) (fun hHeld => ?_)
  refine wpAnyH_take (i := 0) (oi := { dst := some 5, op := _, type := _, pos := _, after := _, guard := _ }) (v := ?va0) rfl (by kernel_rfl) (by kernel_rfl) (by kernel_rfl) (fun _ _ _ h => h) (Or.inl ⟨by kernel_rfl, ?ya0⟩) (by assumption) ?ra0
  case ya0 => intro w hSw; obtain ⟨c1, c2, c3, c4, c5, c6, c7, c8, _⟩ := hSw; (try dsimp only at hSw); go_simp; try with_reducible rfl
  try simp only [Act.put, List.setIfInBounds_toArray, List.set_cons_zero, List.set_cons_succ]
  refine wpAnyH_take (i := 1) (oi := { dst := some 6, op := _, type := _, pos := _, after := _, guard := _ }) (v := ?va1) rfl (by kernel_rfl) (by kernel_rfl) (by kernel_rfl) (fun _ _ _ h => h) (Or.inl ⟨by kernel_rfl, ?ya1⟩) (by assumption) ?ra1
  case ya1 => intro w hSw; obtain ⟨c1, c2, c3, c4, c5, c6, c7, c8, _⟩ := hSw; (try dsimp only at hSw); go_simp; try with_reducible rfl
  try simp only [Act.put, List.setIfInBounds_toArray, List.set_cons_zero, List.set_cons_succ]
  refine wpAnyH_take (i := 2) (oi := { dst := some 7, op := _, type := _, pos := _, after := _, guard := _ }) (v := ?va2) rfl (by kernel_rfl) (by kernel_rfl) (by kernel_rfl) (fun _ _ _ h => h) (Or.inl ⟨by kernel_rfl, ?ya2⟩) (by assumption) ?ra2
  case ya2 => intro w hSw; obtain ⟨c1, c2, c3, c4, c5, c6, c7, c8, _⟩ := hSw; (try dsimp only at hSw); go_simp; try with_reducible rfl
  try simp only [Act.put, List.setIfInBounds_toArray, List.set_cons_zero, List.set_cons_succ]
  refine wpAnyH_take (i := 3) (oi := { dst := some 8, op := _, type := _, pos := _, after := _, guard := _ }) (v := ?va3) rfl (by kernel_rfl) (by kernel_rfl) (by kernel_rfl) (fun _ _ _ h => h) (Or.inl ⟨by kernel_rfl, ?ya3⟩) (by assumption) ?ra3
  case ya3 => intro w hSw; obtain ⟨c1, c2, c3, c4, c5, c6, c7, c8, _⟩ := hSw; (try dsimp only at hSw); go_simp; try with_reducible rfl
  try simp only [Act.put, List.setIfInBounds_toArray, List.set_cons_zero, List.set_cons_succ]
  refine wpAnyH_take (i := 4) (oi := { dst := some 9, op := _, type := _, pos := _, after := _, guard := _ }) (v := ?va4) rfl (by kernel_rfl) (by kernel_rfl) (by kernel_rfl) (fun _ _ _ h => h) (Or.inl ⟨by kernel_rfl, ?ya4⟩) (by assumption) ?ra4
  case ya4 => intro w hSw; obtain ⟨c1, c2, c3, c4, c5, c6, c7, c8, _⟩ := hSw; (try dsimp only at hSw); go_simp; try with_reducible rfl
  try simp only [Act.put, List.setIfInBounds_toArray, List.set_cons_zero, List.set_cons_succ]
  refine wpAnyH_take (i := 6) (oi := { dst := some 11, op := _, type := _, pos := _, after := _, guard := _ }) (v := ?va6) rfl (by kernel_rfl) (by kernel_rfl) (by kernel_rfl) (fun _ _ _ h => h) (Or.inl ⟨by kernel_rfl, ?ya6⟩) (by assumption) ?ra6
  case ya6 => intro w hSw; obtain ⟨c1, c2, c3, c4, c5, c6, c7, c8, _⟩ := hSw; (try dsimp only at hSw); go_simp; try with_reducible rfl
  try simp only [Act.put, List.setIfInBounds_toArray, List.set_cons_zero, List.set_cons_succ]
  refine wpAnyH_take (i := 7) (oi := { dst := some 12, op := _, type := _, pos := _, after := _, guard := _ }) (v := ?va7) rfl (by kernel_rfl) (by kernel_rfl) (by kernel_rfl) (fun _ _ _ h => h) (Or.inl ⟨by kernel_rfl, ?ya7⟩) (by assumption) ?ra7
  case ya7 => intro w hSw; obtain ⟨c1, c2, c3, c4, c5, c6, c7, c8, _⟩ := hSw; (try dsimp only at hSw); go_simp; try with_reducible rfl
  try simp only [Act.put, List.setIfInBounds_toArray, List.set_cons_zero, List.set_cons_succ]
  refine wpAnyH_take (i := 8) (oi := { dst := some 13, op := _, type := _, pos := _, after := _, guard := _ }) (v := ?va8) rfl (by kernel_rfl) (by kernel_rfl) (by kernel_rfl) (fun _ _ _ h => h) (Or.inl ⟨by kernel_rfl, ?ya8⟩) (by assumption) ?ra8
  case ya8 => intro w hSw; obtain ⟨c1, c2, c3, c4, c5, c6, c7, c8, _⟩ := hSw; (try dsimp only at hSw); go_simp; try with_reducible rfl
  try simp only [Act.put, List.setIfInBounds_toArray, List.set_cons_zero, List.set_cons_succ]
  refine wpAnyH_take (i := 9) (oi := { dst := some 14, op := _, type := _, pos := _, after := _, guard := _ }) (v := ?va9) rfl (by kernel_rfl) (by kernel_rfl) (by kernel_rfl) (fun _ _ _ h => h) (Or.inl ⟨by kernel_rfl, ?ya9⟩) (by assumption) ?ra9
  case ya9 => intro w hSw; obtain ⟨c1, c2, c3, c4, c5, c6, c7, c8, _⟩ := hSw; (try dsimp only at hSw); go_simp; try with_reducible rfl
  try simp only [Act.put, List.setIfInBounds_toArray, List.set_cons_zero, List.set_cons_succ]
  refine wpAnyH_take (i := 10) (oi := { dst := some 15, op := _, type := _, pos := _, after := _, guard := _ }) (v := ?va10) rfl (by kernel_rfl) (by kernel_rfl) (by kernel_rfl) (fun _ _ _ h => h) (Or.inl ⟨by kernel_rfl, ?ya10⟩) (by assumption) ?ra10
  case ya10 => intro w hSw; obtain ⟨c1, c2, c3, c4, c5, c6, c7, c8, _⟩ := hSw; (try dsimp only at hSw); go_simp; try with_reducible rfl
  try simp only [Act.put, List.setIfInBounds_toArray, List.set_cons_zero, List.set_cons_succ]
  refine wpAnyH_ready (rs := [5]) (by kernel_rfl) (by simp) ?_
  refine AllReadyH.cons (o := { dst := some 10, op := _, type := _, pos := _, after := _, guard := _ }) rfl (fun K hK => ?_) AllReadyH.nil
  go_simp
  refine (HA.out _).mono ?_
  rintro e w4 ⟨rfl, hb4⟩
  go_wp2_with fail
  refine hK.out _ _ (Hgo.out _ _ hHeld hb4) (fun hHeld2 => ?_)
  clear hK K
  try simp only [Act.put, List.setIfInBounds_toArray, List.set_cons_zero, List.set_cons_succ]
  refine wpAnyH_ready (rs := [11]) (by kernel_rfl) (by simp) ?_
  refine AllReadyH.cons (o := { dst := some 16, op := _, type := _, pos := _, after := _, guard := _ }) rfl (fun K hK => ?_) AllReadyH.nil
  go_simp
  refine (HC.out _).mono ?_
  rintro e w5 ⟨rfl, hb5⟩
  go_wp2_with fail
  refine hK.out _ _ (Hgo.out _ _ hHeld2 hb5) (fun hHeld3 => ?_)
  clear hK K
  try simp only [Act.put, List.setIfInBounds_toArray, List.set_cons_zero, List.set_cons_succ]
  by_cases hz : x * y < 0
  · have Hv := Lib.hid (cr_yes (part_lt hxy.out hz))
    refine wpAnyH_take (i := 12) (oi := { dst := some 17, op := _, type := _, pos := _, after := _, guard := _ }) (v := ?vb12) rfl (by kernel_rfl) (by kernel_rfl) (by kernel_rfl) (fun _ _ _ h => h) (Or.inl ⟨by kernel_rfl, ?yb12⟩) (by assumption) ?rb12
    case yb12 => intro w hSw; obtain ⟨c1, c2, c3, c4, c5, c6, c7, c8, _⟩ := hSw; (try dsimp only at hSw); go_simp; try with_reducible rfl
    try simp only [Act.put, List.setIfInBounds_toArray, List.set_cons_zero, List.set_cons_succ]
    refine wpAnyH_take (i := 13) (oi := { dst := some 18, op := _, type := _, pos := _, after := _, guard := _ }) (v := ?vb13) rfl (by kernel_rfl) (by kernel_rfl) (by kernel_rfl) (fun _ _ _ h => h) (Or.inl ⟨by kernel_rfl, ?yb13⟩) (by assumption) ?rb13
    case yb13 => intro w hSw; obtain ⟨c1, c2, c3, c4, c5, c6, c7, c8, _⟩ := hSw; (try dsimp only at hSw); go_simp; try with_reducible rfl
    try simp only [Act.put, List.setIfInBounds_toArray, List.set_cons_zero, List.set_cons_succ]
    refine wpAnyH_take (i := 14) (oi := { dst := some 19, op := _, type := _, pos := _, after := _, guard := _ }) (v := ?vb14) rfl (by kernel_rfl) (by kernel_rfl) (by kernel_rfl) (fun _ _ _ h => h) (Or.inl ⟨by kernel_rfl, ?yb14⟩) (by assumption) ?rb14
    case yb14 => intro w hSw; obtain ⟨c1, c2, c3, c4, c5, c6, c7, c8, _⟩ := hSw; (try dsimp only at hSw); go_simp; try with_reducible rfl
    try simp only [Act.put, List.setIfInBounds_toArray, List.set_cons_zero, List.set_cons_succ]
    refine wpAnyH_take (i := 15) (oi := { dst := some 20, op := _, type := _, pos := _, after := _, guard := _ }) (v := ?vb15) rfl (by kernel_rfl) (by kernel_rfl) (by kernel_rfl) (fun _ _ _ h => h) (Or.inl ⟨by kernel_rfl, ?yb15⟩) (by assumption) ?rb15
    case yb15 => intro w hSw; obtain ⟨c1, c2, c3, c4, c5, c6, c7, c8, _⟩ := hSw; (try dsimp only at hSw); go_simp; try with_reducible rfl
    try simp only [Act.put, List.setIfInBounds_toArray, List.set_cons_zero, List.set_cons_succ]
    refine wpAnyH_take (i := 16) (oi := { dst := some 21, op := _, type := _, pos := _, after := _, guard := _ }) (v := ?vb16) rfl (by kernel_rfl) (by kernel_rfl) (by kernel_rfl) (fun _ _ _ h => h) (Or.inl ⟨by kernel_rfl, ?yb16⟩) (by assumption) ?rb16
    case yb16 => intro w hSw; obtain ⟨c1, c2, c3, c4, c5, c6, c7, c8, _⟩ := hSw; (try dsimp only at hSw); go_simp; try with_reducible rfl
    try simp only [Act.put, List.setIfInBounds_toArray, List.set_cons_zero, List.set_cons_succ]
    refine wpAnyH_take (i := 17) (oi := { dst := some 22, op := _, type := _, pos := _, after := _, guard := _ }) (v := ?vb17) rfl (by kernel_rfl) (by kernel_rfl) (by kernel_rfl) (fun _ _ _ h => h) (Or.inl ⟨by kernel_rfl, ?yb17⟩) (by assumption) ?rb17
    case yb17 => intro w hSw; obtain ⟨c1, c2, c3, c4, c5, c6, c7, c8, _⟩ := hSw; (try dsimp only at hSw); go_simp; try with_reducible rfl
    try simp only [Act.put, List.setIfInBounds_toArray, List.set_cons_zero, List.set_cons_succ]
    refine wpAnyH_take (i := 18) (oi := { dst := some 23, op := _, type := _, pos := _, after := _, guard := _ }) (v := ?vb18) rfl (by kernel_rfl) (by kernel_rfl) (by kernel_rfl) (fun _ _ _ h => h) (Or.inl ⟨by kernel_rfl, ?yb18⟩) (by assumption) ?rb18
    case yb18 => intro w hSw; obtain ⟨c1, c2, c3, c4, c5, c6, c7, c8, _⟩ := hSw; (try dsimp only at hSw); go_simp; try with_reducible rfl
    try simp only [Act.put, List.setIfInBounds_toArray, List.set_cons_zero, List.set_cons_succ]
    refine wpAnyH_take (i := 19) (oi := { dst := some 24, op := _, type := _, pos := _, after := _, guard := _ }) (v := ?vb19) rfl (by kernel_rfl) (by kernel_rfl) (by kernel_rfl) (fun _ _ _ h => h) (Or.inl ⟨by kernel_rfl, ?yb19⟩) (by assumption) ?rb19
    case yb19 => intro w hSw; obtain ⟨c1, c2, c3, c4, c5, c6, c7, c8, _⟩ := hSw; (try dsimp only at hSw); go_simp; try with_reducible rfl
    try simp only [Act.put, List.setIfInBounds_toArray, List.set_cons_zero, List.set_cons_succ]
    refine wpAnyH_take (i := 21) (oi := { dst := some 26, op := _, type := _, pos := _, after := _, guard := _ }) (v := ?vb21) rfl (by kernel_rfl) (by kernel_rfl) (by kernel_rfl) (fun _ _ _ h => h) (Or.inl ⟨by kernel_rfl, ?yb21⟩) (by assumption) ?rb21
    case yb21 => intro w hSw; obtain ⟨c1, c2, c3, c4, c5, c6, c7, c8, _⟩ := hSw; (try dsimp only at hSw); go_simp; try with_reducible rfl
    try simp only [Act.put, List.setIfInBounds_toArray, List.set_cons_zero, List.set_cons_succ]
    refine wpAnyH_take (i := 22) (oi := { dst := some 27, op := _, type := _, pos := _, after := _, guard := _ }) (v := ?vb22) rfl (by kernel_rfl) (by kernel_rfl) (by kernel_rfl) (fun _ _ _ h => h) (Or.inl ⟨by kernel_rfl, ?yb22⟩) (by assumption) ?rb22
    case yb22 => intro w hSw; obtain ⟨c1, c2, c3, c4, c5, c6, c7, c8, _⟩ := hSw; (try dsimp only at hSw); go_simp; try with_reducible rfl
    try simp only [Act.put, List.setIfInBounds_toArray, List.set_cons_zero, List.set_cons_succ]
    refine wpAnyH_take (i := 23) (oi := { dst := some 28, op := _, type := _, pos := _, after := _, guard := _ }) (v := ?vb23) rfl (by kernel_rfl) (by kernel_rfl) (by kernel_rfl) (fun _ _ _ h => h) (Or.inl ⟨by kernel_rfl, ?yb23⟩) (by assumption) ?rb23
    case yb23 => intro w hSw; obtain ⟨c1, c2, c3, c4, c5, c6, c7, c8, _⟩ := hSw; (try dsimp only at hSw); go_simp; try with_reducible rfl
    try simp only [Act.put, List.setIfInBounds_toArray, List.set_cons_zero, List.set_cons_succ]
    refine wpAnyH_take (i := 24) (oi := { dst := some 29, op := _, type := _, pos := _, after := _, guard := _ }) (v := ?vb24) rfl (by kernel_rfl) (by kernel_rfl) (by kernel_rfl) (fun _ _ _ h => h) (Or.inl ⟨by kernel_rfl, ?yb24⟩) (by assumption) ?rb24
    case yb24 => intro w hSw; obtain ⟨c1, c2, c3, c4, c5, c6, c7, c8, _⟩ := hSw; (try dsimp only at hSw); go_simp; try with_reducible rfl
    try simp only [Act.put, List.setIfInBounds_toArray, List.set_cons_zero, List.set_cons_succ]
    refine wpAnyH_take (i := 25) (oi := { dst := some 30, op := _, type := _, pos := _, after := _, guard := _ }) (v := ?vb25) rfl (by kernel_rfl) (by kernel_rfl) (by kernel_rfl) (fun _ _ _ h => h) (Or.inl ⟨by kernel_rfl, ?yb25⟩) (by assumption) ?rb25
    case yb25 => intro w hSw; obtain ⟨c1, c2, c3, c4, c5, c6, c7, c8, _⟩ := hSw; (try dsimp only at hSw); go_simp; try with_reducible rfl
    try simp only [Act.put, List.setIfInBounds_toArray, List.set_cons_zero, List.set_cons_succ]
    refine wpAnyH_ready (rs := [20]) (by kernel_rfl) (by simp) ?_
    refine AllReadyH.cons (o := { dst := some 25, op := _, type := _, pos := _, after := _, guard := _ }) rfl (fun K hK => ?_) AllReadyH.nil
    go_simp
    refine (HE.out _).mono ?_
    rintro e w6 ⟨rfl, hb6⟩
    go_wp2_with fail
    refine hK.out _ _ (Hgo.out _ _ hHeld3 hb6) (fun hHeld4 => ?_)
    clear hK K
    try simp only [Act.put, List.setIfInBounds_toArray, List.set_cons_zero, List.set_cons_succ]
    refine wpAnyH_ready (rs := [26]) (by kernel_rfl) (by simp) ?_
    refine AllReadyH.cons (o := { dst := some 31, op := _, type := _, pos := _, after := _, guard := _ }) rfl (fun K hK => ?_) AllReadyH.nil
    go_simp
    refine (HG.out _).mono ?_
    rintro e w7 ⟨rfl, hb7⟩
    go_wp2_with fail
    refine hK.out _ _ (Hgo.out _ _ hHeld4 hb7) (fun hHeld5 => ?_)
    clear hK K
    try simp only [Act.put, List.setIfInBounds_toArray, List.set_cons_zero, List.set_cons_succ]
    refine wpAnyH_take (i := 27) (oi := { dst := some 32, op := _, type := _, pos := _, after := _, guard := _ }) (v := ?vc27) rfl (by kernel_rfl) (by kernel_rfl) (by kernel_rfl) (fun _ _ _ h => h) (Or.inl ⟨by kernel_rfl, ?yc27⟩) (by assumption) ?rc27
    case yc27 => intro w hSw; obtain ⟨c1, c2, c3, c4, c5, c6, c7, c8, _⟩ := hSw; (try dsimp only at hSw); go_simp; try with_reducible rfl
    try simp only [Act.put, List.setIfInBounds_toArray, List.set_cons_zero, List.set_cons_succ]
    refine wpAnyH_take (i := 28) (oi := { dst := some 33, op := _, type := _, pos := _, after := _, guard := _ }) (v := ?vc28) rfl (by kernel_rfl) (by kernel_rfl) (by kernel_rfl) (fun _ _ _ h => h) (Or.inl ⟨by kernel_rfl, ?yc28⟩) (by assumption) ?rc28
    case yc28 => intro w hSw; obtain ⟨c1, c2, c3, c4, c5, c6, c7, c8, _⟩ := hSw; (try dsimp only at hSw); go_simp; try with_reducible rfl
    try simp only [Act.put, List.setIfInBounds_toArray, List.set_cons_zero, List.set_cons_succ]
    refine wpAnyH_take (i := 29) (oi := { dst := some 34, op := _, type := _, pos := _, after := _, guard := _ }) (v := ?vc29) rfl (by kernel_rfl) (by kernel_rfl) (by kernel_rfl) (fun _ _ _ h => h) (Or.inl ⟨by kernel_rfl, ?yc29⟩) (by assumption) ?rc29
    case yc29 => intro w hSw; obtain ⟨c1, c2, c3, c4, c5, c6, c7, c8, _⟩ := hSw; (try dsimp only at hSw); go_simp; try with_reducible rfl
    try simp only [Act.put, List.setIfInBounds_toArray, List.set_cons_zero, List.set_cons_succ]
    refine wpAnyH_take (i := 30) (oi := { dst := some 4, op := _, type := _, pos := _, after := _, guard := _ }) (v := ?vc30) rfl (by kernel_rfl) (by kernel_rfl) (by kernel_rfl) (fun _ _ _ h => h) (Or.inl ⟨by kernel_rfl, ?yc30⟩) (by assumption) ?rc30
    case yc30 => intro w hSw; obtain ⟨c1, c2, c3, c4, c5, c6, c7, c8, _⟩ := hSw; (try dsimp only at hSw); go_simp; try with_reducible rfl
    try simp only [Act.put, List.setIfInBounds_toArray, List.set_cons_zero, List.set_cons_succ]
    refine wpAnyH_done (by kernel_rfl) ?_ _
    go_wp2
    go_ret
    exact ⟨by rw [Hv.out, HW.out]; rfl, hHeld5.end_⟩
  · have Hv := Lib.hid (cr_no (part_ge hxy.out hz))
    refine wpAnyH_take (i := 12) (oi := { dst := some 17, op := _, type := _, pos := _, after := _, guard := _ }) (v := ?vd12) rfl (by kernel_rfl) (by kernel_rfl) (by kernel_rfl) (fun _ _ _ h => h) (Or.inl ⟨by kernel_rfl, ?yd12⟩) (by assumption) ?rd12
    case yd12 => intro w hSw; obtain ⟨c1, c2, c3, c4, c5, c6, c7, c8, _⟩ := hSw; (try dsimp only at hSw); go_simp; try with_reducible rfl
    try simp only [Act.put, List.setIfInBounds_toArray, List.set_cons_zero, List.set_cons_succ]
    refine wpAnyH_take (i := 13) (oi := { dst := some 18, op := _, type := _, pos := _, after := _, guard := _ }) (v := ?vd13) rfl (by kernel_rfl) (by kernel_rfl) (by kernel_rfl) (fun _ _ _ h => h) (Or.inl ⟨by kernel_rfl, ?yd13⟩) (by assumption) ?rd13
    case yd13 => intro w hSw; obtain ⟨c1, c2, c3, c4, c5, c6, c7, c8, _⟩ := hSw; (try dsimp only at hSw); go_simp; try with_reducible rfl
    try simp only [Act.put, List.setIfInBounds_toArray, List.set_cons_zero, List.set_cons_succ]
    refine wpAnyH_take (i := 14) (oi := { dst := some 19, op := _, type := _, pos := _, after := _, guard := _ }) (v := ?vd14) rfl (by kernel_rfl) (by kernel_rfl) (by kernel_rfl) (fun _ _ _ h => h) (Or.inl ⟨by kernel_rfl, ?yd14⟩) (by assumption) ?rd14
    case yd14 => intro w hSw; obtain ⟨c1, c2, c3, c4, c5, c6, c7, c8, _⟩ := hSw; (try dsimp only at hSw); go_simp; try with_reducible rfl
    try simp only [Act.put, List.setIfInBounds_toArray, List.set_cons_zero, List.set_cons_succ]
    refine wpAnyH_take (i := 15) (oi := { dst := some 20, op := _, type := _, pos := _, after := _, guard := _ }) (v := undef) rfl (by kernel_rfl) (by kernel_rfl) (by kernel_rfl) (fun _ _ _ h => h) (Or.inr ⟨by kernel_rfl, rfl⟩) (by assumption) ?_
    try simp only [Act.put, List.setIfInBounds_toArray, List.set_cons_zero, List.set_cons_succ]
    refine wpAnyH_take (i := 16) (oi := { dst := some 21, op := _, type := _, pos := _, after := _, guard := _ }) (v := undef) rfl (by kernel_rfl) (by kernel_rfl) (by kernel_rfl) (fun _ _ _ h => h) (Or.inr ⟨by kernel_rfl, rfl⟩) (by assumption) ?_
    try simp only [Act.put, List.setIfInBounds_toArray, List.set_cons_zero, List.set_cons_succ]
    refine wpAnyH_take (i := 17) (oi := { dst := some 22, op := _, type := _, pos := _, after := _, guard := _ }) (v := undef) rfl (by kernel_rfl) (by kernel_rfl) (by kernel_rfl) (fun _ _ _ h => h) (Or.inr ⟨by kernel_rfl, rfl⟩) (by assumption) ?_
    try simp only [Act.put, List.setIfInBounds_toArray, List.set_cons_zero, List.set_cons_succ]
    refine wpAnyH_take (i := 18) (oi := { dst := some 23, op := _, type := _, pos := _, after := _, guard := _ }) (v := undef) rfl (by kernel_rfl) (by kernel_rfl) (by kernel_rfl) (fun _ _ _ h => h) (Or.inr ⟨by kernel_rfl, rfl⟩) (by assumption) ?_
    try simp only [Act.put, List.setIfInBounds_toArray, List.set_cons_zero, List.set_cons_succ]
    refine wpAnyH_take (i := 19) (oi := { dst := some 24, op := _, type := _, pos := _, after := _, guard := _ }) (v := undef) rfl (by kernel_rfl) (by kernel_rfl) (by kernel_rfl) (fun _ _ _ h => h) (Or.inr ⟨by kernel_rfl, rfl⟩) (by assumption) ?_
    try simp only [Act.put, List.setIfInBounds_toArray, List.set_cons_zero, List.set_cons_succ]
    refine wpAnyH_take (i := 20) (oi := { dst := some 25, op := _, type := _, pos := _, after := _, guard := _ }) (v := undef) rfl (by kernel_rfl) (by kernel_rfl) (by kernel_rfl) (fun _ _ _ h => h) (Or.inr ⟨by kernel_rfl, rfl⟩) (by assumption) ?_
    try simp only [Act.put, List.setIfInBounds_toArray, List.set_cons_zero, List.set_cons_succ]
    refine wpAnyH_take (i := 21) (oi := { dst := some 26, op := _, type := _, pos := _, after := _, guard := _ }) (v := undef) rfl (by kernel_rfl) (by kernel_rfl) (by kernel_rfl) (fun _ _ _ h => h) (Or.inr ⟨by kernel_rfl, rfl⟩) (by assumption) ?_
    try simp only [Act.put, List.setIfInBounds_toArray, List.set_cons_zero, List.set_cons_succ]
    refine wpAnyH_take (i := 22) (oi := { dst := some 27, op := _, type := _, pos := _, after := _, guard := _ }) (v := undef) rfl (by kernel_rfl) (by kernel_rfl) (by kernel_rfl) (fun _ _ _ h => h) (Or.inr ⟨by kernel_rfl, rfl⟩) (by assumption) ?_
    try simp only [Act.put, List.setIfInBounds_toArray, List.set_cons_zero, List.set_cons_succ]
    refine wpAnyH_take (i := 23) (oi := { dst := some 28, op := _, type := _, pos := _, after := _, guard := _ }) (v := undef) rfl (by kernel_rfl) (by kernel_rfl) (by kernel_rfl) (fun _ _ _ h => h) (Or.inr ⟨by kernel_rfl, rfl⟩) (by assumption) ?_
    try simp only [Act.put, List.setIfInBounds_toArray, List.set_cons_zero, List.set_cons_succ]
    refine wpAnyH_take (i := 24) (oi := { dst := some 29, op := _, type := _, pos := _, after := _, guard := _ }) (v := undef) rfl (by kernel_rfl) (by kernel_rfl) (by kernel_rfl) (fun _ _ _ h => h) (Or.inr ⟨by kernel_rfl, rfl⟩) (by assumption) ?_
    try simp only [Act.put, List.setIfInBounds_toArray, List.set_cons_zero, List.set_cons_succ]
    refine wpAnyH_take (i := 25) (oi := { dst := some 30, op := _, type := _, pos := _, after := _, guard := _ }) (v := undef) rfl (by kernel_rfl) (by kernel_rfl) (by kernel_rfl) (fun _ _ _ h => h) (Or.inr ⟨by kernel_rfl, rfl⟩) (by assumption) ?_
    try simp only [Act.put, List.setIfInBounds_toArray, List.set_cons_zero, List.set_cons_succ]
    refine wpAnyH_take (i := 26) (oi := { dst := some 31, op := _, type := _, pos := _, after := _, guard := _ }) (v := undef) rfl (by kernel_rfl) (by kernel_rfl) (by kernel_rfl) (fun _ _ _ h => h) (Or.inr ⟨by kernel_rfl, rfl⟩) (by assumption) ?_
    try simp only [Act.put, List.setIfInBounds_toArray, List.set_cons_zero, List.set_cons_succ]
    refine wpAnyH_take (i := 27) (oi := { dst := some 32, op := _, type := _, pos := _, after := _, guard := _ }) (v := undef) rfl (by kernel_rfl) (by kernel_rfl) (by kernel_rfl) (fun _ _ _ h => h) (Or.inr ⟨by kernel_rfl, rfl⟩) (by assumption) ?_
    try simp only [Act.put, List.setIfInBounds_toArray, List.set_cons_zero, List.set_cons_succ]
    refine wpAnyH_take (i := 28) (oi := { dst := some 33, op := _, type := _, pos := _, after := _, guard := _ }) (v := undef) rfl (by kernel_rfl) (by kernel_rfl) (by kernel_rfl) (fun _ _ _ h => h) (Or.inr ⟨by kernel_rfl, rfl⟩) (by assumption) ?_
    try simp only [Act.put, List.setIfInBounds_toArray, List.set_cons_zero, List.set_cons_succ]
    refine wpAnyH_take (i := 29) (oi := { dst := some 34, op := _, type := _, pos := _, after := _, guard := _ }) (v := ?ve29) rfl (by kernel_rfl) (by kernel_rfl) (by kernel_rfl) (fun _ _ _ h => h) (Or.inl ⟨by kernel_rfl, ?ye29⟩) (by assumption) ?re29
    case ye29 => intro w hSw; obtain ⟨c1, c2, c3, c4, c5, c6, c7, c8, _⟩ := hSw; (try dsimp only at hSw); go_simp; try with_reducible rfl
    try simp only [Act.put, List.setIfInBounds_toArray, List.set_cons_zero, List.set_cons_succ]
    refine wpAnyH_take (i := 30) (oi := { dst := some 4, op := _, type := _, pos := _, after := _, guard := _ }) (v := ?ve30) rfl (by kernel_rfl) (by kernel_rfl) (by kernel_rfl) (fun _ _ _ h => h) (Or.inl ⟨by kernel_rfl, ?ye30⟩) (by assumption) ?re30
    case ye30 => intro w hSw; obtain ⟨c1, c2, c3, c4, c5, c6, c7, c8, _⟩ := hSw; (try dsimp only at hSw); go_simp; try with_reducible rfl
    try simp only [Act.put, List.setIfInBounds_toArray, List.set_cons_zero, List.set_cons_succ]
    refine wpAnyH_done (by kernel_rfl) ?_ _
    go_wp2
    go_ret
    exact ⟨by rw [Hv.out]; rfl, hHeld3.end_⟩

set_option maxHeartbeats 1000000 in
theorem implChartValid_b (A : Option Addr) (c : Nat) (ss : List Rot) (w : World) (ha : ArgK w A c ss) :
    Calls Try.prog 38 #[.slice A ss.length c] w (RetB (.bool (chartB ss)) w) := by
  have hl := ha.len
  have HA := Lib.hid ha
  clear ha
  go_enter Try.func38, Try.ntmps38
  by_cases h1 : 8 < ss.length
  · have g1 : (8 : Int) < (ss.length : Int) := by omega
    have Hv := Lib.hid (chart_long h1)
    clear h1
    go_wp2
    go_ret
    exact ⟨by rw [Hv.out] <;> rfl, Below.refl _ _⟩
  have g1 : ¬ (8 : Int) < (ss.length : Int) := by omega
  have g2 : ss.length ≤ 8 := by omega
  clear h1
  go_wp2
  go_loopw [10] (fun i wr => ∃ k : Nat, k ≤ ss.length ∧ rtTo ss k ∧ i = .int .i64 k ∧ Below w.heap.size w wr) (fun i _ => ss.length - (intOf i).toNat)
  case atStart => exact ⟨0, Nat.zero_le _, rtTo_zero _, rfl, Below.refl _ _⟩
  case round =>
    obtain ⟨k, hk, ho, rfl, hb⟩ := hrel
    have Ho := Lib.hid ho
    have Hb := Lib.hid hb
    clear ho hb
    by_cases hlt : k < ss.length
    · obtain ⟨b, off, rfl, _, hbw, hc0, hc1, hc2, hc3⟩ := (HA.out.go Hb.out).rd.at_ hlt
      have hyes := fun h => rtTo_succ Ho.out hlt h
      have hno := fun h => rtTo_not hlt h
      obtain ⟨s, hs⟩ : ∃ s, rotAt ss k = s := ⟨_, rfl⟩
      rw [hs] at hc0 hc1 hc2 hc3 hyes hno
      have Hyes := Lib.hid hyes
      have Hno := Lib.hid hno
      clear hs hyes hno
      have g3 : (k : Int) < (ss.length : Int) := by omega
      go_wp2_with fail
      refine (valid_c s _).mono ?_
      rintro e w' ⟨rfl, hb2⟩
      have Hb2 := Lib.hid (below_step (Hb.out.alloc Hb.out.size _) hb2)
      clear hb2
      cases e1 : rtOk s
      · have Hn := Lib.hid (Hno.out e1)
        clear e1
        go_wp2
        go_ret
        exact ⟨by rw [Hn.out] <;> rfl, Hb2.out⟩
      have Hn := Lib.hid (Hyes.out e1)
      clear e1
      go_wp2
      go_roundw
      case rel => exact ⟨k + 1, by omega, Hn.out, by go_num, Hb2.out⟩
      case measure => simp [intOf]; omega
    · obtain rfl : k = ss.length := by omega
      have Hv := Lib.hid (rtTo_all Ho.out)
      go_wp2
      go_ret
      exact ⟨by rw [Hv.out, decide_eq_true g2] <;> rfl, Hb.out⟩

set_option maxHeartbeats 2000000 in
theorem specChartValid_b (A : Option Addr) (c : Nat) (ss : List Rot) (w : World) (ha : ArgK w A c ss) :
    Calls Try.prog 36 #[.slice A ss.length c] w (RetB (.bool (chartB ss)) w) := by
  have hl := ha.len
  have HA := Lib.hid ha
  clear ha
  go_enter Try.func36, Try.ntmps36
  go_wp2
  go_loopw [3] (fun i wr => ∃ k : Nat, k ≤ ss.length ∧ rtTo ss k ∧ i = .int .i64 k ∧ Below w.heap.size w wr) (fun i _ => ss.length - (intOf i).toNat)
  case atStart => exact ⟨0, Nat.zero_le _, rtTo_zero _, rfl, Below.refl _ _⟩
  case round =>
    obtain ⟨k, hk, ho, rfl, hb⟩ := hrel
    have Ho := Lib.hid ho
    have Hb := Lib.hid hb
    clear ho hb
    by_cases hlt : k < ss.length
    · obtain ⟨b, off, rfl, _, hbw, hc0, hc1, hc2, hc3⟩ := (HA.out.go Hb.out).rd.at_ hlt
      have hyes := fun h => rtTo_succ Ho.out hlt h
      have hno := fun h => rtTo_not hlt h
      obtain ⟨s, hs⟩ : ∃ s, rotAt ss k = s := ⟨_, rfl⟩
      rw [hs] at hc0 hc1 hc2 hc3 hyes hno
      have Hyes := Lib.hid hyes
      have Hno := Lib.hid hno
      clear hs hyes hno
      have g3 : (k : Int) < (ss.length : Int) := by omega

      go_wp2_with fail
      refine (l6In_c _ _ _ _).mono ?_
      rintro e w' ⟨rfl, rfl⟩
      cases e1 : inB s.a 0 20
      · have Hn := Lib.hid (Hno.out (rt_no1 (on_no1 e1)))
        clear e1
        go_wp2
        go_ret
        exact ⟨by rw [Hn.out] <;> rfl, Hb.out.alloc Hb.out.size _⟩
      have E1 := Lib.hid e1
      clear e1
      go_wp2_with fail
      refine (l6In_c _ _ _ _).mono ?_
      rintro e w' ⟨rfl, rfl⟩
      cases e2 : inB s.b 0 20
      · have Hn := Lib.hid (Hno.out (rt_no1 (on_no2 e2)))
        clear e2
        go_wp2
        go_ret
        exact ⟨by rw [Hn.out] <;> rfl, Hb.out.alloc Hb.out.size _⟩
      have E2 := Lib.hid e2
      clear e2
      go_wp2_with fail
      refine (l6In_c _ _ _ _).mono ?_
      rintro e w' ⟨rfl, rfl⟩
      cases e3 : inB s.c 0 20
      · have Hn := Lib.hid (Hno.out (rt_no2 (on_no1 e3)))
        clear e3
        go_wp2
        go_ret
        exact ⟨by rw [Hn.out] <;> rfl, Hb.out.alloc Hb.out.size _⟩
      have E3 := Lib.hid e3
      clear e3
      go_wp2_with fail
      refine (l6In_c _ _ _ _).mono ?_
      rintro e w' ⟨rfl, rfl⟩
      cases e4 : inB s.d 0 20
      · have Hn := Lib.hid (Hno.out (rt_no2 (on_no2 e4)))
        clear e4
        go_wp2
        go_ret
        exact ⟨by rw [Hn.out] <;> rfl, Hb.out.alloc Hb.out.size _⟩
      have E4 := Lib.hid e4
      clear e4
      have hab := on_yes E1.out E2.out
      have hcd := on_yes E3.out E4.out
      by_cases h1 : s.a = s.c
      · by_cases h2 : s.b = s.d
        · have Hn := Lib.hid (Hno.out (rt_no3 h1 h2))
          have u1 : (s.a == s.c) = true := by simp [h1]
          have u2 : (s.b == s.d) = true := by simp [h2]
          clear h1 h2 hab hcd
          go_wp2
          go_ret
          exact ⟨by rw [Hn.out] <;> rfl, Hb.out.alloc Hb.out.size _⟩
        have Hn := Lib.hid (Hyes.out (rt_yes2 hab hcd h2))
        have u1 : (s.a == s.c) = true := by simp [h1]
        have u2 : (s.b == s.d) = false := by simp [h2]
        clear h1 h2 hab hcd
        go_wp2
        go_roundw
        case rel => exact ⟨k + 1, by omega, Hn.out, by go_num, Hb.out.alloc Hb.out.size _⟩
        case measure => simp [intOf]; omega
      have Hn := Lib.hid (Hyes.out (rt_yes1 hab hcd h1))
      have u1 : (s.a == s.c) = false := by simp [h1]
      clear h1 hab hcd
      go_wp2
      go_roundw
      case rel => exact ⟨k + 1, by omega, Hn.out, by go_num, Hb.out.alloc Hb.out.size _⟩
      case measure => simp [intOf]; omega
    · obtain rfl : k = ss.length := by omega
      have Hv := Lib.hid (rtTo_all Ho.out)
      by_cases h8 : ss.length ≤ 8
      · have g8 : (ss.length : Int) ≤ 8 := by omega
        go_wp2
        go_ret
        exact ⟨by rw [Hv.out, decide_eq_true h8] <;> rfl, Hb.out⟩
      · have g8 : ¬ (ss.length : Int) ≤ 8 := by omega
        go_wp2
        go_ret
        exact ⟨by rw [Hv.out, decide_eq_false h8] <;> rfl, Hb.out⟩

theorem has_no {R : List Rot} {k : Int} (h : chartB R = false) : hasR R k = false := by unfold hasR; rw [h]; rfl
theorem has_chart {R : List Rot} {k : Int} (h : chartB R = true) : hasR R k = inB k 0 ((R.length : Int) - 1) := by unfold hasR; rw [h]; rfl

set_option maxHeartbeats 1000000 in
theorem hasRoute_c (A : Option Addr) (c : Nat) (ss : List Rot) (k : Int) (w : World) (ha : ArgK w A c ss) :
    Calls Try.prog 82 #[.slice A ss.length c, .int .i64 k] w (RetB (.bool (hasR ss k)) w) := by
  have hl := ha.len
  have HA := Lib.hid ha
  clear ha
  have q1 : IntKind.i64.wrap ((ss.length : Int) - 1) = (ss.length : Int) - 1 := IntWalk.i64_in _ (by omega)
  go_enter Try.func82, Try.ntmps82
  go_wp2_with fail
  refine (implChartValid_b _ _ _ _ HA.out).mono ?_
  rintro e w1 ⟨rfl, hb⟩
  have Hb := Lib.hid hb
  clear hb
  cases e1 : chartB ss
  · have Hv := Lib.hid (has_no (k := k) e1)
    clear e1
    go_wp2
    go_ret
    exact ⟨by rw [Hv.out] <;> rfl, Hb.out⟩
  have Hv := Lib.hid (has_chart (k := k) e1)
  clear e1
  go_wp2_with fail
  refine (inRange_c _ _ _ _).mono ?_
  rintro e w' ⟨rfl, rfl⟩
  go_wp2
  go_ret
  exact ⟨by rw [Hv.out] <;> rfl, Hb.out⟩

set_option maxHeartbeats 1000000 in
theorem l9Has_c (A : Option Addr) (c : Nat) (ss : List Rot) (k : Int) (w : World) (ha : ArgK w A c ss) :
    Calls Try.prog 85 #[.slice A ss.length c, .int .i64 k] w (RetB (.bool (hasR ss k)) w) := by
  have hl := ha.len
  have HA := Lib.hid ha
  clear ha
  have q1 : IntKind.i64.wrap ((ss.length : Int) - 1) = (ss.length : Int) - 1 := IntWalk.i64_in _ (by omega)
  go_enter Try.func85, Try.ntmps85
  go_wp2_with fail
  refine (specChartValid_b _ _ _ _ HA.out).mono ?_
  rintro e w1 ⟨rfl, hb⟩
  have Hb := Lib.hid hb
  clear hb
  cases e1 : chartB ss
  · have Hv := Lib.hid (has_no (k := k) e1)
    clear e1
    go_wp2
    go_ret
    exact ⟨by rw [Hv.out] <;> rfl, Hb.out⟩
  have Hv := Lib.hid (has_chart (k := k) e1)
  clear e1
  go_wp2_with fail
  refine (l6In_c _ _ _ _).mono ?_
  rintro e w' ⟨rfl, rfl⟩
  go_wp2
  go_ret
  exact ⟨by rw [Hv.out] <;> rfl, Hb.out⟩

end Go.Proofs.Ytjboamhjfncgdaa
