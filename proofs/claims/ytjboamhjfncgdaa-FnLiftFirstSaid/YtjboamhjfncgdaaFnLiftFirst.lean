/-
  The law FnLiftFirst: for all codes the law answers true. No condition.
-/
import Derived.Test.YtjboamhjfncgdaaFac
import Derived.Test.YtjboamhjfncgdaaRowB
import Derived.Test.YtjboamhjfncgdaaSame
import Derived.Test.YtjboamhjfncgdaaCtE
import Derived.Test.YtjboamhjfncgdaaRtH
import Derived.Test.YtjboamhjfncgdaaRtGs
import Derived.Test.YtjboamhjfncgdaaRtQ
import Derived.Deep.RegionHeld3
namespace Go.Proofs.Ytjboamhjfncgdaa
open Go.ChangeShapes Go.WideShapes Go.ChangeAt Go.RowKit

/-- the first i are ascending -/
def ascB (T : List Int) : Nat → Bool
  | 0 => true
  | 1 => true
  | i + 2 => ascB T (i + 1) && decide (T[i]?.getD 0 < T[i + 1]?.getD 0)
theorem ascB_succ (T : List Int) (i : Nat) : ascB T (i + 2) = (ascB T (i + 1) && decide (T[i]?.getD 0 < T[i + 1]?.getD 0)) := rfl
theorem ascB_all {R : List Rot} (h : crsN R R.length = 0) : ∀ i, i ≤ R.length → ascB (ordF R R.length) i = true
  | 0, _ => rfl
  | 1, _ => rfl
  | i + 2, hi => by rw [ascB_succ, ascB_all h (i + 1) (by omega), decide_eq_true (ordF_up h (by omega))]; rfl
theorem asc_crs {R : List Rot} (hc : chartB R = true) (h : ascB (ordF R R.length) R.length = false) : 0 < crsV R := by
  rw [crsV_yes hc]
  have : crsN R R.length ≠ 0 := fun e => by rw [ascB_all e _ (Nat.le_refl _)] at h; cases h
  omega
theorem own_posI {W : World} {base : Nat} {e : TypeId} {size n : Nat} {v : Value} {xs : List Value} (h : W.ownsRow base e size v n xs) (hp : 0 < n) : ∃ g cap, v = .slice (some ⟨g, 0, none⟩) n cap := by
  rcases h.2 with ⟨_, h0⟩ | ⟨g, cap, cur, e, _⟩
  · omega
  · exact ⟨g, cap, e⟩
theorem ctx_next2 {w w3 : World} {t : TypeId} {v1 : Value} {r : List Int} (hown : w3.ownsRow w.heap.size t 1 v1 ([] ++ r).length (([] ++ r).map (Value.int .i64))) (hg : (w.alloc (.cells #[] t)).grownBy w3 (Value.ownBlock (.slice (some ⟨w.heap.size, 0, none⟩) 0 0))) :
    w3.ownsRow w.heap.size t 1 v1 r.length (r.map (Value.int .i64)) ∧ Below w.heap.size w w3 := by
  rw [List.nil_append] at hown
  exact ⟨hown, (below_none w t).grown hg (by simp) (fun k e => by simp [Value.ownBlock] at e; omega)⟩
theorem cell_some_int {W : World} {a : Addr} {T : List Int} {j : Nat} (h : W.cell? a = (T[j]?).map (Value.int .i64)) (hj : j < T.length) : W.cell? a = some (.int .i64 (T[j]?.getD 0)) := by rw [h]; simp [hj]
theorem cell_set_int {W : World} {a : Addr} {T : List Int} {i j : Nat} {u : Value} (h : W.cell? a = ((T.map (Value.int .i64)).set i u)[j]?) (hij : i ≠ j) (hj : j < T.length) : W.cell? a = some (.int .i64 (T[j]?.getD 0)) := by rw [h, List.getElem?_set_ne hij]; simp [hj]
theorem swap_cells (T : List Int) (i : Nat) : (((T.map (Value.int .i64)).set (i + 1) (.int .i64 (T[i]?.getD 0))).set i (.int .i64 (T[i + 1]?.getD 0))) = (swapI T i).map (Value.int .i64) := by
  unfold swapI; rw [List.map_set, List.map_set]

set_option maxRecDepth 100000 in
set_option maxHeartbeats 8000000 in
theorem fnLiftFirst_in (A0 : Option Addr) (n0 c0 : Nat) (w : World) (hl0 : n0 ≤ 1048576) (hc0 : n0 ≤ c0) (hb0 : Bytes w.heap.size w A0 n0) :
    Calls Try.prog 3 #[.slice A0 n0 c0] w (RetB (.bool true) w) := by
  obtain ⟨i0, hi, hz0, hz1, hz2⟩ := info_parts intInf
  have Hb := Lib.hid hb0
  clear hb0
  have u0 : ¬ (1048576 : Int) < (n0 : Int) := by omega
  go_enter Try.func3, Try.ntmps3
  go_wp2_with fail
  refine (DrawLiftFirst_c A0 n0 c0 _ (by omega) hc0 Hb.out).mono ?_
  rintro e w1 ⟨B, d, zs, rfl, hzl, hA, hB⟩
  have Ha := Lib.hid hA
  have Bt := Lib.hid hB
  clear hA hB Hb
  go_wp2_with fail
  refine (implLiftFirst_b B d zs _ Ha.out).mono ?_
  rintro e w2 ⟨B1, d1, rfl, ra, _, hb2⟩
  replace Ha := Lib.hid (Ha.out.go hb2)
  replace Bt := Lib.hid (below_step Bt.out hb2)
  have Ra := Lib.hid ra
  clear ra hb2
  dsimp only
  go_wp2_with fail
  refine (specLiftFirst_b B d zs _ Ha.out).mono ?_
  rintro e w3 ⟨B2, d2, rfl, ra, _, hb3⟩
  replace Ha := Lib.hid (Ha.out.go hb3)
  replace Bt := Lib.hid (below_step Bt.out hb3)
  have Rb := Lib.hid ra
  replace Ra := Lib.hid (Ra.out.go hb3)
  clear ra hb3
  dsimp only
  cases hv : chartB zs
  · clear hv
    go_wp2_with fail
    refine (sameInts_c _ _ _ _ _ _ _ Ra.out Rb.out).mono ?_
    rintro e w4 ⟨rfl, q4, rfl⟩
    rw [decide_eq_true rfl]
    go_wp2_with fail
    refine (sameInts_c _ _ _ _ _ _ _ (Ra.out.go (below_drewN (Below.refl _ _) q4)) (Rb.out.go (below_drewN (Below.refl _ _) q4))).mono ?_
    rintro e w5 ⟨rfl, q5, rfl⟩
    rw [decide_eq_true rfl]
    go_wp2
    go_ret
    exact ⟨rfl, below_drewN Bt.out (q4 + q5)⟩
  go_wp2_with fail
  refine (sameInts_c _ _ _ _ _ _ _ Ra.out Rb.out).mono ?_
  rintro e w4 ⟨rfl, q4, hq4⟩
  rw [decide_eq_true rfl]
  have hb4 : Below w3.heap.size w3 w4 := by rw [hq4]; exact below_drewN (Below.refl _ _) q4
  have HA := Lib.hid (Ha.out.go hb4)
  have HT0 := Ra.out.go hb4
  have Bt4 := Lib.hid (below_step Bt.out hb4)
  have hval := ordF_valid hv
  have hleast := fun i (h : i + 1 < zs.length) hlt => ordF_least (R := zs) h hlt
  have hasc := asc_crs hv
  have hTl := ordF_len zs zs.length
  rw [firstV_yes hv] at HT0 ⊢
  obtain ⟨T, hT⟩ : ∃ T, ordF zs zs.length = T := ⟨_, rfl⟩
  rw [hT] at HT0 hval hleast hasc hTl ⊢
  rw [← hTl] at hleast hasc
  have HT := Lib.hid HT0
  have Hval := Lib.hid hval
  have Hleast := Lib.hid hleast
  have Hasc := Lib.hid hasc
  have hT8 : T.length ≤ 10 := by omega
  clear hq4 hb4 HT0 hval hleast hasc hTl hT hv Ha Ra Rb Bt
  go_wp2
  go_loopw [8, 9] (fun x i wr => ∃ k : Nat, (k = 1 ∨ k ≤ T.length) ∧ 1 ≤ k ∧ i = .int .i64 k ∧ x = .bool (ascB T k) ∧ Below w4.heap.size w4 wr) (fun _ i _ => T.length + 1 - (intOf i).toNat)
  case atStart => exact ⟨1, .inl rfl, Nat.le_refl _, rfl, rfl, Below.refl _ _⟩
  case round =>
    obtain ⟨k, hk, hk1, rfl, rfl, hb⟩ := hrel
    have Hb := Lib.hid hb
    clear hb
    by_cases hlt : k < T.length
    · obtain ⟨j, rfl⟩ : ∃ j, k = j + 1 := ⟨k - 1, by omega⟩
      obtain ⟨bT, offT, rfl, h1⟩ := argI_at HT.out (k := j + 1) hlt
      obtain ⟨bT', offT', eb, h0⟩ := argI_at HT.out (k := j) (by omega)
      injection eb with eb
      injection eb with eb eo _
      subst eb
      subst eo
      have hsu := ascB_succ T j
      have hls := Hleast.out j hlt
      have hsw := swap_cells T j
      obtain ⟨y, hy⟩ : ∃ y, T[j + 1]?.getD 0 = y := ⟨_, rfl⟩
      obtain ⟨x, hx⟩ : ∃ x, T[j]?.getD 0 = x := ⟨_, rfl⟩
      rw [hy] at h1 hsu hls hsw
      rw [hx] at h0 hsu hls hsw
      have Hat1 := Lib.hid (fun W (h : Below w4.heap.size w4 W) => h1 W h)
      have Hat0 := Lib.hid (fun W (h : Below w4.heap.size w4 W) => h0 W h)
      have Hsu := Lib.hid hsu
      have Hls := Lib.hid hls
      have Hsw := Lib.hid hsw
      have e1 : ((j + 1 : Nat) : Int) = (j : Int) + 1 := by omega
      have g1 : (j : Int) + 1 < (T.length : Int) := by omega
      have g2 : (j : Int) < (T.length : Int) := by omega
      have q1 : IntKind.i64.wrap (j : Int) = (j : Int) := IntWalk.i64_in _ (by omega)
      have q2 : IntKind.i64.wrap ((j : Int) + 1 + 1) = (j : Int) + 1 + 1 := IntWalk.i64_in _ (by omega)
      have g3 : (0 : Int) ≤ (j : Int) + 1 := by omega
      have g4 : ((j : Int) + 1).toNat = j + 1 := by omega
      have g5 : (j : Int) + 1 - 1 = (j : Int) := by omega
      rw [e1]
      clear hx hy h0 h1 hsu hls hsw hk
      have hnext : ∀ bb, ascB T (j + 1) = bb → ascB T (j + 1 + 1) = (bb && decide (x < y)) := fun bb h => by rw [Hsu.out, h]
      obtain ⟨bb, hbb⟩ : ∃ bb, ascB T (j + 1) = bb := ⟨_, rfl⟩
      have Hnext := Lib.hid (hnext bb hbb)
      rw [hbb]
      clear hbb hnext Hsu
      go_wp2
      have HATf := Lib.hid (And.intro Hat0.out Hat1.out)
      cases bb
      · skip
        refine wp_region_held_drew (S := (fun W => Below w4.heap.size w4 W)) (by kernel_rfl) (below_drewN Hb.out 1) (fun hHeld => ?_)
        refine wpAnyH_take (i := 0) (oi := { dst := some 53, op := _, type := _, pos := _, after := _, guard := _ }) (v := ?vb0) rfl (by kernel_rfl) (by kernel_rfl) (by kernel_rfl) (fun _ _ _ h => h) (Or.inl ⟨by kernel_rfl, ?yb0⟩) (by assumption) ?rb0
        case yb0 => intro w hSw; (try dsimp only at hSw); go_simp; try with_reducible rfl
        try simp only [Act.put, List.setIfInBounds_toArray, List.set_cons_zero, List.set_cons_succ]
        refine wpAnyH_take (i := 1) (oi := { dst := some 54, op := _, type := _, pos := _, after := _, guard := _ }) (v := ?vb1) rfl (by kernel_rfl) (by kernel_rfl) (by kernel_rfl) (fun _ _ _ h => h) (Or.inl ⟨by kernel_rfl, ?yb1⟩) (by assumption) ?rb1
        case yb1 => intro w hSw; (try dsimp only at hSw); go_simp; try with_reducible rfl
        try simp only [Act.put, List.setIfInBounds_toArray, List.set_cons_zero, List.set_cons_succ]
        refine wpAnyH_take (i := 2) (oi := { dst := some 55, op := _, type := _, pos := _, after := _, guard := _ }) (v := undef) rfl (by kernel_rfl) (by kernel_rfl) (by kernel_rfl) (fun _ _ _ h => h) (Or.inr ⟨by kernel_rfl, rfl⟩) (by assumption) ?_
        try simp only [Act.put, List.setIfInBounds_toArray, List.set_cons_zero, List.set_cons_succ]
        refine wpAnyH_take (i := 3) (oi := { dst := some 56, op := _, type := _, pos := _, after := _, guard := _ }) (v := undef) rfl (by kernel_rfl) (by kernel_rfl) (by kernel_rfl) (fun _ _ _ h => h) (Or.inr ⟨by kernel_rfl, rfl⟩) (by assumption) ?_
        try simp only [Act.put, List.setIfInBounds_toArray, List.set_cons_zero, List.set_cons_succ]
        refine wpAnyH_take (i := 4) (oi := { dst := some 57, op := _, type := _, pos := _, after := _, guard := _ }) (v := undef) rfl (by kernel_rfl) (by kernel_rfl) (by kernel_rfl) (fun _ _ _ h => h) (Or.inr ⟨by kernel_rfl, rfl⟩) (by assumption) ?_
        try simp only [Act.put, List.setIfInBounds_toArray, List.set_cons_zero, List.set_cons_succ]
        refine wpAnyH_take (i := 5) (oi := { dst := some 58, op := _, type := _, pos := _, after := _, guard := _ }) (v := undef) rfl (by kernel_rfl) (by kernel_rfl) (by kernel_rfl) (fun _ _ _ h => h) (Or.inr ⟨by kernel_rfl, rfl⟩) (by assumption) ?_
        try simp only [Act.put, List.setIfInBounds_toArray, List.set_cons_zero, List.set_cons_succ]
        refine wpAnyH_take (i := 6) (oi := { dst := some 59, op := _, type := _, pos := _, after := _, guard := _ }) (v := undef) rfl (by kernel_rfl) (by kernel_rfl) (by kernel_rfl) (fun _ _ _ h => h) (Or.inr ⟨by kernel_rfl, rfl⟩) (by assumption) ?_
        try simp only [Act.put, List.setIfInBounds_toArray, List.set_cons_zero, List.set_cons_succ]
        refine wpAnyH_take (i := 7) (oi := { dst := some 60, op := _, type := _, pos := _, after := _, guard := _ }) (v := undef) rfl (by kernel_rfl) (by kernel_rfl) (by kernel_rfl) (fun _ _ _ h => h) (Or.inr ⟨by kernel_rfl, rfl⟩) (by assumption) ?_
        try simp only [Act.put, List.setIfInBounds_toArray, List.set_cons_zero, List.set_cons_succ]
        refine wpAnyH_take (i := 8) (oi := { dst := some 61, op := _, type := _, pos := _, after := _, guard := _ }) (v := undef) rfl (by kernel_rfl) (by kernel_rfl) (by kernel_rfl) (fun _ _ _ h => h) (Or.inr ⟨by kernel_rfl, rfl⟩) (by assumption) ?_
        try simp only [Act.put, List.setIfInBounds_toArray, List.set_cons_zero, List.set_cons_succ]
        refine wpAnyH_take (i := 9) (oi := { dst := some 62, op := _, type := _, pos := _, after := _, guard := _ }) (v := undef) rfl (by kernel_rfl) (by kernel_rfl) (by kernel_rfl) (fun _ _ _ h => h) (Or.inr ⟨by kernel_rfl, rfl⟩) (by assumption) ?_
        try simp only [Act.put, List.setIfInBounds_toArray, List.set_cons_zero, List.set_cons_succ]
        refine wpAnyH_take (i := 10) (oi := { dst := some 63, op := _, type := _, pos := _, after := _, guard := _ }) (v := undef) rfl (by kernel_rfl) (by kernel_rfl) (by kernel_rfl) (fun _ _ _ h => h) (Or.inr ⟨by kernel_rfl, rfl⟩) (by assumption) ?_
        try simp only [Act.put, List.setIfInBounds_toArray, List.set_cons_zero, List.set_cons_succ]
        refine wpAnyH_take (i := 11) (oi := { dst := some 64, op := _, type := _, pos := _, after := _, guard := _ }) (v := undef) rfl (by kernel_rfl) (by kernel_rfl) (by kernel_rfl) (fun _ _ _ h => h) (Or.inr ⟨by kernel_rfl, rfl⟩) (by assumption) ?_
        try simp only [Act.put, List.setIfInBounds_toArray, List.set_cons_zero, List.set_cons_succ]
        refine wpAnyH_take (i := 12) (oi := { dst := some 65, op := _, type := _, pos := _, after := _, guard := _ }) (v := ?vb12) rfl (by kernel_rfl) (by kernel_rfl) (by kernel_rfl) (fun _ _ _ h => h) (Or.inl ⟨by kernel_rfl, ?yb12⟩) (by assumption) ?rb12
        case yb12 => intro w hSw; (try dsimp only at hSw); go_simp; try with_reducible rfl
        try simp only [Act.put, List.setIfInBounds_toArray, List.set_cons_zero, List.set_cons_succ]
        refine wpAnyH_take (i := 13) (oi := { dst := some 8, op := _, type := _, pos := _, after := _, guard := _ }) (v := ?vb13) rfl (by kernel_rfl) (by kernel_rfl) (by kernel_rfl) (fun _ _ _ h => h) (Or.inl ⟨by kernel_rfl, ?yb13⟩) (by assumption) ?rb13
        case yb13 => intro w hSw; (try dsimp only at hSw); go_simp; try with_reducible rfl
        try simp only [Act.put, List.setIfInBounds_toArray, List.set_cons_zero, List.set_cons_succ]
        refine wpAnyH_done (by kernel_rfl) ?_ _
        have Hbd := Lib.hid (show Below w4.heap.size w4 wr.drew from below_drewN Hb.out 1)
        obtain ⟨wq, hwq⟩ : ∃ wq, wq = wr.drew := ⟨_, rfl⟩
        rw [← hwq]
        rw [← hwq] at Hbd
        clear hwq hHeld
        go_wp2_with (at_builtin; refine wpList_append_ints rfl (.tmp 66) (.tmp 67) 25 rfl wq.heap.size 3 i0 (.int .i64 0) Try.underlying25 hi hz0 hz1 hz2 rfl (.slice (some ⟨wq.heap.size, 0, none⟩) 0 0) [] rfl (own_none wq _) (some ⟨bT, offT, none⟩) d1 T rfl ((HT.out.go Hbd.out).go (below_none wq _)) (by simp; omega) (by simp) ?_; intro v6 w6 hown6 hg6; have H6 := Lib.hid (ctx_next2 hown6 hg6); clear hown6 hg6; obtain ⟨g, cap, rfl⟩ := own_posI H6.out.1 (by omega); have H6g := Lib.hid (H6.out.1.lt g rfl).1; have Hb6 := Lib.hid (below_step Hbd.out H6.out.2); have hst := H6.out.1.stored (j + 1) (.int .i64 x); have hst2 := hst.1.stored j (.int .i64 y); have Hb7 := Lib.hid (show Below w4.heap.size w4 (w6.setCell ⟨g, j + 1, none⟩ (.int .i64 x)) from Hb6.out.setCell (p := ⟨g, j + 1, none⟩) (Nat.le_trans Hbd.out.size H6g.out) _); have Hb8 := Lib.hid (Hb7.out.setCell (p := ⟨g, j, none⟩) (Nat.le_trans Hbd.out.size H6g.out) (.int .i64 y)); have c1 := Hat1.out _ Hb6.out; have c0' := Hat0.out _ Hb6.out; have c2 := Hat1.out _ Hb7.out; have s1 := H6.out.1.cellAt (j + 1) (by omega); have s1f := H6.out.1.frozenAt (j + 1); have s2 := hst.1.cellAt j (by omega); have s2f := hst.1.frozenAt j; rw [List.getElem?_map] at s1; have hown8 := hst2.1; rw [Hsw.out] at hown8; have H8 := Lib.hid hown8; have s1e := cell_some_int s1 hlt; have s2e := cell_set_int s2 (by omega) (show j < T.length by omega); clear hst hst2 hown8 s1 s2)
        obtain ⟨w8, hw8⟩ : ∃ w8, w8 = (w6.setCell ⟨g, j + 1, none⟩ (.int .i64 x)).setCell ⟨g, j, none⟩ (.int .i64 y) := ⟨_, rfl⟩
        rw [← hw8]
        rw [← hw8] at Hb8 H8
        have HX : Ow 3 wq.heap.size w8.heap.size w8 (.slice (some ⟨g, 0, none⟩) (swapI T j).length cap) (swapI T j) := Ow.of_own (by rw [swapI_len]; exact H8.out)
        have HXa := Lib.hid (HX.arg (by rw [swapI_len]; omega) (Nat.le_refl _))
        have HLV := Lib.hid (fun W ha hb => implLiftValid_b B d zs (some ⟨g, 0, none⟩) cap (swapI T j) W ha hb)
        rw [swapI_len] at HLV
        clear hw8 HX c1 c0' c2 s1e s2e s1f s2f
        refine wp_region_held_drew (S := (fun W => Below w8.heap.size w8 W)) (by kernel_rfl) (below_drewN (Below.refl _ _) 1) (fun hHeld => ?_)
        refine wpAnyH_take (i := 0) (oi := { dst := some 85, op := _, type := _, pos := _, after := _, guard := _ }) (v := ?vms0) rfl (by kernel_rfl) (by kernel_rfl) (by kernel_rfl) (fun _ _ _ h => h) (Or.inl ⟨by kernel_rfl, ?yms0⟩) (by assumption) ?rms0
        case yms0 => intro w hSw; (try dsimp only at hSw); go_simp; try with_reducible rfl
        try simp only [Act.put, List.setIfInBounds_toArray, List.set_cons_zero, List.set_cons_succ]
        refine wpAnyH_take (i := 1) (oi := { dst := some 86, op := _, type := _, pos := _, after := _, guard := _ }) (v := ?vms1) rfl (by kernel_rfl) (by kernel_rfl) (by kernel_rfl) (fun _ _ _ h => h) (Or.inl ⟨by kernel_rfl, ?yms1⟩) (by assumption) ?rms1
        case yms1 => intro w hSw; (try dsimp only at hSw); go_simp; try with_reducible rfl
        try simp only [Act.put, List.setIfInBounds_toArray, List.set_cons_zero, List.set_cons_succ]
        refine wpAnyH_take (i := 2) (oi := { dst := some 87, op := _, type := _, pos := _, after := _, guard := _ }) (v := ?vms2) rfl (by kernel_rfl) (by kernel_rfl) (by kernel_rfl) (fun _ _ _ h => h) (Or.inl ⟨by kernel_rfl, ?yms2⟩) (by assumption) ?rms2
        case yms2 => intro w hSw; (try dsimp only at hSw); go_simp; try with_reducible rfl
        try simp only [Act.put, List.setIfInBounds_toArray, List.set_cons_zero, List.set_cons_succ]
        refine wpAnyH_take (i := 3) (oi := { dst := some 88, op := _, type := _, pos := _, after := _, guard := _ }) (v := ?vms3) rfl (by kernel_rfl) (by kernel_rfl) (by kernel_rfl) (fun _ _ _ h => h) (Or.inl ⟨by kernel_rfl, ?yms3⟩) (by assumption) ?rms3
        case yms3 => intro w hSw; have t1 := Hat1.out _ (below_step Hb8.out hSw); (try dsimp only at hSw); go_simp; try with_reducible rfl
        try simp only [Act.put, List.setIfInBounds_toArray, List.set_cons_zero, List.set_cons_succ]
        refine wpAnyH_take (i := 4) (oi := { dst := some 89, op := _, type := _, pos := _, after := _, guard := _ }) (v := ?vms4) rfl (by kernel_rfl) (by kernel_rfl) (by kernel_rfl) (fun _ _ _ h => h) (Or.inl ⟨by kernel_rfl, ?yms4⟩) (by assumption) ?rms4
        case yms4 => intro w hSw; (try dsimp only at hSw); go_simp; try with_reducible rfl
        try simp only [Act.put, List.setIfInBounds_toArray, List.set_cons_zero, List.set_cons_succ]
        refine wpAnyH_take (i := 5) (oi := { dst := some 90, op := _, type := _, pos := _, after := _, guard := _ }) (v := ?vms5) rfl (by kernel_rfl) (by kernel_rfl) (by kernel_rfl) (fun _ _ _ h => h) (Or.inl ⟨by kernel_rfl, ?yms5⟩) (by assumption) ?rms5
        case yms5 => intro w hSw; (try dsimp only at hSw); go_simp; try with_reducible rfl
        try simp only [Act.put, List.setIfInBounds_toArray, List.set_cons_zero, List.set_cons_succ]
        refine wpAnyH_take (i := 6) (oi := { dst := some 91, op := _, type := _, pos := _, after := _, guard := _ }) (v := ?vms6) rfl (by kernel_rfl) (by kernel_rfl) (by kernel_rfl) (fun _ _ _ h => h) (Or.inl ⟨by kernel_rfl, ?yms6⟩) (by assumption) ?rms6
        case yms6 => intro w hSw; (try dsimp only at hSw); go_simp; try with_reducible rfl
        try simp only [Act.put, List.setIfInBounds_toArray, List.set_cons_zero, List.set_cons_succ]
        refine wpAnyH_take (i := 7) (oi := { dst := some 92, op := _, type := _, pos := _, after := _, guard := _ }) (v := ?vms7) rfl (by kernel_rfl) (by kernel_rfl) (by kernel_rfl) (fun _ _ _ h => h) (Or.inl ⟨by kernel_rfl, ?yms7⟩) (by assumption) ?rms7
        case yms7 => intro w hSw; (try dsimp only at hSw); go_simp; try with_reducible rfl
        try simp only [Act.put, List.setIfInBounds_toArray, List.set_cons_zero, List.set_cons_succ]
        refine wpAnyH_take (i := 8) (oi := { dst := some 93, op := _, type := _, pos := _, after := _, guard := _ }) (v := ?vms8) rfl (by kernel_rfl) (by kernel_rfl) (by kernel_rfl) (fun _ _ _ h => h) (Or.inl ⟨by kernel_rfl, ?yms8⟩) (by assumption) ?rms8
        case yms8 => intro w hSw; have t0 := Hat0.out _ (below_step Hb8.out hSw); (try dsimp only at hSw); go_simp; try with_reducible rfl
        try simp only [Act.put, List.setIfInBounds_toArray, List.set_cons_zero, List.set_cons_succ]
        by_cases hyx : y < x
        · have hf := Hls.out hyx
          refine wpAnyH_take (i := 9) (oi := { dst := some 94, op := _, type := _, pos := _, after := _, guard := _ }) (v := ?vns9) rfl (by kernel_rfl) (by kernel_rfl) (by kernel_rfl) (fun _ _ _ h => h) (Or.inl ⟨by kernel_rfl, ?yns9⟩) (by assumption) ?rns9
          case yns9 => intro w hSw; (try dsimp only at hSw); go_simp; try with_reducible rfl
          try simp only [Act.put, List.setIfInBounds_toArray, List.set_cons_zero, List.set_cons_succ]
          refine wpAnyH_take (i := 10) (oi := { dst := some 95, op := _, type := _, pos := _, after := _, guard := _ }) (v := ?vns10) rfl (by kernel_rfl) (by kernel_rfl) (by kernel_rfl) (fun _ _ _ h => h) (Or.inl ⟨by kernel_rfl, ?yns10⟩) (by assumption) ?rns10
          case yns10 => intro w hSw; (try dsimp only at hSw); go_simp; try with_reducible rfl
          try simp only [Act.put, List.setIfInBounds_toArray, List.set_cons_zero, List.set_cons_succ]
          refine wpAnyH_take (i := 11) (oi := { dst := some 96, op := _, type := _, pos := _, after := _, guard := _ }) (v := ?vns11) rfl (by kernel_rfl) (by kernel_rfl) (by kernel_rfl) (fun _ _ _ h => h) (Or.inl ⟨by kernel_rfl, ?yns11⟩) (by assumption) ?rns11
          case yns11 => intro w hSw; (try dsimp only at hSw); go_simp; try with_reducible rfl
          try simp only [Act.put, List.setIfInBounds_toArray, List.set_cons_zero, List.set_cons_succ]
          refine wpAnyH_take (i := 12) (oi := { dst := some 97, op := _, type := _, pos := _, after := _, guard := _ }) (v := ?vns12) rfl (by kernel_rfl) (by kernel_rfl) (by kernel_rfl) (fun _ _ _ h => h) (Or.inl ⟨by kernel_rfl, ?yns12⟩) (by assumption) ?rns12
          case yns12 => intro w hSw; (try dsimp only at hSw); go_simp; try with_reducible rfl
          try simp only [Act.put, List.setIfInBounds_toArray, List.set_cons_zero, List.set_cons_succ]
          refine wpAnyH_ready (rs := [13]) (by kernel_rfl) (by simp) ?_
          refine AllReadyH.cons (o := { dst := some 98, op := _, type := _, pos := _, after := _, guard := _ }) rfl (fun K hK => ?_) AllReadyH.nil
          go_simp
          refine (HLV.out _ ((HA.out.go Hb8.out).go (by assumption)) (HXa.out.go (by assumption))).mono ?_
          rintro e w10 ⟨rfl, hb10⟩
          rw [hf]
          go_wp2_with fail
          refine hK.out _ _ (below_step hHeld hb10) (fun hHeld2 => ?_)
          clear hK K
          try simp only [Act.put, List.setIfInBounds_toArray, List.set_cons_zero, List.set_cons_succ]
          refine wpAnyH_take (i := 14) (oi := { dst := some 99, op := _, type := _, pos := _, after := _, guard := _ }) (v := ?vps14) rfl (by kernel_rfl) (by kernel_rfl) (by kernel_rfl) (fun _ _ _ h => h) (Or.inl ⟨by kernel_rfl, ?yps14⟩) (by assumption) ?rps14
          case yps14 => intro w hSw; (try dsimp only at hSw); go_simp; try with_reducible rfl
          try simp only [Act.put, List.setIfInBounds_toArray, List.set_cons_zero, List.set_cons_succ]
          refine wpAnyH_done (by kernel_rfl) ?_ _
          go_wp2
          go_roundw
          case rel => exact ⟨j + 1 + 1, .inr (by omega), by omega, by go_num, by rw [Hnext.out] <;> rfl, below_step Hb8.out hHeld2⟩
          case measure => simp [intOf]; omega
        · skip
          refine wpAnyH_take (i := 9) (oi := { dst := some 94, op := _, type := _, pos := _, after := _, guard := _ }) (v := ?vqs9) rfl (by kernel_rfl) (by kernel_rfl) (by kernel_rfl) (fun _ _ _ h => h) (Or.inl ⟨by kernel_rfl, ?yqs9⟩) (by assumption) ?rqs9
          case yqs9 => intro w hSw; (try dsimp only at hSw); go_simp; try with_reducible rfl
          try simp only [Act.put, List.setIfInBounds_toArray, List.set_cons_zero, List.set_cons_succ]
          refine wpAnyH_take (i := 10) (oi := { dst := some 95, op := _, type := _, pos := _, after := _, guard := _ }) (v := ?vqs10) rfl (by kernel_rfl) (by kernel_rfl) (by kernel_rfl) (fun _ _ _ h => h) (Or.inl ⟨by kernel_rfl, ?yqs10⟩) (by assumption) ?rqs10
          case yqs10 => intro w hSw; (try dsimp only at hSw); go_simp; try with_reducible rfl
          try simp only [Act.put, List.setIfInBounds_toArray, List.set_cons_zero, List.set_cons_succ]
          refine wpAnyH_take (i := 11) (oi := { dst := some 96, op := _, type := _, pos := _, after := _, guard := _ }) (v := undef) rfl (by kernel_rfl) (by kernel_rfl) (by kernel_rfl) (fun _ _ _ h => h) (Or.inr ⟨by kernel_rfl, rfl⟩) (by assumption) ?_
          try simp only [Act.put, List.setIfInBounds_toArray, List.set_cons_zero, List.set_cons_succ]
          refine wpAnyH_take (i := 12) (oi := { dst := some 97, op := _, type := _, pos := _, after := _, guard := _ }) (v := undef) rfl (by kernel_rfl) (by kernel_rfl) (by kernel_rfl) (fun _ _ _ h => h) (Or.inr ⟨by kernel_rfl, rfl⟩) (by assumption) ?_
          try simp only [Act.put, List.setIfInBounds_toArray, List.set_cons_zero, List.set_cons_succ]
          refine wpAnyH_take (i := 13) (oi := { dst := some 98, op := _, type := _, pos := _, after := _, guard := _ }) (v := undef) rfl (by kernel_rfl) (by kernel_rfl) (by kernel_rfl) (fun _ _ _ h => h) (Or.inr ⟨by kernel_rfl, rfl⟩) (by assumption) ?_
          try simp only [Act.put, List.setIfInBounds_toArray, List.set_cons_zero, List.set_cons_succ]
          refine wpAnyH_take (i := 14) (oi := { dst := some 99, op := _, type := _, pos := _, after := _, guard := _ }) (v := ?vqs14) rfl (by kernel_rfl) (by kernel_rfl) (by kernel_rfl) (fun _ _ _ h => h) (Or.inl ⟨by kernel_rfl, ?yqs14⟩) (by assumption) ?rqs14
          case yqs14 => intro w hSw; (try dsimp only at hSw); go_simp; try with_reducible rfl
          try simp only [Act.put, List.setIfInBounds_toArray, List.set_cons_zero, List.set_cons_succ]
          refine wpAnyH_done (by kernel_rfl) ?_ _
          go_wp2
          go_roundw
          case rel => exact ⟨j + 1 + 1, .inr (by omega), by omega, by go_num, by rw [Hnext.out] <;> rfl, below_step Hb8.out hHeld⟩
          case measure => simp [intOf]; omega
      · skip
        refine wp_region_held_drew (S := (fun W => Below w4.heap.size w4 W)) (by kernel_rfl) (below_drewN Hb.out 1) (fun hHeld => ?_)
        refine wpAnyH_take (i := 0) (oi := { dst := some 53, op := _, type := _, pos := _, after := _, guard := _ }) (v := ?va0) rfl (by kernel_rfl) (by kernel_rfl) (by kernel_rfl) (fun _ _ _ h => h) (Or.inl ⟨by kernel_rfl, ?ya0⟩) (by assumption) ?ra0
        case ya0 => intro w hSw; (try dsimp only at hSw); go_simp; try with_reducible rfl
        try simp only [Act.put, List.setIfInBounds_toArray, List.set_cons_zero, List.set_cons_succ]
        refine wpAnyH_take (i := 1) (oi := { dst := some 54, op := _, type := _, pos := _, after := _, guard := _ }) (v := ?va1) rfl (by kernel_rfl) (by kernel_rfl) (by kernel_rfl) (fun _ _ _ h => h) (Or.inl ⟨by kernel_rfl, ?ya1⟩) (by assumption) ?ra1
        case ya1 => intro w hSw; (try dsimp only at hSw); go_simp; try with_reducible rfl
        try simp only [Act.put, List.setIfInBounds_toArray, List.set_cons_zero, List.set_cons_succ]
        refine wpAnyH_take (i := 2) (oi := { dst := some 55, op := _, type := _, pos := _, after := _, guard := _ }) (v := ?va2) rfl (by kernel_rfl) (by kernel_rfl) (by kernel_rfl) (fun _ _ _ h => h) (Or.inl ⟨by kernel_rfl, ?ya2⟩) (by assumption) ?ra2
        case ya2 => intro w hSw; (try dsimp only at hSw); go_simp; try with_reducible rfl
        try simp only [Act.put, List.setIfInBounds_toArray, List.set_cons_zero, List.set_cons_succ]
        refine wpAnyH_take (i := 3) (oi := { dst := some 56, op := _, type := _, pos := _, after := _, guard := _ }) (v := ?va3) rfl (by kernel_rfl) (by kernel_rfl) (by kernel_rfl) (fun _ _ _ h => h) (Or.inl ⟨by kernel_rfl, ?ya3⟩) (by assumption) ?ra3
        case ya3 => intro w hSw; (try dsimp only at hSw); go_simp; try with_reducible rfl
        try simp only [Act.put, List.setIfInBounds_toArray, List.set_cons_zero, List.set_cons_succ]
        refine wpAnyH_take (i := 4) (oi := { dst := some 57, op := _, type := _, pos := _, after := _, guard := _ }) (v := ?va4) rfl (by kernel_rfl) (by kernel_rfl) (by kernel_rfl) (fun _ _ _ h => h) (Or.inl ⟨by kernel_rfl, ?ya4⟩) (by assumption) ?ra4
        case ya4 => intro w hSw; (try dsimp only at hSw); go_simp; try with_reducible rfl
        try simp only [Act.put, List.setIfInBounds_toArray, List.set_cons_zero, List.set_cons_succ]
        refine wpAnyH_take (i := 5) (oi := { dst := some 58, op := _, type := _, pos := _, after := _, guard := _ }) (v := ?va5) rfl (by kernel_rfl) (by kernel_rfl) (by kernel_rfl) (fun _ _ _ h => h) (Or.inl ⟨by kernel_rfl, ?ya5⟩) (by assumption) ?ra5
        case ya5 => intro w hSw; have t1 := Hat1.out _ hSw; (try dsimp only at hSw); go_simp; try with_reducible rfl
        try simp only [Act.put, List.setIfInBounds_toArray, List.set_cons_zero, List.set_cons_succ]
        refine wpAnyH_take (i := 6) (oi := { dst := some 59, op := _, type := _, pos := _, after := _, guard := _ }) (v := ?va6) rfl (by kernel_rfl) (by kernel_rfl) (by kernel_rfl) (fun _ _ _ h => h) (Or.inl ⟨by kernel_rfl, ?ya6⟩) (by assumption) ?ra6
        case ya6 => intro w hSw; (try dsimp only at hSw); go_simp; try with_reducible rfl
        try simp only [Act.put, List.setIfInBounds_toArray, List.set_cons_zero, List.set_cons_succ]
        refine wpAnyH_take (i := 7) (oi := { dst := some 60, op := _, type := _, pos := _, after := _, guard := _ }) (v := ?va7) rfl (by kernel_rfl) (by kernel_rfl) (by kernel_rfl) (fun _ _ _ h => h) (Or.inl ⟨by kernel_rfl, ?ya7⟩) (by assumption) ?ra7
        case ya7 => intro w hSw; (try dsimp only at hSw); go_simp; try with_reducible rfl
        try simp only [Act.put, List.setIfInBounds_toArray, List.set_cons_zero, List.set_cons_succ]
        refine wpAnyH_take (i := 8) (oi := { dst := some 61, op := _, type := _, pos := _, after := _, guard := _ }) (v := ?va8) rfl (by kernel_rfl) (by kernel_rfl) (by kernel_rfl) (fun _ _ _ h => h) (Or.inl ⟨by kernel_rfl, ?ya8⟩) (by assumption) ?ra8
        case ya8 => intro w hSw; (try dsimp only at hSw); go_simp; try with_reducible rfl
        try simp only [Act.put, List.setIfInBounds_toArray, List.set_cons_zero, List.set_cons_succ]
        refine wpAnyH_take (i := 9) (oi := { dst := some 62, op := _, type := _, pos := _, after := _, guard := _ }) (v := ?va9) rfl (by kernel_rfl) (by kernel_rfl) (by kernel_rfl) (fun _ _ _ h => h) (Or.inl ⟨by kernel_rfl, ?ya9⟩) (by assumption) ?ra9
        case ya9 => intro w hSw; (try dsimp only at hSw); go_simp; try with_reducible rfl
        try simp only [Act.put, List.setIfInBounds_toArray, List.set_cons_zero, List.set_cons_succ]
        refine wpAnyH_take (i := 10) (oi := { dst := some 63, op := _, type := _, pos := _, after := _, guard := _ }) (v := ?va10) rfl (by kernel_rfl) (by kernel_rfl) (by kernel_rfl) (fun _ _ _ h => h) (Or.inl ⟨by kernel_rfl, ?ya10⟩) (by assumption) ?ra10
        case ya10 => intro w hSw; have t0 := Hat0.out _ hSw; (try dsimp only at hSw); go_simp; try with_reducible rfl
        try simp only [Act.put, List.setIfInBounds_toArray, List.set_cons_zero, List.set_cons_succ]
        refine wpAnyH_take (i := 11) (oi := { dst := some 64, op := _, type := _, pos := _, after := _, guard := _ }) (v := ?va11) rfl (by kernel_rfl) (by kernel_rfl) (by kernel_rfl) (fun _ _ _ h => h) (Or.inl ⟨by kernel_rfl, ?ya11⟩) (by assumption) ?ra11
        case ya11 => intro w hSw; (try dsimp only at hSw); go_simp; try with_reducible rfl
        try simp only [Act.put, List.setIfInBounds_toArray, List.set_cons_zero, List.set_cons_succ]
        refine wpAnyH_take (i := 12) (oi := { dst := some 65, op := _, type := _, pos := _, after := _, guard := _ }) (v := ?va12) rfl (by kernel_rfl) (by kernel_rfl) (by kernel_rfl) (fun _ _ _ h => h) (Or.inl ⟨by kernel_rfl, ?ya12⟩) (by assumption) ?ra12
        case ya12 => intro w hSw; (try dsimp only at hSw); go_simp; try with_reducible rfl
        try simp only [Act.put, List.setIfInBounds_toArray, List.set_cons_zero, List.set_cons_succ]
        refine wpAnyH_take (i := 13) (oi := { dst := some 8, op := _, type := _, pos := _, after := _, guard := _ }) (v := ?va13) rfl (by kernel_rfl) (by kernel_rfl) (by kernel_rfl) (fun _ _ _ h => h) (Or.inl ⟨by kernel_rfl, ?ya13⟩) (by assumption) ?ra13
        case ya13 => intro w hSw; (try dsimp only at hSw); go_simp; try with_reducible rfl
        try simp only [Act.put, List.setIfInBounds_toArray, List.set_cons_zero, List.set_cons_succ]
        refine wpAnyH_done (by kernel_rfl) ?_ _
        have Hbd := Lib.hid (show Below w4.heap.size w4 wr.drew from below_drewN Hb.out 1)
        obtain ⟨wq, hwq⟩ : ∃ wq, wq = wr.drew := ⟨_, rfl⟩
        rw [← hwq]
        rw [← hwq] at Hbd
        clear hwq hHeld
        go_wp2_with (at_builtin; refine wpList_append_ints rfl (.tmp 66) (.tmp 67) 25 rfl wq.heap.size 3 i0 (.int .i64 0) Try.underlying25 hi hz0 hz1 hz2 rfl (.slice (some ⟨wq.heap.size, 0, none⟩) 0 0) [] rfl (own_none wq _) (some ⟨bT, offT, none⟩) d1 T rfl ((HT.out.go Hbd.out).go (below_none wq _)) (by simp; omega) (by simp) ?_; intro v6 w6 hown6 hg6; have H6 := Lib.hid (ctx_next2 hown6 hg6); clear hown6 hg6; obtain ⟨g, cap, rfl⟩ := own_posI H6.out.1 (by omega); have H6g := Lib.hid (H6.out.1.lt g rfl).1; have Hb6 := Lib.hid (below_step Hbd.out H6.out.2); have hst := H6.out.1.stored (j + 1) (.int .i64 x); have hst2 := hst.1.stored j (.int .i64 y); have Hb7 := Lib.hid (show Below w4.heap.size w4 (w6.setCell ⟨g, j + 1, none⟩ (.int .i64 x)) from Hb6.out.setCell (p := ⟨g, j + 1, none⟩) (Nat.le_trans Hbd.out.size H6g.out) _); have Hb8 := Lib.hid (Hb7.out.setCell (p := ⟨g, j, none⟩) (Nat.le_trans Hbd.out.size H6g.out) (.int .i64 y)); have c1 := Hat1.out _ Hb6.out; have c0' := Hat0.out _ Hb6.out; have c2 := Hat1.out _ Hb7.out; have s1 := H6.out.1.cellAt (j + 1) (by omega); have s1f := H6.out.1.frozenAt (j + 1); have s2 := hst.1.cellAt j (by omega); have s2f := hst.1.frozenAt j; rw [List.getElem?_map] at s1; have hown8 := hst2.1; rw [Hsw.out] at hown8; have H8 := Lib.hid hown8; have s1e := cell_some_int s1 hlt; have s2e := cell_set_int s2 (by omega) (show j < T.length by omega); clear hst hst2 hown8 s1 s2)
        obtain ⟨w8, hw8⟩ : ∃ w8, w8 = (w6.setCell ⟨g, j + 1, none⟩ (.int .i64 x)).setCell ⟨g, j, none⟩ (.int .i64 y) := ⟨_, rfl⟩
        rw [← hw8]
        rw [← hw8] at Hb8 H8
        have HX : Ow 3 wq.heap.size w8.heap.size w8 (.slice (some ⟨g, 0, none⟩) (swapI T j).length cap) (swapI T j) := Ow.of_own (by rw [swapI_len]; exact H8.out)
        have HXa := Lib.hid (HX.arg (by rw [swapI_len]; omega) (Nat.le_refl _))
        have HLV := Lib.hid (fun W ha hb => implLiftValid_b B d zs (some ⟨g, 0, none⟩) cap (swapI T j) W ha hb)
        rw [swapI_len] at HLV
        clear hw8 HX c1 c0' c2 s1e s2e s1f s2f
        refine wp_region_held_drew (S := (fun W => Below w8.heap.size w8 W)) (by kernel_rfl) (below_drewN (Below.refl _ _) 1) (fun hHeld => ?_)
        refine wpAnyH_take (i := 0) (oi := { dst := some 85, op := _, type := _, pos := _, after := _, guard := _ }) (v := ?vmu0) rfl (by kernel_rfl) (by kernel_rfl) (by kernel_rfl) (fun _ _ _ h => h) (Or.inl ⟨by kernel_rfl, ?ymu0⟩) (by assumption) ?rmu0
        case ymu0 => intro w hSw; (try dsimp only at hSw); go_simp; try with_reducible rfl
        try simp only [Act.put, List.setIfInBounds_toArray, List.set_cons_zero, List.set_cons_succ]
        refine wpAnyH_take (i := 1) (oi := { dst := some 86, op := _, type := _, pos := _, after := _, guard := _ }) (v := ?vmu1) rfl (by kernel_rfl) (by kernel_rfl) (by kernel_rfl) (fun _ _ _ h => h) (Or.inl ⟨by kernel_rfl, ?ymu1⟩) (by assumption) ?rmu1
        case ymu1 => intro w hSw; (try dsimp only at hSw); go_simp; try with_reducible rfl
        try simp only [Act.put, List.setIfInBounds_toArray, List.set_cons_zero, List.set_cons_succ]
        refine wpAnyH_take (i := 2) (oi := { dst := some 87, op := _, type := _, pos := _, after := _, guard := _ }) (v := ?vmu2) rfl (by kernel_rfl) (by kernel_rfl) (by kernel_rfl) (fun _ _ _ h => h) (Or.inl ⟨by kernel_rfl, ?ymu2⟩) (by assumption) ?rmu2
        case ymu2 => intro w hSw; (try dsimp only at hSw); go_simp; try with_reducible rfl
        try simp only [Act.put, List.setIfInBounds_toArray, List.set_cons_zero, List.set_cons_succ]
        refine wpAnyH_take (i := 3) (oi := { dst := some 88, op := _, type := _, pos := _, after := _, guard := _ }) (v := ?vmu3) rfl (by kernel_rfl) (by kernel_rfl) (by kernel_rfl) (fun _ _ _ h => h) (Or.inl ⟨by kernel_rfl, ?ymu3⟩) (by assumption) ?rmu3
        case ymu3 => intro w hSw; have t1 := Hat1.out _ (below_step Hb8.out hSw); (try dsimp only at hSw); go_simp; try with_reducible rfl
        try simp only [Act.put, List.setIfInBounds_toArray, List.set_cons_zero, List.set_cons_succ]
        refine wpAnyH_take (i := 4) (oi := { dst := some 89, op := _, type := _, pos := _, after := _, guard := _ }) (v := ?vmu4) rfl (by kernel_rfl) (by kernel_rfl) (by kernel_rfl) (fun _ _ _ h => h) (Or.inl ⟨by kernel_rfl, ?ymu4⟩) (by assumption) ?rmu4
        case ymu4 => intro w hSw; (try dsimp only at hSw); go_simp; try with_reducible rfl
        try simp only [Act.put, List.setIfInBounds_toArray, List.set_cons_zero, List.set_cons_succ]
        refine wpAnyH_take (i := 5) (oi := { dst := some 90, op := _, type := _, pos := _, after := _, guard := _ }) (v := ?vmu5) rfl (by kernel_rfl) (by kernel_rfl) (by kernel_rfl) (fun _ _ _ h => h) (Or.inl ⟨by kernel_rfl, ?ymu5⟩) (by assumption) ?rmu5
        case ymu5 => intro w hSw; (try dsimp only at hSw); go_simp; try with_reducible rfl
        try simp only [Act.put, List.setIfInBounds_toArray, List.set_cons_zero, List.set_cons_succ]
        refine wpAnyH_take (i := 6) (oi := { dst := some 91, op := _, type := _, pos := _, after := _, guard := _ }) (v := ?vmu6) rfl (by kernel_rfl) (by kernel_rfl) (by kernel_rfl) (fun _ _ _ h => h) (Or.inl ⟨by kernel_rfl, ?ymu6⟩) (by assumption) ?rmu6
        case ymu6 => intro w hSw; (try dsimp only at hSw); go_simp; try with_reducible rfl
        try simp only [Act.put, List.setIfInBounds_toArray, List.set_cons_zero, List.set_cons_succ]
        refine wpAnyH_take (i := 7) (oi := { dst := some 92, op := _, type := _, pos := _, after := _, guard := _ }) (v := ?vmu7) rfl (by kernel_rfl) (by kernel_rfl) (by kernel_rfl) (fun _ _ _ h => h) (Or.inl ⟨by kernel_rfl, ?ymu7⟩) (by assumption) ?rmu7
        case ymu7 => intro w hSw; (try dsimp only at hSw); go_simp; try with_reducible rfl
        try simp only [Act.put, List.setIfInBounds_toArray, List.set_cons_zero, List.set_cons_succ]
        refine wpAnyH_take (i := 8) (oi := { dst := some 93, op := _, type := _, pos := _, after := _, guard := _ }) (v := ?vmu8) rfl (by kernel_rfl) (by kernel_rfl) (by kernel_rfl) (fun _ _ _ h => h) (Or.inl ⟨by kernel_rfl, ?ymu8⟩) (by assumption) ?rmu8
        case ymu8 => intro w hSw; have t0 := Hat0.out _ (below_step Hb8.out hSw); (try dsimp only at hSw); go_simp; try with_reducible rfl
        try simp only [Act.put, List.setIfInBounds_toArray, List.set_cons_zero, List.set_cons_succ]
        by_cases hyx : y < x
        · have hf := Hls.out hyx
          refine wpAnyH_take (i := 9) (oi := { dst := some 94, op := _, type := _, pos := _, after := _, guard := _ }) (v := ?vnu9) rfl (by kernel_rfl) (by kernel_rfl) (by kernel_rfl) (fun _ _ _ h => h) (Or.inl ⟨by kernel_rfl, ?ynu9⟩) (by assumption) ?rnu9
          case ynu9 => intro w hSw; (try dsimp only at hSw); go_simp; try with_reducible rfl
          try simp only [Act.put, List.setIfInBounds_toArray, List.set_cons_zero, List.set_cons_succ]
          refine wpAnyH_take (i := 10) (oi := { dst := some 95, op := _, type := _, pos := _, after := _, guard := _ }) (v := ?vnu10) rfl (by kernel_rfl) (by kernel_rfl) (by kernel_rfl) (fun _ _ _ h => h) (Or.inl ⟨by kernel_rfl, ?ynu10⟩) (by assumption) ?rnu10
          case ynu10 => intro w hSw; (try dsimp only at hSw); go_simp; try with_reducible rfl
          try simp only [Act.put, List.setIfInBounds_toArray, List.set_cons_zero, List.set_cons_succ]
          refine wpAnyH_take (i := 11) (oi := { dst := some 96, op := _, type := _, pos := _, after := _, guard := _ }) (v := ?vnu11) rfl (by kernel_rfl) (by kernel_rfl) (by kernel_rfl) (fun _ _ _ h => h) (Or.inl ⟨by kernel_rfl, ?ynu11⟩) (by assumption) ?rnu11
          case ynu11 => intro w hSw; (try dsimp only at hSw); go_simp; try with_reducible rfl
          try simp only [Act.put, List.setIfInBounds_toArray, List.set_cons_zero, List.set_cons_succ]
          refine wpAnyH_take (i := 12) (oi := { dst := some 97, op := _, type := _, pos := _, after := _, guard := _ }) (v := ?vnu12) rfl (by kernel_rfl) (by kernel_rfl) (by kernel_rfl) (fun _ _ _ h => h) (Or.inl ⟨by kernel_rfl, ?ynu12⟩) (by assumption) ?rnu12
          case ynu12 => intro w hSw; (try dsimp only at hSw); go_simp; try with_reducible rfl
          try simp only [Act.put, List.setIfInBounds_toArray, List.set_cons_zero, List.set_cons_succ]
          refine wpAnyH_ready (rs := [13]) (by kernel_rfl) (by simp) ?_
          refine AllReadyH.cons (o := { dst := some 98, op := _, type := _, pos := _, after := _, guard := _ }) rfl (fun K hK => ?_) AllReadyH.nil
          go_simp
          refine (HLV.out _ ((HA.out.go Hb8.out).go (by assumption)) (HXa.out.go (by assumption))).mono ?_
          rintro e w10 ⟨rfl, hb10⟩
          rw [hf]
          go_wp2_with fail
          refine hK.out _ _ (below_step hHeld hb10) (fun hHeld2 => ?_)
          clear hK K
          try simp only [Act.put, List.setIfInBounds_toArray, List.set_cons_zero, List.set_cons_succ]
          refine wpAnyH_take (i := 14) (oi := { dst := some 99, op := _, type := _, pos := _, after := _, guard := _ }) (v := ?vpu14) rfl (by kernel_rfl) (by kernel_rfl) (by kernel_rfl) (fun _ _ _ h => h) (Or.inl ⟨by kernel_rfl, ?ypu14⟩) (by assumption) ?rpu14
          case ypu14 => intro w hSw; (try dsimp only at hSw); go_simp; try with_reducible rfl
          try simp only [Act.put, List.setIfInBounds_toArray, List.set_cons_zero, List.set_cons_succ]
          refine wpAnyH_done (by kernel_rfl) ?_ _
          go_wp2
          go_roundw
          case rel => exact ⟨j + 1 + 1, .inr (by omega), by omega, by go_num, by rw [Hnext.out] <;> rfl, below_step Hb8.out hHeld2⟩
          case measure => simp [intOf]; omega
        · skip
          refine wpAnyH_take (i := 9) (oi := { dst := some 94, op := _, type := _, pos := _, after := _, guard := _ }) (v := ?vqu9) rfl (by kernel_rfl) (by kernel_rfl) (by kernel_rfl) (fun _ _ _ h => h) (Or.inl ⟨by kernel_rfl, ?yqu9⟩) (by assumption) ?rqu9
          case yqu9 => intro w hSw; (try dsimp only at hSw); go_simp; try with_reducible rfl
          try simp only [Act.put, List.setIfInBounds_toArray, List.set_cons_zero, List.set_cons_succ]
          refine wpAnyH_take (i := 10) (oi := { dst := some 95, op := _, type := _, pos := _, after := _, guard := _ }) (v := ?vqu10) rfl (by kernel_rfl) (by kernel_rfl) (by kernel_rfl) (fun _ _ _ h => h) (Or.inl ⟨by kernel_rfl, ?yqu10⟩) (by assumption) ?rqu10
          case yqu10 => intro w hSw; (try dsimp only at hSw); go_simp; try with_reducible rfl
          try simp only [Act.put, List.setIfInBounds_toArray, List.set_cons_zero, List.set_cons_succ]
          refine wpAnyH_take (i := 11) (oi := { dst := some 96, op := _, type := _, pos := _, after := _, guard := _ }) (v := undef) rfl (by kernel_rfl) (by kernel_rfl) (by kernel_rfl) (fun _ _ _ h => h) (Or.inr ⟨by kernel_rfl, rfl⟩) (by assumption) ?_
          try simp only [Act.put, List.setIfInBounds_toArray, List.set_cons_zero, List.set_cons_succ]
          refine wpAnyH_take (i := 12) (oi := { dst := some 97, op := _, type := _, pos := _, after := _, guard := _ }) (v := undef) rfl (by kernel_rfl) (by kernel_rfl) (by kernel_rfl) (fun _ _ _ h => h) (Or.inr ⟨by kernel_rfl, rfl⟩) (by assumption) ?_
          try simp only [Act.put, List.setIfInBounds_toArray, List.set_cons_zero, List.set_cons_succ]
          refine wpAnyH_take (i := 13) (oi := { dst := some 98, op := _, type := _, pos := _, after := _, guard := _ }) (v := undef) rfl (by kernel_rfl) (by kernel_rfl) (by kernel_rfl) (fun _ _ _ h => h) (Or.inr ⟨by kernel_rfl, rfl⟩) (by assumption) ?_
          try simp only [Act.put, List.setIfInBounds_toArray, List.set_cons_zero, List.set_cons_succ]
          refine wpAnyH_take (i := 14) (oi := { dst := some 99, op := _, type := _, pos := _, after := _, guard := _ }) (v := ?vqu14) rfl (by kernel_rfl) (by kernel_rfl) (by kernel_rfl) (fun _ _ _ h => h) (Or.inl ⟨by kernel_rfl, ?yqu14⟩) (by assumption) ?rqu14
          case yqu14 => intro w hSw; (try dsimp only at hSw); go_simp; try with_reducible rfl
          try simp only [Act.put, List.setIfInBounds_toArray, List.set_cons_zero, List.set_cons_succ]
          refine wpAnyH_done (by kernel_rfl) ?_ _
          go_wp2
          go_roundw
          case rel => exact ⟨j + 1 + 1, .inr (by omega), by omega, by go_num, by rw [Hnext.out] <;> rfl, below_step Hb8.out hHeld⟩
          case measure => simp [intOf]; omega
    · by_cases hk2 : k = T.length
      · subst hk2
        have hval := Hval.out
        have hcr := Hasc.out
        go_wp2_with fail
        refine (implLiftValid_b B d zs B1 d1 T _ (HA.out.go Hb.out) (HT.out.go Hb.out)).mono ?_
        rintro e w5 ⟨rfl, hb5⟩
        rw [hval]
        have Hb5 := Lib.hid (below_step Hb.out hb5)
        clear hb5
        cases hbb : ascB T T.length
        · have hcv := hcr hbb
          clear hbb hcr
          go_wp2_with fail
          refine (implChartCrossings_b B d zs _ (HA.out.go Hb5.out)).mono ?_
          rintro e w6 ⟨rfl, hb6⟩
          have Hb6 := Lib.hid (below_step Hb5.out hb6)
          clear hb6
          go_wp2
          go_ret
          exact ⟨rfl, below_step Bt4.out Hb6.out⟩
        · clear hbb hcr
          go_wp2
          go_ret
          exact ⟨rfl, below_step Bt4.out Hb5.out⟩
      · obtain rfl : k = 1 := by omega
        have hval := Hval.out
        have hg1 : ¬ (1 : Int) < (T.length : Int) := by omega
        rw [show ascB T 1 = true from rfl]
        go_wp2_with fail
        refine (implLiftValid_b B d zs B1 d1 T _ (HA.out.go Hb.out) (HT.out.go Hb.out)).mono ?_
        rintro e w5 ⟨rfl, hb5⟩
        rw [hval]
        have Hb5 := Lib.hid (below_step Hb.out hb5)
        clear hb5
        go_wp2
        go_ret
        exact ⟨rfl, below_step Bt4.out Hb5.out⟩

theorem fnLiftFirst_walk (A0 : Option Addr) (n0 c0 : Nat) (w : World) (hb0 : Byt0 w A0 n0 c0) :
    Calls Try.prog 3 #[.slice A0 n0 c0] w (RetB (.bool true) w) := by
  by_cases hl0 : 1048576 < n0
  · clear hb0
    go_enter Try.func3, Try.ntmps3
    go_wp2
    go_ret
    exact ⟨rfl, Below.refl _ _⟩
  exact fnLiftFirst_in A0 n0 c0 w (by omega) hb0.1 hb0.2.2

set_option maxRecDepth 100000 in
theorem fnLiftFirst_lifted (os : Os) (started : os.Started) (H : Type) (enc : TypeId × Value → H) :
    ReturnsInHanded {} Try.checked os 3 .any (Rows.fnLiftFirstSpec.pre6 enc Try.prog Try.f3 Rows.fnLiftFirstRow.domain false) (Rows.fnLiftFirstSpec.post enc Try.prog Try.f3 false true false false) := by
  refine returnsInHanded_of_change (C := Try.checked) row_own started (by kernel_rfl) Try.func3
    (ChangeSpec.witness6 (enc := enc) (C := Try.checked) false ⟨#[], #[.slice none 0 0], []⟩ 8 (by kernel_rfl) (by kernel_rfl) (by kernel_rfl) (by kernel_rfl)) ?_
  intro W base args ds gs before hval0 hW hcnd _
  have hval : ∀ (j : Nat) t v, Try.f3.params[j]? = some t → args[j]? = some v → Value.okWide Try.prog W .any base t v := hval0
  have hW' := hW
  obtain ⟨p, q, hA0, hV, rfl, _, _⟩ := hW
  have hA : DataW.TrodAll enc Try.prog W 0 (fun _ => true) true Try.f3.params.toList args.toList ds p := hA0
  rw [Try.params3] at hA hval
  obtain ⟨v0, vs0, d0, ds0, p0, q0, hargs, rfl, rfl, h0, r0⟩ := trodAll_cons hA
  obtain ⟨rfl, rfl, rfl⟩ := trodAll_nil r0
  obtain rfl : args = #[v0] := by cases args; simp_all
  obtain ⟨rfl, rfl⟩ := trodVars_none hV
  have hlt0 : ∀ x ∈ p0, x.block < W.heap.size := fun x hx => by exact hW'.lt x (by simp [hx])
  obtain ⟨A0, n0, c0, rfl, hb0⟩ := open_bytes (hval 0 22 v0 rfl rfl) h0 hlt0
  clear hA0 hval0
  refine (fnLiftFirst_walk A0 n0 c0 W hb0).mono fun e W' ⟨he, hb⟩ => ?_
  subst he
  exact ⟨_, rfl, _, _, _, [], _, [], hW', (trodAll_cons_mk (shut_bool Try.underlying4 _) trodAll_mk0), (trodAll_cons_mk (read_again_bytes h0 hlt0 hb) trodAll_mk0), rfl, hb.frame _, fun h => by cases h⟩

set_option maxRecDepth 100000 in
theorem fnLiftFirst_closed : joinedFacts Try.prog 3 Try.f3 Rows.fnLiftFirstSpec Rows.fnLiftFirstRow = true := by
  unfold joinedFacts
  repeat' (with_reducible apply facAnd)
  all_goals first | (with_reducible exact facEnter) | (with_reducible exact facLaid) | (with_reducible exact facMaps) | (with_reducible exact facStops) | (with_reducible exact facKnobs) | (with_reducible exact facHeard) | (rw [facLifts]; as_aux_lemma => kernel_rfl) | (rw [facMake]; as_aux_lemma => kernel_rfl) | (as_aux_lemma => kernel_rfl)

/-- THE STATEMENT -/
theorem fnLiftFirst_holds : Rows.FnLiftFirstSaid :=
  OpenClaim.holds_of_wide 3 Try.f3 rfl rfl rfl rfl rfl rfl rfl ⟨rfl, rfl, rfl, rfl, rfl⟩ rfl rfl rfl rfl rfl (by kernel_rfl) Try.func3 fnLiftFirst_closed
    (of_decide_eq_true (by kernel_rfl)) (by unfold Func.isWrapper; first | (rw [if_pos (by decide +kernel)]; kernel_rfl) | (rw [if_neg (by decide +kernel)]; exact ⟨rfl, rfl⟩))
    (fun os started H enc _ => fnLiftFirst_lifted os started H enc)
#print axioms fnLiftFirst_holds
end Go.Proofs.Ytjboamhjfncgdaa
