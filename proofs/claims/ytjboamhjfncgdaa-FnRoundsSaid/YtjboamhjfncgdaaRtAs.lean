/-
  RouteAbove and ChartCrossings of the model.
-/
import Derived.Test.YtjboamhjfncgdaaRtE
import Derived.Test.YtjboamhjfncgdaaApI0
namespace Go.Proofs.Ytjboamhjfncgdaa
open Go.RowKit

theorem own_none' (w : World) (t : TypeId) : (w.alloc (.cells #[] t)).ownsRow w.heap.size t 1 (.slice (some ⟨w.heap.size, 0, none⟩) 0 0) (ints []).length ((ints []).map (Value.int .i64)) := own_none w t
theorem ints_snoc (l : List Nat) (i : Nat) : ints (l ++ [i]) = ints l ++ [(i : Int)] := by rw [ints_append]; rfl
/-- an own list that grows: what the rounds keep -/
def OnI (w wr : World) (v : Value) (l : List Nat) : Prop := wr.ownsRow w.heap.size 3 1 v (ints l).length ((ints l).map (Value.int .i64)) ∧ Below w.heap.size w wr
theorem OnI.go {w w1 w2 : World} {v : Value} {l : List Nat} (h : OnI w w1 v l) (hb : Below w1.heap.size w1 w2) : OnI w w2 v l := ⟨own_below h.1 hb, below_step h.2 hb⟩
theorem OnI.start (w0 w : World) (h : Below w0.heap.size w0 w) : OnI w0 (w.alloc (.cells #[] 3)) (.slice (some ⟨w.heap.size, 0, none⟩) 0 0) [] :=
  ⟨OwnsRow.more (own_none' w _) h.size, h.alloc h.size _⟩
theorem OnI.snoc {w wr w3 : World} {v v' : Value} {l : List Nat} {x : Nat} {o : Obj} (h : OnI w wr v l) (h1 : w3.ownsRow w.heap.size 3 1 v' (ints l ++ [(x : Int)]).length ((ints l ++ [(x : Int)]).map (Value.int .i64))) (h2 : (wr.alloc o).grownBy w3 v.ownBlock) : OnI w w3 v' (l ++ [x]) :=
  ⟨by rw [ints_snoc]; exact h1, (h.2.alloc h.2.size o).grown h2 (by simp; have := h.2.size; omega) (fun k e => (h.1.lt k e).1)⟩
theorem OnI.ret {w w' : World} {v : Value} {l : List Nat} (h : OnI w w' v l) (hl : (ints l).length ≤ 2097152) : RetS 3 id (ints l) w (.returned v) w' := RetS.mk (f := id) hl h.1 h.2

set_option maxRecDepth 100000 in
set_option maxHeartbeats 4000000 in
theorem specRouteAbove_b (A : Option Addr) (c : Nat) (ss : List Rot) (kk : Int) (w : World) (ha : ArgK w A c ss) :
    Calls Try.prog 43 #[.slice A ss.length c, .int .i64 kk] w (RetS 3 id (abvV ss kk) w) := by
  obtain ⟨i0, hi, hz0, hz1, hz2⟩ := info_parts intInf
  have hl := ha.len
  have HA := Lib.hid ha
  clear ha
  have O0 := Lib.hid (OnI.start w w (Below.refl _ _))
  cases e1 : hasR ss kk
  · have Hv := Lib.hid (abvV_no e1)
    have E1 := Lib.hid e1
    obtain ⟨X, hX⟩ : ∃ X, IntKind.i64.wrap (kk + 1) = X := ⟨_, rfl⟩
    clear e1
    go_enter Try.func43, Try.ntmps43
    go_wp2
    go_loopw [5, 6] (fun o i wr => o = .slice (some ⟨w.heap.size, 0, none⟩) 0 0 ∧ i = .int .i64 X ∧ OnI w wr (.slice (some ⟨w.heap.size, 0, none⟩) 0 0) []) (fun _ _ _ => 0)
    case atStart => exact ⟨rfl, rfl, O0.out⟩
    case round =>
      obtain ⟨rfl, rfl, ho⟩ := hrel
      have Ho := Lib.hid ho
      clear ho
      by_cases hlt : X < (ss.length : Int)
      · go_wp2_with fail
        refine (l9Has_c _ _ _ _ _ (HA.out.go Ho.out.2)).mono ?_
        rintro e w2 ⟨rfl, hb2⟩
        rw [E1.out]
        have Ho2 := Lib.hid (Ho.out.go hb2)
        clear hb2
        go_wp2
        go_ret
        rw [Hv.out]
        exact Ho2.out.ret (by simp [ints])
      · go_wp2
        go_ret
        rw [Hv.out]
        exact Ho.out.ret (by simp [ints])
  obtain ⟨k1, k2, k3⟩ := hasR_true.1 e1
  obtain ⟨k, rfl⟩ : ∃ k : Nat, kk = (k : Int) := ⟨kk.toNat, by omega⟩
  have hlt : k < ss.length := by omega
  have h8 := chart_len k1
  have Hv := Lib.hid (abvV_yes e1)
  have Hch := Lib.hid k1
  have E1 := Lib.hid e1
  have q0 : IntKind.i64.wrap ((k : Int) + 1) = (k : Int) + 1 := IntWalk.i64_in _ (by omega)
  clear e1 k1 k2 k3
  go_enter Try.func43, Try.ntmps43
  go_wp2
  go_loopw [5, 6] (fun o i wr => ∃ (m : Nat) (v : Value), k + 1 + m ≤ ss.length ∧ v = o ∧ i = .int .i64 ((k : Int) + 1 + (m : Int)) ∧ OnI w wr v (abvTo ss k m)) (fun _ i _ => ss.length - (intOf i).toNat)
  case atStart => exact ⟨0, _, by omega, rfl, by simp, O0.out⟩
  case round =>
    obtain ⟨m, v, hm, rfl, rfl, ho⟩ := hrel
    have Ho := Lib.hid ho
    clear ho
    by_cases hlt2 : k + 1 + m < ss.length
    · have g1 : (k : Int) + 1 + (m : Int) < (ss.length : Int) := by omega
      go_wp2_with fail
      refine (l9Has_c _ _ _ _ _ (HA.out.go Ho.out.2)).mono ?_
      rintro e w2 ⟨rfl, hb2⟩
      rw [E1.out]
      have Ho2 := Lib.hid (Ho.out.go hb2)
      clear hb2 Ho
      obtain ⟨b, off, rfl, hati⟩ := argK_at HA.out hlt2
      obtain ⟨b', off', eb, hatk⟩ := argK_at HA.out hlt
      injection eb with eb
      injection eb with eb eo _
      subst eb
      subst eo
      have hri := chart_in Hch.out hlt2
      have hrk := chart_in Hch.out hlt
      have hy := fun h : crB (rotAt ss (k + 1 + m)) (rotAt ss k) = true => abvTo_yes (R := ss) (k := k) (m := m) h
      have hn := fun h : crB (rotAt ss (k + 1 + m)) (rotAt ss k) = false => abvTo_no (R := ss) (k := k) (m := m) h
      obtain ⟨s, hs⟩ : ∃ s, rotAt ss (k + 1 + m) = s := ⟨_, rfl⟩
      obtain ⟨t, ht⟩ : ∃ t, rotAt ss k = t := ⟨_, rfl⟩
      rw [hs] at hati hri hy hn
      rw [ht] at hatk hrk hy hn
      have Hx := Lib.hid hati
      have Hy := Lib.hid hatk
      have HC := Lib.hid (fun W => l9Cross_c s t W hri hrk)
      have Hyes := Lib.hid hy
      have Hno := Lib.hid hn
      have g2 : (k : Int) < (ss.length : Int) := by omega
      have g3 : (0 : Int) ≤ (k : Int) + 1 + (m : Int) := by omega
      have g4 : ((k : Int) + 1 + (m : Int)).toNat = k + 1 + m := by omega
      clear hs ht hri hrk hati hatk hy hn
            -- REGION
      go_wp2
      refine wp_region_held_drew (S := (fun W => Below w2.heap.size w2 W)) (by kernel_rfl) (below_drewN (Below.refl _ _) 1) (fun hHeld => ?_)
      refine wpAnyH_take (i := 0) (oi := { dst := some 21, op := _, type := _, pos := _, after := _, guard := _ }) (v := ?va0) rfl (by kernel_rfl) (by kernel_rfl) (by kernel_rfl) (fun _ _ _ h => h) (Or.inl ⟨by kernel_rfl, ?ya0⟩) (by assumption) ?ra0
      case ya0 => intro w hSw; (try dsimp only at hSw); go_simp; try with_reducible rfl
      try simp only [Act.put, List.setIfInBounds_toArray, List.set_cons_zero, List.set_cons_succ]
      refine wpAnyH_take (i := 1) (oi := { dst := some 22, op := _, type := _, pos := _, after := _, guard := _ }) (v := ?va1) rfl (by kernel_rfl) (by kernel_rfl) (by kernel_rfl) (fun _ _ _ h => h) (Or.inl ⟨by kernel_rfl, ?ya1⟩) (by assumption) ?ra1
      case ya1 => intro w hSw; (try dsimp only at hSw); go_simp; try with_reducible rfl
      try simp only [Act.put, List.setIfInBounds_toArray, List.set_cons_zero, List.set_cons_succ]
      refine wpAnyH_take (i := 2) (oi := { dst := some 23, op := _, type := _, pos := _, after := _, guard := _ }) (v := ?va2) rfl (by kernel_rfl) (by kernel_rfl) (by kernel_rfl) (fun _ _ _ h => h) (Or.inl ⟨by kernel_rfl, ?ya2⟩) (by assumption) ?ra2
      case ya2 => intro w hSw; (try dsimp only at hSw); go_simp; try with_reducible rfl
      try simp only [Act.put, List.setIfInBounds_toArray, List.set_cons_zero, List.set_cons_succ]
      refine wpAnyH_take (i := 3) (oi := { dst := some 24, op := _, type := _, pos := _, after := _, guard := _ }) (v := ?va3) rfl (by kernel_rfl) (by kernel_rfl) (by kernel_rfl) (fun _ _ _ h => h) (Or.inl ⟨by kernel_rfl, ?ya3⟩) (by assumption) ?ra3
      case ya3 => intro w hSw; obtain ⟨c0, c1, c2, c3⟩ := Hx.out _ (below_step Ho2.out.2 hSw); (try dsimp only at hSw); go_simp; try with_reducible rfl
      try simp only [Act.put, List.setIfInBounds_toArray, List.set_cons_zero, List.set_cons_succ]
      refine wpAnyH_take (i := 4) (oi := { dst := some 25, op := _, type := _, pos := _, after := _, guard := _ }) (v := ?va4) rfl (by kernel_rfl) (by kernel_rfl) (by kernel_rfl) (fun _ _ _ h => h) (Or.inl ⟨by kernel_rfl, ?ya4⟩) (by assumption) ?ra4
      case ya4 => intro w hSw; (try dsimp only at hSw); go_simp; try with_reducible rfl
      try simp only [Act.put, List.setIfInBounds_toArray, List.set_cons_zero, List.set_cons_succ]
      refine wpAnyH_take (i := 5) (oi := { dst := some 26, op := _, type := _, pos := _, after := _, guard := _ }) (v := ?va5) rfl (by kernel_rfl) (by kernel_rfl) (by kernel_rfl) (fun _ _ _ h => h) (Or.inl ⟨by kernel_rfl, ?ya5⟩) (by assumption) ?ra5
      case ya5 => intro w hSw; (try dsimp only at hSw); go_simp; try with_reducible rfl
      try simp only [Act.put, List.setIfInBounds_toArray, List.set_cons_zero, List.set_cons_succ]
      refine wpAnyH_take (i := 6) (oi := { dst := some 27, op := _, type := _, pos := _, after := _, guard := _ }) (v := ?va6) rfl (by kernel_rfl) (by kernel_rfl) (by kernel_rfl) (fun _ _ _ h => h) (Or.inl ⟨by kernel_rfl, ?ya6⟩) (by assumption) ?ra6
      case ya6 => intro w hSw; (try dsimp only at hSw); go_simp; try with_reducible rfl
      try simp only [Act.put, List.setIfInBounds_toArray, List.set_cons_zero, List.set_cons_succ]
      refine wpAnyH_take (i := 7) (oi := { dst := some 28, op := _, type := _, pos := _, after := _, guard := _ }) (v := ?va7) rfl (by kernel_rfl) (by kernel_rfl) (by kernel_rfl) (fun _ _ _ h => h) (Or.inl ⟨by kernel_rfl, ?ya7⟩) (by assumption) ?ra7
      case ya7 => intro w hSw; obtain ⟨c0, c1, c2, c3⟩ := Hy.out _ (below_step Ho2.out.2 hSw); (try dsimp only at hSw); go_simp; try with_reducible rfl
      try simp only [Act.put, List.setIfInBounds_toArray, List.set_cons_zero, List.set_cons_succ]
      refine wpAnyH_ready (rs := [8]) (by kernel_rfl) (by simp) ?_
      refine AllReadyH.cons (o := { dst := some 29, op := _, type := _, pos := _, after := _, guard := _ }) rfl (fun K hK => ?_) AllReadyH.nil
      go_simp
      refine (HC.out _).mono ?_
      rintro e w3 ⟨rfl, hb3⟩
      go_wp2_with fail
      refine hK.out _ _ (below_step hHeld hb3) (fun hHeld2 => ?_)
      clear hK K
      try simp only [Act.put, List.setIfInBounds_toArray, List.set_cons_zero, List.set_cons_succ]
      have Ho3 := Lib.hid (Ho2.out.go hHeld2)
      cases hc : crB s t
      · have hz := Hno.out hc
        clear hc
        refine wpAnyH_done (by kernel_rfl) ?_ _
        go_wp2
        go_roundw
        case rel => exact ⟨m + 1, v, by omega, rfl, by go_num, by rw [hz]; exact Ho3.out⟩
        case measure => simp [intOf]; omega
      · have hz := Hyes.out hc
        clear hc
        refine wpAnyH_done (by kernel_rfl) ?_ _
        have hl3 : (ints (abvTo ss k m)).length ≤ 8 := by rw [ints_length]; have := abvTo_len ss k m; omega
        go_wp2_with (at_builtin; refine wpList_append_ints rfl (.tmp 30) (.tmp 32) 25 rfl w.heap.size 3 i0 (.int .i64 0) Try.underlying25 hi hz0 hz1 hz2 rfl v (ints (abvTo ss k m)) rfl (Ho3.out.1.alloc _) (some ⟨w3.heap.size, 0, none⟩) 1 [(k : Int) + 1 + (m : Int)] rfl (arg_one w3 _ _) (by simp only [List.length_singleton]; omega) (by have := Ho3.out.2.size; simp; omega) ?_; intro v' w9 hown9 hg9; have H9 := Lib.hid (Ho3.out.snoc (x := k + 1 + m) (by rw [show ((k + 1 + m : Nat) : Int) = (k : Int) + 1 + (m : Int) by omega]; exact hown9) hg9); clear hown9 hg9)
        go_roundw
        case rel => exact ⟨m + 1, v', by omega, rfl, by go_num, by rw [hz]; exact H9.out⟩
        case measure => simp [intOf]; omega
    · obtain ⟨m', rfl⟩ : ∃ m', m = m' := ⟨_, rfl⟩
      have em : m = ss.length - (k + 1) := by omega
      have g1 : ¬ (k : Int) + 1 + (m : Int) < (ss.length : Int) := by omega
      have hl3 : (ints (abvTo ss k m)).length ≤ 8 := by rw [ints_length]; have := abvTo_len ss k m; omega
      have He := Lib.hid (show abvN ss k = abvTo ss k m by rw [em]; rfl)
      clear em
      go_wp2
      go_ret
      rw [Hv.out, He.out]
      exact Ho.out.ret (by omega)

/-- the pairs so far: whole rows below i, and k of row i -/
def crsAt (R : List Rot) (i k : Nat) : Nat := crsN R i + crsTo R i k
theorem crsAt_zero (R : List Rot) (i : Nat) : crsAt R i 0 = crsN R i := rfl
theorem crsAt_row (R : List Rot) (i : Nat) : crsN R (i + 1) = crsAt R i i := sumTo_succ _ _
theorem crsAt_yes {R : List Rot} {i k : Nat} (h : crI R i k = true) : crsAt R i (k + 1) = crsAt R i k + 1 := by
  unfold crsAt crsTo; rw [sumTo_succ, h]; rfl
theorem crsAt_no {R : List Rot} {i k : Nat} (h : crI R i k = false) : crsAt R i (k + 1) = crsAt R i k := by
  unfold crsAt crsTo; rw [sumTo_succ, h]; rfl
theorem crsAt_le {R : List Rot} {i k : Nat} (hi : i ≤ 8) (hk : k ≤ i) : crsAt R i k ≤ 72 := by
  have h1 := crsN_le R i
  have h2 := crsTo_le R i k
  have h3 : i * i ≤ 8 * 8 := Nat.mul_le_mul hi hi
  unfold crsAt; omega

set_option maxRecDepth 100000 in
set_option maxHeartbeats 4000000 in
theorem specChartCrossings_b (A : Option Addr) (c : Nat) (ss : List Rot) (w : World) (ha : ArgK w A c ss) :
    Calls Try.prog 42 #[.slice A ss.length c] w (RetB (.int .i64 (crsV ss)) w) := by
  have HA := Lib.hid ha
  clear ha
  go_enter Try.func42, Try.ntmps42
  go_wp2_with fail
  refine (specChartValid_b _ _ _ _ HA.out).mono ?_
  rintro e w1 ⟨rfl, hb⟩
  have Hb1 := Lib.hid hb
  clear hb
  cases e1 : chartB ss
  · have Hv := Lib.hid (crsV_no e1)
    clear e1
    go_wp2
    go_ret
    exact ⟨by rw [Hv.out]; rfl, Hb1.out⟩
  have h8 := chart_len e1
  have Hch := Lib.hid e1
  have Hv := Lib.hid (crsV_yes e1)
  clear e1
  go_wp2
  go_loopw [3, 4] (fun x i wr => ∃ k : Nat, k ≤ ss.length ∧ i = .int .i64 k ∧ x = .int .i64 (crsN ss k : Nat) ∧ Below w.heap.size w wr) (fun _ i _ => ss.length - (intOf i).toNat)
  case atStart => exact ⟨0, Nat.zero_le _, rfl, rfl, Hb1.out⟩
  case round =>
    obtain ⟨i, hi, rfl, rfl, hb⟩ := hrel
    have Hb := Lib.hid hb
    clear hb
    by_cases hlt : i < ss.length
    · have g1 : (i : Int) < (ss.length : Int) := by omega
      go_wp2
      go_loopw [3, 5] (fun x j wr => ∃ k : Nat, k ≤ i ∧ j = .int .i64 k ∧ x = .int .i64 (crsAt ss i k : Nat) ∧ Below w.heap.size w wr) (fun _ j _ => i - (intOf j).toNat)
      case atStart => exact ⟨0, Nat.zero_le _, rfl, by rw [crsAt_zero], Hb.out⟩
      case round =>
        obtain ⟨k, hk, rfl, rfl, hb⟩ := hrel
        have Hb2 := Lib.hid hb
        clear hb
        obtain ⟨wo, hwo⟩ : ∃ wo, wr = wo := ⟨_, rfl⟩
        subst hwo
        have hle : crsAt ss i k ≤ 72 := crsAt_le (by omega) hk
        by_cases hlt2 : k < i
        · have g2 : (k : Int) < (i : Int) := by omega
          have g3 : (k : Int) < (ss.length : Int) := by omega
          obtain ⟨b, off, rfl, hati⟩ := argK_at HA.out hlt
          obtain ⟨b', off', eb, hatk⟩ := argK_at HA.out (show k < ss.length by omega)
          injection eb with eb
          injection eb with eb eo _
          subst eb
          subst eo
          have hri := chart_in Hch.out hlt
          have hrk := chart_in Hch.out (show k < ss.length by omega)
          have hy := fun h : crB (rotAt ss i) (rotAt ss k) = true => crsAt_yes (R := ss) (i := i) (k := k) h
          have hn := fun h : crB (rotAt ss i) (rotAt ss k) = false => crsAt_no (R := ss) (i := i) (k := k) h
          obtain ⟨s, hs⟩ : ∃ s, rotAt ss i = s := ⟨_, rfl⟩
          obtain ⟨t, ht⟩ : ∃ t, rotAt ss k = t := ⟨_, rfl⟩
          rw [hs] at hati hri hy hn
          rw [ht] at hatk hrk hy hn
          have Hx := Lib.hid hati
          have Hy := Lib.hid hatk
          have HC := Lib.hid (fun W => l9Cross_c s t W hri hrk)
          obtain ⟨X, hX⟩ : ∃ X, crsAt ss i k = X := ⟨_, rfl⟩
          obtain ⟨Z, hZ⟩ : ∃ Z, crsAt ss i (k + 1) = Z := ⟨_, rfl⟩
          rw [hX, hZ] at hy hn
          rw [hX] at hle
          simp only [hX]
          have HZ := Lib.hid hZ
          have Hyes := Lib.hid hy
          have Hno := Lib.hid hn
          have q1 : IntKind.i64.wrap ((X : Int) + 1) = ((X + 1 : Nat) : Int) := by rw [IntWalk.i64_in _ (by omega)]; omega
          clear hs ht hri hrk hati hatk hy hn hX hZ
          go_wp2
          refine wp_region_held_drew (S := (fun W => Below w.heap.size w W)) (by kernel_rfl) (below_drewN Hb2.out 1) (fun hHeld => ?_)
          refine wpAnyH_take (i := 0) (oi := { dst := some 20, op := _, type := _, pos := _, after := _, guard := _ }) (v := ?va0) rfl (by kernel_rfl) (by kernel_rfl) (by kernel_rfl) (fun _ _ _ h => h) (Or.inl ⟨by kernel_rfl, ?ya0⟩) (by assumption) ?ra0
          case ya0 => intro w hSw; (try dsimp only at hSw); go_simp; try with_reducible rfl
          try simp only [Act.put, List.setIfInBounds_toArray, List.set_cons_zero, List.set_cons_succ]
          refine wpAnyH_take (i := 1) (oi := { dst := some 21, op := _, type := _, pos := _, after := _, guard := _ }) (v := ?va1) rfl (by kernel_rfl) (by kernel_rfl) (by kernel_rfl) (fun _ _ _ h => h) (Or.inl ⟨by kernel_rfl, ?ya1⟩) (by assumption) ?ra1
          case ya1 => intro w hSw; (try dsimp only at hSw); go_simp; try with_reducible rfl
          try simp only [Act.put, List.setIfInBounds_toArray, List.set_cons_zero, List.set_cons_succ]
          refine wpAnyH_take (i := 2) (oi := { dst := some 22, op := _, type := _, pos := _, after := _, guard := _ }) (v := ?va2) rfl (by kernel_rfl) (by kernel_rfl) (by kernel_rfl) (fun _ _ _ h => h) (Or.inl ⟨by kernel_rfl, ?ya2⟩) (by assumption) ?ra2
          case ya2 => intro w hSw; (try dsimp only at hSw); go_simp; try with_reducible rfl
          try simp only [Act.put, List.setIfInBounds_toArray, List.set_cons_zero, List.set_cons_succ]
          refine wpAnyH_take (i := 3) (oi := { dst := some 23, op := _, type := _, pos := _, after := _, guard := _ }) (v := ?va3) rfl (by kernel_rfl) (by kernel_rfl) (by kernel_rfl) (fun _ _ _ h => h) (Or.inl ⟨by kernel_rfl, ?ya3⟩) (by assumption) ?ra3
          case ya3 => intro w hSw; obtain ⟨c0, c1, c2, c3⟩ := Hx.out _ hSw; (try dsimp only at hSw); go_simp; try with_reducible rfl
          try simp only [Act.put, List.setIfInBounds_toArray, List.set_cons_zero, List.set_cons_succ]
          refine wpAnyH_take (i := 4) (oi := { dst := some 24, op := _, type := _, pos := _, after := _, guard := _ }) (v := ?va4) rfl (by kernel_rfl) (by kernel_rfl) (by kernel_rfl) (fun _ _ _ h => h) (Or.inl ⟨by kernel_rfl, ?ya4⟩) (by assumption) ?ra4
          case ya4 => intro w hSw; (try dsimp only at hSw); go_simp; try with_reducible rfl
          try simp only [Act.put, List.setIfInBounds_toArray, List.set_cons_zero, List.set_cons_succ]
          refine wpAnyH_take (i := 5) (oi := { dst := some 25, op := _, type := _, pos := _, after := _, guard := _ }) (v := ?va5) rfl (by kernel_rfl) (by kernel_rfl) (by kernel_rfl) (fun _ _ _ h => h) (Or.inl ⟨by kernel_rfl, ?ya5⟩) (by assumption) ?ra5
          case ya5 => intro w hSw; (try dsimp only at hSw); go_simp; try with_reducible rfl
          try simp only [Act.put, List.setIfInBounds_toArray, List.set_cons_zero, List.set_cons_succ]
          refine wpAnyH_take (i := 6) (oi := { dst := some 26, op := _, type := _, pos := _, after := _, guard := _ }) (v := ?va6) rfl (by kernel_rfl) (by kernel_rfl) (by kernel_rfl) (fun _ _ _ h => h) (Or.inl ⟨by kernel_rfl, ?ya6⟩) (by assumption) ?ra6
          case ya6 => intro w hSw; (try dsimp only at hSw); go_simp; try with_reducible rfl
          try simp only [Act.put, List.setIfInBounds_toArray, List.set_cons_zero, List.set_cons_succ]
          refine wpAnyH_take (i := 7) (oi := { dst := some 27, op := _, type := _, pos := _, after := _, guard := _ }) (v := ?va7) rfl (by kernel_rfl) (by kernel_rfl) (by kernel_rfl) (fun _ _ _ h => h) (Or.inl ⟨by kernel_rfl, ?ya7⟩) (by assumption) ?ra7
          case ya7 => intro w hSw; obtain ⟨c0, c1, c2, c3⟩ := Hy.out _ hSw; (try dsimp only at hSw); go_simp; try with_reducible rfl
          try simp only [Act.put, List.setIfInBounds_toArray, List.set_cons_zero, List.set_cons_succ]
          refine wpAnyH_ready (rs := [8]) (by kernel_rfl) (by simp) ?_
          refine AllReadyH.cons (o := { dst := some 28, op := _, type := _, pos := _, after := _, guard := _ }) rfl (fun K hK => ?_) AllReadyH.nil
          go_simp
          refine (HC.out _).mono ?_
          rintro e w3 ⟨rfl, hb3⟩
          go_wp2_with fail
          refine hK.out _ _ (below_step hHeld hb3) (fun hHeld2 => ?_)
          clear hK K
          try simp only [Act.put, List.setIfInBounds_toArray, List.set_cons_zero, List.set_cons_succ]
          cases hc : crB s t
          · have hz := Hno.out hc
            clear hc
            refine wpAnyH_done (by kernel_rfl) ?_ _
            go_wp2
            go_roundw
            case rel => exact ⟨k + 1, by omega, by go_num, by rw [HZ.out, hz], hHeld2⟩
            case measure => simp [intOf]; omega
          · have hz := Hyes.out hc
            clear hc
            refine wpAnyH_done (by kernel_rfl) ?_ _
            go_wp2
            go_roundw
            case rel => exact ⟨k + 1, by omega, by go_num, by rw [HZ.out, hz]; rfl, hHeld2⟩
            case measure => simp [intOf]; omega
        · obtain rfl : k = i := by omega
          go_wp2
          go_roundw
          case rel => exact ⟨k + 1, by omega, by go_num, by rw [crsAt_row], Hb2.out⟩
          case measure => simp [intOf]; omega
    · obtain rfl : i = ss.length := by omega
      go_wp2
      go_ret
      exact ⟨by rw [Hv.out]; rfl, Hb.out⟩

end Go.Proofs.Ytjboamhjfncgdaa
