/-
  The law FnServe: for every two codes the law answers true. No condition.
-/
import Derived.Test.YtmbdggakahbciaaFac
import Derived.Test.YtmbdggakahbciaaZDrawV
import Derived.Test.YtmbdggakahbciaaServM
import Derived.Test.YtmbdggakahbciaaSvV
import Derived.Test.YtmbdggakahbciaaSvMI
import Derived.Test.YtmbdggakahbciaaRowB
import Derived.BigQuiet
namespace Go.Proofs.Ytmbdggakahbciaa
open Go.ChangeShapes Go.WideShapes Go.ChangeAt Go.RowKit

theorem argZ_tk {w : World} {A : Option Addr} {c : Nat} {zs : List Spr} (h : ArgZ w A c zs) (k : Nat) : ArgZ w A c (zs.take k) := by
  have h1 : (zs.take k).length ≤ zs.length := by simp; omega
  refine ⟨by have := h.1; omega, by have := h.2.1; omega, h.2.2.1, fun hn => ?_⟩
  obtain ⟨b, off, e, l1, l2⟩ := h.rd (by omega)
  refine ⟨b, off, e, l1, l2.1, fun j hj => ?_⟩
  have hj2 : j < k := by simp at hj; omega
  have := l2.2 j (by omega)
  rwa [show sprAt (zs.take k) j = sprAt zs j by unfold sprAt; rw [List.getElem?_take_of_lt hj2]]

theorem zs_go {w3 w w' : World} {B B2 B3 : Option Addr} {d d2 d3 : Nat} {L N M : List Spr} {x : List Int} (h : ArgZ w B d L ∧ ArgZ w B2 d2 N ∧ Arg w B3 d3 x ∧ ArgZ w B2 d2 M ∧ Below w3.heap.size w3 w) (hb : Below w.heap.size w w') : ArgZ w' B d L ∧ ArgZ w' B2 d2 N ∧ Arg w' B3 d3 x ∧ ArgZ w' B2 d2 M ∧ Below w3.heap.size w3 w' :=
  ⟨h.1.go hb, h.2.1.go hb, h.2.2.1.go hb, h.2.2.2.1.go hb, below_step h.2.2.2.2 hb⟩

set_option maxRecDepth 100000 in
set_option maxHeartbeats 4000000 in
theorem fnServe_in (A : Option Addr) (n c : Nat) (A1 : Option Addr) (n1 c1 : Nat) (w : World) (hl : n ≤ 1048576) (hnc : n ≤ c) (hb : Bytes w.heap.size w A n) (hl1 : n1 ≤ 1048576) (_ : n1 ≤ c1) (_ : Bytes w.heap.size w A1 n1) :
    Calls Try.prog 5 #[.slice A n c, .slice A1 n1 c1] w (RetB (.bool true) w) := by
  have Hb := Lib.hid hb
  clear hb
  have u0 : decide ((1048576 : Int) < (n : Int)) = false := by simp; omega
  have u1 : decide ((1048576 : Int) < (n1 : Int)) = false := by simp; omega
  go_enter Try.func5, Try.ntmps5
  go_wp2_with fail
  refine (DrawServeValid_c A n c _ (by omega) hnc Hb.out).mono ?_
  rintro e w1 ⟨B, d, L, B2, d2, Nd, B3, d3, x, rfl, hzl, hyl, hA, hA2, hX, hB⟩
  have Ha := Lib.hid hA
  have Hn := Lib.hid hA2
  have Hx := Lib.hid hX
  have Bt := Lib.hid hB
  clear hA hA2 hX hB Hb
  go_wp2_with fail
  refine (implServeValid_b B d L B2 d2 Nd B3 d3 x _ Ha.out Hn.out Hx.out).mono ?_
  rintro e w2 ⟨rfl, rb2⟩
  replace Ha := Lib.hid (Ha.out.go rb2)
  replace Hn := Lib.hid (Hn.out.go rb2)
  replace Hx := Lib.hid (Hx.out.go rb2)
  replace Bt := Lib.hid (below_step Bt.out rb2)
  clear rb2
  go_wp2_with fail
  refine (specServeValid_b B d L B2 d2 Nd B3 d3 x _ Ha.out Hn.out Hx.out).mono ?_
  rintro e w3 ⟨rfl, rb3⟩
  replace Ha := Lib.hid (Ha.out.go rb3)
  replace Hn := Lib.hid (Hn.out.go rb3)
  replace Hx := Lib.hid (Hx.out.go rb3)
  replace Bt := Lib.hid (below_step Bt.out rb3)
  clear rb3
  cases hs : servB L Nd x
  · go_wp2
    go_ret
    exact ⟨rfl, Bt.out⟩
  have Hs := Lib.hid hs
  have hxl := (servB_true hs).2.1
  clear hs
  obtain ⟨r, hr⟩ : ∃ r, n1 % (Nd.length + 1) = r := ⟨_, rfl⟩
  have hrm : r ≤ Nd.length := by have := Nat.mod_lt n1 (show 0 < Nd.length + 1 by omega); omega
  have q1 : (n1 : Int).tmod ((Nd.length : Int) + 1) = (r : Int) := by rw [show (Nd.length : Int) + 1 = ((Nd.length + 1 : Nat) : Int) by omega, Int.tmod_eq_emod_of_nonneg (by omega), ← hr]; simp
  have q2 : ((Nd.length : Int) + 1 == 0) = false := by rw [beq_eq_false_iff_ne]; omega
  have q3 : ((Nd.length : Int) + 1 = 0) = False := by simp; omega
  have hnd : Nd.length ≤ d2 := Hn.out.2.1
  have hxd : x.length ≤ d3 := Hx.out.2.1
  clear hr
  go_wp2
  go_loopw [11] (fun iv wr => ∃ i : Nat, i ≤ x.length ∧ iv = .int .i64 i ∧ Below w3.heap.size w3 wr) (fun iv _ => x.length - (intOf iv).toNat)
  case atStart => exact ⟨0, Nat.zero_le _, rfl, Below.refl _ _⟩
  case round =>
    obtain ⟨i, hi, rfl, hb⟩ := hrel
    have Hb := Lib.hid hb
    clear hb
    by_cases hlt : i < x.length
    · have g1 : (i : Int) < (x.length : Int) := by omega
      have g1n : i < Nd.length := by omega
      have g1i : (i : Int) < (Nd.length : Int) := by omega
      go_wp2
      go_loopw [12] (fun mv wr => ∃ m : Nat, m ≤ i ∧ mv = .int .i64 m ∧ Below w3.heap.size w3 wr) (fun mv _ => i - (intOf mv).toNat)
      case atStart => exact ⟨0, Nat.zero_le _, rfl, Hb.out⟩
      case round =>
        obtain ⟨m, hm, rfl, hb2⟩ := hrel
        have Hb2 := Lib.hid hb2
        clear hb2
        by_cases hlm : m < i
        · have g2 : (m : Int) < (i : Int) := by omega
          have g3 : (m : Int) < (x.length : Int) := by omega
          obtain ⟨b, off, rfl, _, hbw, hc0⟩ := (Hx.out.go Hb2.out).rd.at_ (k := m) (by omega)
          obtain ⟨b9, o9, e9, _, _, hc1⟩ := (Hx.out.go Hb2.out).rd.at_ hlt
          injection e9 with e9
          injection e9 with e91 e92 _
          subst e91; subst e92
          have hne := servB_ne Hs.out hlm hlt
          obtain ⟨p, hp⟩ : ∃ p, x[m]?.getD 0 = p := ⟨_, rfl⟩
          obtain ⟨q, hq⟩ : ∃ q, x[i]?.getD 0 = q := ⟨_, rfl⟩
          rw [hp] at hc0 hne
          rw [hq] at hc1 hne
          have hneb : (p == q) = false := by simp [hne]
          clear hp hq
          go_wp2
          go_quiet (fail)
          go_wp2
          go_roundw
          case rel => exact ⟨m + 1, by omega, by go_num, below_drewN Hb2.out nq⟩
          case measure => simp [intOf]; omega
        · obtain rfl : m = i := by omega
          go_wp2
          go_roundw
          case rel =>
            exact ⟨m + 1, by omega, by go_num, Hb2.out⟩
          case measure => simp [intOf]; omega
    · obtain rfl : i = x.length := by omega
      have hma := serve_many Hs.out
      have hst := servB_take Hs.out hrm
      have hnt : (Nd.take r).length = r := by simp; omega
      have hxt : (x.take r).length = r := by simp; omega
      have Hnt := Lib.hid (argZ_tk (Hn.out.go Hb.out) r)
      have Hxt := Lib.hid ((Hx.out.go Hb.out).take r)
      obtain ⟨Nr, hNr⟩ : ∃ N, Nd.take r = N := ⟨_, rfl⟩
      obtain ⟨xr, hxr⟩ : ∃ X, x.take r = X := ⟨_, rfl⟩
      rw [hNr] at hnt Hnt hst
      rw [hxr] at hxt Hxt hst
      have g4 : r ≤ d2 := by omega
      have g5 : r ≤ d3 := by omega
      have g6 : (r : Int) ≤ (d2 : Int) := by omega
      have g7 : (r : Int) ≤ (d3 : Int) := by omega
      obtain ⟨v, hv⟩ : ∃ v, manyZ L Nd = v := ⟨_, rfl⟩
      rw [hv] at hma
      clear hNr hxr
      have Hc1 := Lib.hid (fun w h h2 h3 => implServeValid_b B d L B2 d2 Nr B3 d3 xr w h h2 h3)
      rw [hnt, hxt, hst] at Hc1
      have Hc2 := Lib.hid (fun w h h2 => implServeCan_b B d L B2 d2 Nd w h h2)
      rw [hma.2] at Hc2
      have Hc3 := Lib.hid (fun w h h2 => implServeMany_b B d L B2 d2 Nd w h h2)
      rw [hv] at Hc3
      have hv1 : 1 ≤ v := hma.1
      have hvb : decide (1 ≤ v) = true := decide_eq_true hv1
      clear hma hv hst hnt hxt
      go_wp2_with fail
      refine wp_region_held_drew (S := (fun _ => True)) (by kernel_rfl) (trivial) (fun hHeld => ?_)
      generalize hwd : wr.drew = wd
      have Hz := Lib.hid (show ArgZ wd B d L ∧ ArgZ wd B2 d2 Nr ∧ Arg wd B3 d3 xr ∧ ArgZ wd B2 d2 Nd ∧ Below w3.heap.size w3 wd by rw [← hwd]; exact ⟨(Ha.out.go Hb.out).go (below_drewN (Below.refl _ _) 1), Hnt.out.go (below_drewN (Below.refl _ _) 1), Hxt.out.go (below_drewN (Below.refl _ _) 1), (Hn.out.go Hb.out).go (below_drewN (Below.refl _ _) 1), below_drewN Hb.out 1⟩)
      clear hwd
      refine wpAnyH_take (i := 0) (oi := { dst := some 71, op := _, type := _, pos := _, after := _, guard := _ }) (v := ?v0) rfl (by kernel_rfl) (by kernel_rfl) (by kernel_rfl) (fun _ _ _ h => h) (Or.inl ⟨by kernel_rfl, ?y0⟩) (by assumption) ?r0
      case y0 => intro w hSw; (try dsimp only at hSw); go_simp; try with_reducible rfl
      try simp only [Act.put, List.setIfInBounds_toArray, List.set_cons_zero, List.set_cons_succ]
      refine wpAnyH_take (i := 1) (oi := { dst := some 72, op := _, type := _, pos := _, after := _, guard := _ }) (v := ?v1) rfl (by kernel_rfl) (by kernel_rfl) (by kernel_rfl) (fun _ _ _ h => h) (Or.inl ⟨by kernel_rfl, ?y1⟩) (by assumption) ?r1
      case y1 => intro w hSw; (try dsimp only at hSw); go_simp; try with_reducible rfl
      try simp only [Act.put, List.setIfInBounds_toArray, List.set_cons_zero, List.set_cons_succ]
      refine wpAnyH_take (i := 2) (oi := { dst := some 73, op := _, type := _, pos := _, after := _, guard := _ }) (v := ?v2) rfl (by kernel_rfl) (by kernel_rfl) (by kernel_rfl) (fun _ _ _ h => h) (Or.inl ⟨by kernel_rfl, ?y2⟩) (by assumption) ?r2
      case y2 => intro w hSw; (try dsimp only at hSw); go_simp; try with_reducible rfl
      try simp only [Act.put, List.setIfInBounds_toArray, List.set_cons_zero, List.set_cons_succ]
      refine wpAnyH_take (i := 3) (oi := { dst := some 74, op := _, type := _, pos := _, after := _, guard := _ }) (v := ?v3) rfl (by kernel_rfl) (by kernel_rfl) (by kernel_rfl) (fun _ _ _ h => h) (Or.inl ⟨by kernel_rfl, ?y3⟩) (by assumption) ?r3
      case y3 => intro w hSw; (try dsimp only at hSw); go_simp; try with_reducible rfl
      try simp only [Act.put, List.setIfInBounds_toArray, List.set_cons_zero, List.set_cons_succ]
      refine wpAnyH_take (i := 4) (oi := { dst := some 75, op := _, type := _, pos := _, after := _, guard := _ }) (v := ?v4) rfl (by kernel_rfl) (by kernel_rfl) (by kernel_rfl) (fun _ _ _ h => h) (Or.inl ⟨by kernel_rfl, ?y4⟩) (by assumption) ?r4
      case y4 => intro w hSw; (try dsimp only at hSw); go_simp; try with_reducible rfl
      try simp only [Act.put, List.setIfInBounds_toArray, List.set_cons_zero, List.set_cons_succ]
      refine wpAnyH_take (i := 5) (oi := { dst := some 76, op := _, type := _, pos := _, after := _, guard := _ }) (v := ?v5) rfl (by kernel_rfl) (by kernel_rfl) (by kernel_rfl) (fun _ _ _ h => h) (Or.inl ⟨by kernel_rfl, ?y5⟩) (by assumption) ?r5
      case y5 => intro w hSw; (try dsimp only at hSw); go_simp; try with_reducible rfl
      try simp only [Act.put, List.setIfInBounds_toArray, List.set_cons_zero, List.set_cons_succ]
      refine wpAnyH_take (i := 6) (oi := { dst := some 77, op := _, type := _, pos := _, after := _, guard := _ }) (v := ?v6) rfl (by kernel_rfl) (by kernel_rfl) (by kernel_rfl) (fun _ _ _ h => h) (Or.inl ⟨by kernel_rfl, ?y6⟩) (by assumption) ?r6
      case y6 => intro w hSw; (try dsimp only at hSw); go_simp; try with_reducible rfl
      try simp only [Act.put, List.setIfInBounds_toArray, List.set_cons_zero, List.set_cons_succ]
      refine wpAnyH_ready (rs := [7]) (by kernel_rfl) (by simp) ?_
      refine AllReadyH.cons (o := { dst := some 78, op := _, type := _, pos := _, after := _, guard := _ }) rfl (fun K hK => ?_) AllReadyH.nil
      go_simp
      refine (Hc1.out _ Hz.out.1 Hz.out.2.1 Hz.out.2.2.1).mono ?_
      rintro e w5 ⟨rfl, rb5⟩
      have Hz5 := Lib.hid (zs_go Hz.out rb5)
      clear rb5
      go_wp2_with fail
      refine hK.out _ _ (trivial) (fun hHeld2 => ?_)
      clear hK K
      try simp only [Act.put, List.setIfInBounds_toArray, List.set_cons_zero, List.set_cons_succ]
      refine wpAnyH_take (i := 8) (oi := { dst := some 79, op := _, type := _, pos := _, after := _, guard := _ }) (v := ?v8) rfl (by kernel_rfl) (by kernel_rfl) (by kernel_rfl) (fun _ _ _ h => h) (Or.inl ⟨by kernel_rfl, ?y8⟩) (by assumption) ?r8
      case y8 => intro w hSw; (try dsimp only at hSw); go_simp; try with_reducible rfl
      try simp only [Act.put, List.setIfInBounds_toArray, List.set_cons_zero, List.set_cons_succ]
      refine wpAnyH_take (i := 9) (oi := { dst := some 80, op := _, type := _, pos := _, after := _, guard := _ }) (v := ?v9) rfl (by kernel_rfl) (by kernel_rfl) (by kernel_rfl) (fun _ _ _ h => h) (Or.inl ⟨by kernel_rfl, ?y9⟩) (by assumption) ?r9
      case y9 => intro w hSw; (try dsimp only at hSw); go_simp; try with_reducible rfl
      try simp only [Act.put, List.setIfInBounds_toArray, List.set_cons_zero, List.set_cons_succ]
      refine wpAnyH_take (i := 10) (oi := { dst := some 81, op := _, type := _, pos := _, after := _, guard := _ }) (v := ?v10) rfl (by kernel_rfl) (by kernel_rfl) (by kernel_rfl) (fun _ _ _ h => h) (Or.inl ⟨by kernel_rfl, ?y10⟩) (by assumption) ?r10
      case y10 => intro w hSw; (try dsimp only at hSw); go_simp; try with_reducible rfl
      try simp only [Act.put, List.setIfInBounds_toArray, List.set_cons_zero, List.set_cons_succ]
      refine wpAnyH_ready (rs := [11]) (by kernel_rfl) (by simp) ?_
      refine AllReadyH.cons (o := { dst := some 82, op := _, type := _, pos := _, after := _, guard := _ }) rfl (fun K hK => ?_) AllReadyH.nil
      go_simp
      refine (Hc2.out _ Hz5.out.1 Hz5.out.2.2.2.1).mono ?_
      rintro e w6 ⟨rfl, rb6⟩
      have Hz6 := Lib.hid (zs_go Hz5.out rb6)
      clear rb6
      go_wp2_with fail
      refine hK.out _ _ (trivial) (fun hHeld2 => ?_)
      clear hK K
      try simp only [Act.put, List.setIfInBounds_toArray, List.set_cons_zero, List.set_cons_succ]
      refine wpAnyH_take (i := 12) (oi := { dst := some 83, op := _, type := _, pos := _, after := _, guard := _ }) (v := ?v12) rfl (by kernel_rfl) (by kernel_rfl) (by kernel_rfl) (fun _ _ _ h => h) (Or.inl ⟨by kernel_rfl, ?y12⟩) (by assumption) ?r12
      case y12 => intro w hSw; (try dsimp only at hSw); go_simp; try with_reducible rfl
      try simp only [Act.put, List.setIfInBounds_toArray, List.set_cons_zero, List.set_cons_succ]
      refine wpAnyH_take (i := 13) (oi := { dst := some 84, op := _, type := _, pos := _, after := _, guard := _ }) (v := ?v13) rfl (by kernel_rfl) (by kernel_rfl) (by kernel_rfl) (fun _ _ _ h => h) (Or.inl ⟨by kernel_rfl, ?y13⟩) (by assumption) ?r13
      case y13 => intro w hSw; (try dsimp only at hSw); go_simp; try with_reducible rfl
      try simp only [Act.put, List.setIfInBounds_toArray, List.set_cons_zero, List.set_cons_succ]
      refine wpAnyH_take (i := 14) (oi := { dst := some 85, op := _, type := _, pos := _, after := _, guard := _ }) (v := ?v14) rfl (by kernel_rfl) (by kernel_rfl) (by kernel_rfl) (fun _ _ _ h => h) (Or.inl ⟨by kernel_rfl, ?y14⟩) (by assumption) ?r14
      case y14 => intro w hSw; (try dsimp only at hSw); go_simp; try with_reducible rfl
      try simp only [Act.put, List.setIfInBounds_toArray, List.set_cons_zero, List.set_cons_succ]
      refine wpAnyH_take (i := 15) (oi := { dst := some 86, op := _, type := _, pos := _, after := _, guard := _ }) (v := ?v15) rfl (by kernel_rfl) (by kernel_rfl) (by kernel_rfl) (fun _ _ _ h => h) (Or.inl ⟨by kernel_rfl, ?y15⟩) (by assumption) ?r15
      case y15 => intro w hSw; (try dsimp only at hSw); go_simp; try with_reducible rfl
      try simp only [Act.put, List.setIfInBounds_toArray, List.set_cons_zero, List.set_cons_succ]
      refine wpAnyH_ready (rs := [16]) (by kernel_rfl) (by simp) ?_
      refine AllReadyH.cons (o := { dst := some 87, op := _, type := _, pos := _, after := _, guard := _ }) rfl (fun K hK => ?_) AllReadyH.nil
      go_simp
      refine (Hc3.out _ Hz6.out.1 Hz6.out.2.2.2.1).mono ?_
      rintro e w7 ⟨rfl, rb7⟩
      have Hz7 := Lib.hid (zs_go Hz6.out rb7)
      clear rb7
      go_wp2_with fail
      refine hK.out _ _ (trivial) (fun hHeld2 => ?_)
      clear hK K
      try simp only [Act.put, List.setIfInBounds_toArray, List.set_cons_zero, List.set_cons_succ]
      refine wpAnyH_take (i := 17) (oi := { dst := some 88, op := _, type := _, pos := _, after := _, guard := _ }) (v := ?v17) rfl (by kernel_rfl) (by kernel_rfl) (by kernel_rfl) (fun _ _ _ h => h) (Or.inl ⟨by kernel_rfl, ?y17⟩) (by assumption) ?r17
      case y17 => intro w hSw; (try dsimp only at hSw); go_simp; try with_reducible rfl
      try simp only [Act.put, List.setIfInBounds_toArray, List.set_cons_zero, List.set_cons_succ]
      refine wpAnyH_take (i := 18) (oi := { dst := some 89, op := _, type := _, pos := _, after := _, guard := _ }) (v := ?v18) rfl (by kernel_rfl) (by kernel_rfl) (by kernel_rfl) (fun _ _ _ h => h) (Or.inl ⟨by kernel_rfl, ?y18⟩) (by assumption) ?r18
      case y18 => intro w hSw; (try dsimp only at hSw); go_simp; try with_reducible rfl
      try simp only [Act.put, List.setIfInBounds_toArray, List.set_cons_zero, List.set_cons_succ]
      refine wpAnyH_take (i := 19) (oi := { dst := some 4, op := _, type := _, pos := _, after := _, guard := _ }) (v := ?v19) rfl (by kernel_rfl) (by kernel_rfl) (by kernel_rfl) (fun _ _ _ h => h) (Or.inl ⟨by kernel_rfl, ?y19⟩) (by assumption) ?r19
      case y19 => intro w hSw; (try dsimp only at hSw); go_simp; try with_reducible rfl
      try simp only [Act.put, List.setIfInBounds_toArray, List.set_cons_zero, List.set_cons_succ]
      refine wpAnyH_done (by kernel_rfl) ?_ _
      go_wp2
      go_ret
      exact ⟨rfl, below_step Bt.out Hz7.out.2.2.2.2⟩

theorem fnServe_walk (A0 : Option Addr) (n0 c0 : Nat) (A1 : Option Addr) (n1 c1 : Nat) (w : World) (hb0 : Byt0 w A0 n0 c0) (hb1 : Byt0 w A1 n1 c1) :
    Calls Try.prog 5 #[.slice A0 n0 c0, .slice A1 n1 c1] w (RetB (.bool true) w) := by
  by_cases hl0 : 1048576 < n0
  · clear hb0; clear hb1
    have u0 : decide ((1048576 : Int) < (n0 : Int)) = true := by simp; omega
    go_enter Try.func5, Try.ntmps5
    go_wp2
    go_ret
    exact ⟨rfl, Below.refl _ _⟩
  by_cases hl1 : 1048576 < n1
  · clear hb0; clear hb1
    have u0 : decide ((1048576 : Int) < (n0 : Int)) = false := by simp; omega
    have u1 : decide ((1048576 : Int) < (n1 : Int)) = true := by simp; omega
    go_enter Try.func5, Try.ntmps5
    go_wp2
    go_ret
    exact ⟨rfl, Below.refl _ _⟩
  exact fnServe_in A0 n0 c0 A1 n1 c1 w (by omega) hb0.1 hb0.2.2 (by omega) hb1.1 hb1.2.2

set_option maxRecDepth 100000 in
theorem fnServe_lifted (os : Os) (started : os.Started) (H : Type) (enc : TypeId × Value → H) :
    ReturnsInHanded {} Try.checked os 5 .any (Rows.fnServeSpec.pre6 enc Try.prog Try.f5 Rows.fnServeRow.domain false) (Rows.fnServeSpec.post enc Try.prog Try.f5 false true false false) := by
  refine returnsInHanded_of_change (C := Try.checked) row_own started (by kernel_rfl) Try.func5
    (ChangeSpec.witness6 (enc := enc) (C := Try.checked) false ⟨#[], #[.slice none 0 0, .slice none 0 0], []⟩ 8 (by kernel_rfl) (by kernel_rfl) (by kernel_rfl) (by kernel_rfl)) ?_
  intro W base args ds gs before hval0 hW hcnd _
  have hval : ∀ (j : Nat) t v, Try.f5.params[j]? = some t → args[j]? = some v → Value.okWide Try.prog W .any base t v := hval0
  have hW' := hW
  obtain ⟨p, q, hA0, hV, rfl, _, _⟩ := hW
  have hA : DataW.TrodAll enc Try.prog W 0 (fun _ => true) true Try.f5.params.toList args.toList ds p := hA0
  rw [Try.params5] at hA hval
  obtain ⟨v0, vs0, d0, ds0, p0, q0, hargs, rfl, rfl, h0, r0⟩ := trodAll_cons hA
  obtain ⟨v1, vs1, d1, ds1, p1, q1, rfl, rfl, rfl, h1, r1⟩ := trodAll_cons r0
  obtain ⟨rfl, rfl, rfl⟩ := trodAll_nil r1
  obtain rfl : args = #[v0, v1] := by cases args; simp_all
  obtain ⟨rfl, rfl⟩ := trodVars_none hV
  have hlt0 : ∀ x ∈ p0, x.block < W.heap.size := fun x hx => by exact hW'.lt x (by simp [hx])
  obtain ⟨A0, n0, c0, rfl, hb0⟩ := open_bytes (hval 0 22 v0 rfl rfl) h0 hlt0
  have hlt1 : ∀ x ∈ p1, x.block < W.heap.size := fun x hx => by exact hW'.lt x (by simp [hx])
  obtain ⟨A1, n1, c1, rfl, hb1⟩ := open_bytes (hval 1 22 v1 rfl rfl) h1 hlt1
  clear hA0 hval0
  refine (fnServe_walk A0 n0 c0 A1 n1 c1 W hb0 hb1).mono fun e W' ⟨he, hb⟩ => ?_
  subst he
  exact ⟨_, rfl, _, _, _, [], _, [], hW', (trodAll_cons_mk (shut_bool Try.underlying4 _) trodAll_mk0), (trodAll_cons_mk (read_again_bytes h0 hlt0 hb) (trodAll_cons_mk (read_again_bytes h1 hlt1 hb) trodAll_mk0)), rfl, hb.frame _, fun h => by cases h⟩

set_option maxRecDepth 100000 in
theorem fnServe_closed : joinedFacts Try.prog 5 Try.f5 Rows.fnServeSpec Rows.fnServeRow = true := by
  unfold joinedFacts
  repeat' (with_reducible apply facAnd)
  all_goals first | (with_reducible exact facEnter) | (with_reducible exact facLaid) | (with_reducible exact facMaps) | (with_reducible exact facStops) | (with_reducible exact facKnobs) | (with_reducible exact facHeard) | (rw [facLifts]; as_aux_lemma => kernel_rfl) | (rw [facMake]; as_aux_lemma => kernel_rfl) | (as_aux_lemma => kernel_rfl)

/-- THE STATEMENT -/
theorem fnServe_holds : Rows.FnServeSaid :=
  OpenClaim.holds_of_wide 5 Try.f5 rfl rfl rfl rfl rfl rfl rfl ⟨rfl, rfl, rfl, rfl, rfl⟩ rfl rfl rfl rfl rfl (by kernel_rfl) Try.func5 fnServe_closed
    (of_decide_eq_true (by kernel_rfl)) (by unfold Func.isWrapper; first | (rw [if_pos (by decide +kernel)]; kernel_rfl) | (rw [if_neg (by decide +kernel)]; exact ⟨rfl, rfl⟩))
    (fun os started H enc _ => fnServe_lifted os started H enc)
#print axioms fnServe_holds
end Go.Proofs.Ytmbdggakahbciaa
