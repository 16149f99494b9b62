/-
  The law FnMake: the stowing of the first coils is the same; it uses the least tanks. For all codes it answers true. No condition.
-/
import Derived.Test.YtodboccadccpfaaFac
import Derived.Test.YtodboccadccpfaaRowB
import Derived.Test.YtodboccadccpfaaLw
import Derived.Test.YtodboccadccpfaaSame
import Derived.Test.YtodboccadccpfaaODrawK
import Derived.Test.YtodboccadccpfaaTkQ
import Derived.Test.YtodboccadccpfaaStwM
import Derived.Test.YtodboccadccpfaaStwS
import Derived.Test.YtodboccadccpfaaCntI
import Derived.Test.YtodboccadccpfaaDrp
import Derived.Test.YtodboccadccpfaaApI0
namespace Go.Proofs.Ytodboccadccpfaa
open Go.ChangeShapes Go.WideShapes Go.ChangeAt Go.RowKit

theorem Arg.takeN {w : World} {A : Option Addr} {c : Nat} {zs : List Int} (h : Arg w A c zs) {k : Nat} (hk : k ≤ zs.length) : Arg w A c (zs.take k) := by
  obtain ⟨h1, h2, h3, h4⟩ := h
  have hl : (zs.take k).length = k := by simp; omega
  refine ⟨by omega, by omega, h3, fun hp => ?_⟩
  obtain ⟨b, off, e, g1, g2, hc⟩ := h4 (by omega)
  refine ⟨b, off, e, g1, g2, fun j hj => ?_⟩
  rw [hc j (by omega), List.getElem?_take_of_lt (by omega)]
/-- how long a slice is -/
def lenS : Value → Nat
  | .slice _ n _ => n
  | _ => 0
theorem own_arg {w w' : World} {t : TypeId} {v : Value} {zs : List Int} (h : w'.ownsRow w.heap.size t 1 v zs.length (zs.map (Value.int .i64))) (hl : zs.length ≤ 2097152) : ∃ A c, v = .slice A zs.length c ∧ Arg w' A c zs := by
  have ho := Ow.of_own h
  obtain ⟨A, c, rfl, _, _, _⟩ := ho.form
  exact ⟨A, c, rfl, ho.arg hl (Nat.le_refl _)⟩
theorem made_facts {L : List Int} (h : mkB L = true) :
    L.length ≤ 10 ∧ (mkL L).length = L.length ∧ cntN L ≤ 5 ∧ lstI L = (cntN L : Int) ∧ tnkI L (mkL L) = (cntN L : Int) ∧
    (∀ j, j < L.length → (mkL L)[j]?.getD 0 < (cntN L : Int)) ∧
    (∀ j, j ≤ L.length → (lessTo L j).length = L.length - j) ∧
    (∀ j, j < L.length → dropB (lessTo L j) (((lessTo L j).length : Int) - 1) = true ∧ drpR (lessTo L j) (((lessTo L j).length : Int) - 1) = lessTo L (j + 1)) ∧
    (∀ r, r ≤ L.length → mkB (lessTo L (L.length - r)) = true ∧ mkL (lessTo L (L.length - r)) = (mkL L).take r) := by
  have hmk := h
  unfold mkB at hmk
  rw [Bool.and_eq_true, decide_eq_true_eq] at hmk
  obtain ⟨ho, h5⟩ := hmk
  have hK := (mk_yes ho h5).2
  refine ⟨ord_len ho, by rw [hK, stT_len], h5, lst_yes ho, by rw [hK]; exact make_used ho h5, fun j hj => by rw [hK, stT_at L hj]; have := st_max ho hj; omega, fun j hj => (lessTo_all ho j hj).2.1, fun j hj => ?_, fun r hr => ?_⟩
  · obtain ⟨y1, y2, _⟩ := lessTo_all ho j (by omega)
    have e : ((lessTo L j).length : Int) - 1 = (((lessTo L j).length - 1 : Nat) : Int) := by omega
    have hd := drp_yes (i := (lessTo L j).length - 1) y1 (inB_true.2 (by omega))
    rw [e]
    exact ⟨hd.1, hd.2⟩
  · obtain ⟨y1, y2, y3, _⟩ := lessTo_all ho (L.length - r) (by omega)
    have hm := mk_yes y1 (show cntN (lessTo L (L.length - r)) ≤ 5 by omega)
    refine ⟨hm.1, ?_⟩
    rw [hm.2, lessTo_stT ho (by omega), hK, stT_take L hr, show L.length - (L.length - r) = r by omega]

set_option maxRecDepth 100000 in
set_option maxHeartbeats 1600000 in
theorem fnMake_in (A0 : Option Addr) (n0 c0 : Nat) (A1 : Option Addr) (n1 c1 : Nat) (w : World) (hl0 : n0 ≤ 1048576) (hc0 : n0 ≤ c0) (hb0 : Bytes w.heap.size w A0 n0) (hl1 : n1 ≤ 1048576) (_ : n1 ≤ c1) (_ : Bytes w.heap.size w A1 n1) :
    Calls Try.prog 10 #[.slice A0 n0 c0, .slice A1 n1 c1] w (RetB (.bool true) w) := by
  have Hb := Lib.hid hb0
  clear hb0
  have u0 : decide ((1048576 : Int) < (n0 : Int)) = false := by simp; omega
  have u1 : decide ((1048576 : Int) < (n1 : Int)) = false := by simp; omega
  go_enter Try.func10, Try.ntmps10
  go_wp2_with fail
  refine (DrawStowageMake_c A0 n0 c0 _ (by omega) hc0 Hb.out).mono ?_
  rintro e w1 ⟨B, d, zs, rfl, hzl, hA, hB⟩
  have Ha := Lib.hid hA
  have Bt := Lib.hid hB
  clear hB Hb hA
  dsimp only
  go_wp2_with fail
  refine (implStowageMake_b B d zs _ Ha.out).mono ?_
  rintro e w2 ⟨B1, d1, rfl, ra, _, hb2⟩
  replace Ha := Lib.hid (Ha.out.go hb2)
  replace Bt := Lib.hid (below_step Bt.out hb2)
  have H1 := Lib.hid ra
  clear ra hb2
  dsimp only [id]
  go_wp2_with fail
  refine (specStowageMake_b B d zs _ Ha.out).mono ?_
  rintro e w3 ⟨B2, d2, rfl, ra, _, hb3⟩
  replace Ha := Lib.hid (Ha.out.go hb3)
  replace H1 := Lib.hid (H1.out.go hb3)
  replace Bt := Lib.hid (below_step Bt.out hb3)
  have H2 := Lib.hid ra
  clear ra hb3
  dsimp only [id]
  cases hv : mkB zs
  · clear hv
    go_wp2_with fail
    refine (sameInts_c _ _ _ _ _ _ _ H1.out H2.out).mono ?_
    rintro e w4 ⟨rfl, q4, hq4⟩
    rw [decide_eq_true rfl]
    have hb4 := below_of_drew hq4
    clear hq4
    replace Ha := Lib.hid (Ha.out.go hb4)
    replace H1 := Lib.hid (H1.out.go hb4)
    replace H2 := Lib.hid (H2.out.go hb4)
    replace Bt := Lib.hid (below_step Bt.out hb4)
    clear hb4
    go_wp2_with fail
    refine (sameInts_c _ _ _ _ _ _ _ H1.out H2.out).mono ?_
    rintro e w5 ⟨rfl, q5, hq5⟩
    rw [decide_eq_true rfl]
    have hb5 := below_of_drew hq5
    clear hq5
    replace Ha := Lib.hid (Ha.out.go hb5)
    replace H1 := Lib.hid (H1.out.go hb5)
    replace H2 := Lib.hid (H2.out.go hb5)
    replace Bt := Lib.hid (below_step Bt.out hb5)
    clear hb5
    go_wp2
    go_ret
    exact ⟨rfl, Bt.out⟩
  go_wp2_with fail
  refine (sameInts_c _ _ _ _ _ _ _ H1.out H2.out).mono ?_
  rintro e w6 ⟨rfl, q6, hq6⟩
  rw [decide_eq_true rfl]
  have hb6 := below_of_drew hq6
  clear hq6
  replace Ha := Lib.hid (Ha.out.go hb6)
  replace H1 := Lib.hid (H1.out.go hb6)
  replace H2 := Lib.hid (H2.out.go hb6)
  replace Bt := Lib.hid (below_step Bt.out hb6)
  clear hb6
  clear H2
  obtain ⟨i0, hi, hz0, hz1, hz2⟩ := info_parts intInf
  obtain ⟨p1, p2, p3, p4, p5, p6, p7, p8, p9⟩ := made_facts hv
  obtain ⟨K, hK⟩ : ∃ K, mkL zs = K := ⟨_, rfl⟩
  rw [hK] at H1 p2 p5 p6 p9 ⊢
  obtain ⟨N, hN⟩ : ∃ N, cntN zs = N := ⟨_, rfl⟩
  rw [hN] at p3 p4 p5 p6
  obtain ⟨F, hF⟩ : ∃ F, lessTo zs = F := ⟨_, rfl⟩
  have hF0 : F 0 = zs := by rw [← hF]; rfl
  rw [hF] at p7 p8 p9
  have HL0 := fun W h => implTanksLeast_b B d zs W h
  rw [p4] at HL0
  have HU0 := fun W h h2 => implStowageTanks_b B d zs B1 d1 K W h h2
  rw [p5] at HU0
  obtain ⟨r, hr⟩ : ∃ r, n1 % (zs.length + 1) = r := ⟨_, rfl⟩
  have hrl : r ≤ zs.length := by have := Nat.mod_lt n1 (show 0 < zs.length + 1 by omega); omega
  have q1 : IntKind.i64.wrap ((zs.length : Int) + 1) = (zs.length : Int) + 1 := IntWalk.i64_in _ (by omega)
  have q5 : (n1 : Int).tmod ((zs.length : Int) + 1) = (r : Int) := by
    rw [show (zs.length : Int) + 1 = ((zs.length + 1 : Nat) : Int) by omega, Int.tmod_eq_emod_of_nonneg (by omega), ← hr]; simp
  have q7 : IntKind.i64.wrap (r : Int) = (r : Int) := IntWalk.i64_in _ (by omega)
  have z2 : ((zs.length : Int) + 1 = 0) = False := eq_false (by omega)
  have z3 : ((zs.length : Int) + 1 == 0) = false := beq_eq_false_iff_ne.2 (by omega)
  obtain ⟨m1, m2⟩ := p9 r hrl
  have HM0 := fun A c W h => implStowageMake_b A c (F (zs.length - r)) W h
  rw [m1, m2] at HM0
  obtain ⟨T, hT⟩ : ∃ T, K.take r = T := ⟨_, rfl⟩
  have hTl : T.length = r := by rw [← hT, List.length_take]; omega
  have HTa0 := fun W (h : Arg W B1 d1 K) => hT ▸ h.takeN (k := r) (by omega)
  rw [hT] at HM0
  have HSm0 : ∀ A c W, Arg W A c T → Arg W B1 d1 T → Calls Try.prog 48 #[.slice A T.length c, .slice B1 r d1] W (RetQ (.bool true) W) := fun A c W h h2 => by
    have := sameInts_c A B1 c d1 T T W h h2
    rw [decide_eq_true rfl, hTl] at this
    rw [hTl]
    exact this
  have HD0 := fun j (hj : j < zs.length) A c W h => implOrdersDrop_b A c (F j) (((F j).length : Int) - 1) W h
  have HD1 : ∀ j, j < zs.length → ∀ A c W, Arg W A c (F j) → Calls Try.prog 44 #[.slice A (F j).length c, .int .i64 (((F j).length : Int) - 1)] W (RetS 3 (fun v => .tuple #[v, .bool true]) (F (j + 1)) W) := fun j hj A c W h => by
    have := HD0 j hj A c W h
    rwa [(p8 j hj).1, (p8 j hj).2] at this
  have hkd : r ≤ d1 := by have := H1.out.2.1; omega
  have hK1 : K.length ≤ zs.length := by omega
  have hK2 : zs.length ≤ K.length := by omega
  have HL := Lib.hid HL0
  have HU := Lib.hid HU0
  have HM := Lib.hid HM0
  have HTa := Lib.hid HTa0
  have HSm := Lib.hid HSm0
  have HD := Lib.hid HD1
  have Hlen := Lib.hid p7
  have Hk := Lib.hid p6
  have HF0 := Lib.hid hF0
  have bN : ((N : Int) == (N : Int)) = true := by simp
  clear HL0 HU0 HM0 HTa0 HSm0 HD0 HD1 p2 p4 p5 p6 p7 p8 p9 m1 m2 hT hTl hK hN hF hF0 hr hv
  go_wp2_with (at_builtin; refine wpList_append_ints rfl _ _ 67 rfl w6.heap.size 3 i0 (.int .i64 0) Try.underlying67 hi hz0 hz1 hz2 rfl (.slice (some ⟨w6.heap.size, 0, none⟩) 0 0) [] rfl (own_none w6 _) B d zs rfl (Ha.out.go (below_none w6 _)) (by simp; omega) (by simp) ?_; intro v1 wa hown3 hg3; rw [List.nil_append] at hown3; have Hba := Lib.hid ((below_none w6 3).grown hg3 (by simp) (fun r e => by simp [Value.ownBlock] at e; omega)); obtain ⟨C, ck, rfl, hCa⟩ := own_arg hown3 (by omega); have HCa := Lib.hid hCa; clear hown3 hg3 hCa)
  go_loopw [11, 12] (fun s p wr => ∃ (j : Nat) (X : Option Addr) (x : Nat), j ≤ zs.length - r ∧ s = .slice X (F j).length x ∧ p = .bool true ∧ Arg wr X x (F j) ∧ Below w6.heap.size w6 wr) (fun s _ _ => lenS s - r)
  case atStart => exact ⟨0, C, ck, Nat.zero_le _, by rw [HF0.out], rfl, by rw [HF0.out]; exact HCa.out, Hba.out⟩
  case round =>
    obtain ⟨j, X, x, hj, rfl, rfl, hax, hb⟩ := hrel
    have HX := Lib.hid hax
    have Hb := Lib.hid hb
    clear hax hb
    have hl := Hlen.out j (by omega)
    have l1 : (F j).length ≤ zs.length - j := by omega
    have l2 : zs.length - j ≤ (F j).length := by omega
    by_cases hlt : j < zs.length - r
    · have hl2 := Hlen.out (j + 1) (by omega)
      have l3 : (F (j + 1)).length < (F j).length := by omega
      have HDj := Lib.hid (HD.out j (by omega))
      obtain ⟨Y, hY⟩ : ∃ Y, F j = Y := ⟨_, rfl⟩
      rw [hY] at HDj HX l1 l2 l3 ⊢
      have g1 : (r : Int) < (Y.length : Int) := by omega
      have d1' : decide ((r : Int) < (Y.length : Int)) = true := decide_eq_true g1
      have d2' : decide (r < Y.length) = true := decide_eq_true (by omega)
      have q2 : IntKind.i64.wrap ((Y.length : Int) - 1) = (Y.length : Int) - 1 := IntWalk.i64_in _ (by omega)
      have Hl3 := Lib.hid l3
      clear hl hl2 hY l1 l2 l3
      go_wp2_with fail
      refine (HDj.out _ _ _ HX.out).mono ?_
      rintro e wk ⟨B7, d7, rfl, ra, _, hbk⟩
      have R7 := Lib.hid ra
      have Hb2 := Lib.hid (below_step Hb.out hbk)
      clear ra hbk
      dsimp only
      go_wp2
      exact ⟨⟨j + 1, B7, d7, by omega, rfl, rfl, R7.out, Hb2.out⟩, by have := Hl3.out; simp only [lenS]; omega⟩
    · obtain rfl : j = zs.length - r := by omega
      obtain ⟨Y, hY⟩ : ∃ Y, F (zs.length - r) = Y := ⟨_, rfl⟩
      rw [hY] at HM HX l1 l2 ⊢
      have g1 : ¬ (r : Int) < (Y.length : Int) := by omega
      have d1' : decide ((r : Int) < (Y.length : Int)) = false := decide_eq_false g1
      have d2' : decide (r < Y.length) = false := decide_eq_false (by omega)
      replace Ha := Lib.hid (Ha.out.go Hb.out)
      replace H1 := Lib.hid (H1.out.go Hb.out)
      replace Bt := Lib.hid (below_step Bt.out Hb.out)
      clear hl hY l1 l2 Hb Hba HCa hlt hj
      go_wp2_with fail
      refine (HM.out _ _ _ HX.out).mono ?_
      rintro e w7 ⟨B3, d3, rfl, ra, _, hb7⟩
      replace Ha := Lib.hid (Ha.out.go hb7)
      replace H1 := Lib.hid (H1.out.go hb7)
      replace HX := Lib.hid (HX.out.go hb7)
      replace Bt := Lib.hid (below_step Bt.out hb7)
      have H3 := Lib.hid ra
      clear ra hb7
      dsimp only [id]
      clear HX
      go_wp2_with fail
      refine (HL.out _ Ha.out).mono ?_
      rintro e w8 ⟨rfl, hb8⟩
      replace Ha := Lib.hid (Ha.out.go hb8)
      replace H1 := Lib.hid (H1.out.go hb8)
      replace H3 := Lib.hid (H3.out.go hb8)
      replace Bt := Lib.hid (below_step Bt.out hb8)
      clear hb8
      dsimp only
      go_wp2
      go_loopw [16] (fun i wr => ∃ j : Nat, j ≤ K.length ∧ i = .int .i64 j ∧ Below w8.heap.size w8 wr) (fun i _ => K.length - (intOf i).toNat)
      case atStart => exact ⟨0, Nat.zero_le _, rfl, Below.refl _ _⟩
      case round =>
        obtain ⟨j, hj, rfl, hb⟩ := hrel
        have Hb := Lib.hid hb
        clear hb
        by_cases hlt : j < K.length
        · have g2 : (j : Int) < (K.length : Int) := by omega
          have e1 : ((j + 1 : Nat) : Int) = (j : Int) + 1 := by omega
          have q2 : IntKind.i64.wrap ((j : Int) + 1) = (j : Int) + 1 := IntWalk.i64_in _ (by omega)
          have hkj := Hk.out j (by omega)
          obtain ⟨b, off, rfl, _, _, hc⟩ := (H1.out.go Hb.out).rd.at_ hlt
          obtain ⟨y, hy⟩ : ∃ y, K[j]?.getD 0 = y := ⟨_, rfl⟩
          rw [hy] at hc hkj
          have g3 : ¬ (N : Int) ≤ y := by omega
          have d3' : decide ((N : Int) ≤ y) = false := decide_eq_false g3
          clear hy
          go_wp2
          exact ⟨⟨j + 1, by omega, by rw [e1], Hb.out⟩, by simp only [intOf]; omega⟩
        · obtain rfl : j = K.length := by omega
          have g2 : ¬ (K.length : Int) < (K.length : Int) := by omega
          replace Ha := Lib.hid (Ha.out.go Hb.out)
          replace H1 := Lib.hid (H1.out.go Hb.out)
          replace H3 := Lib.hid (H3.out.go Hb.out)
          replace Bt := Lib.hid (below_step Bt.out Hb.out)
          have HT := Lib.hid (HTa.out _ H1.out)
          have f1 : (0 : Int) ≤ (r : Int) := by omega
          have f2 : (r : Int) ≤ (d1 : Int) := by omega
          clear Hb HTa
          cases B1 with
          | none =>
            go_wp2_with fail
            refine (HSm.out _ _ _ H3.out HT.out).mono ?_
            rintro e w9 ⟨rfl, q9, hq9⟩
            have hb9 := below_of_drew hq9
            clear hq9
            replace Ha := Lib.hid (Ha.out.go hb9)
            replace H1 := Lib.hid (H1.out.go hb9)
            replace H3 := Lib.hid (H3.out.go hb9)
            replace HT := Lib.hid (HT.out.go hb9)
            replace Bt := Lib.hid (below_step Bt.out hb9)
            clear hb9
            go_wp2_with fail
            refine (HU.out _ Ha.out H1.out).mono ?_
            rintro e w10 ⟨rfl, hb10⟩
            replace Ha := Lib.hid (Ha.out.go hb10)
            replace H1 := Lib.hid (H1.out.go hb10)
            replace H3 := Lib.hid (H3.out.go hb10)
            replace HT := Lib.hid (HT.out.go hb10)
            replace Bt := Lib.hid (below_step Bt.out hb10)
            clear hb10
            dsimp only
            go_wp2
            go_ret
            exact ⟨rfl, Bt.out⟩
          | some ad =>
            go_wp2_with fail
            refine (HSm.out _ _ _ H3.out HT.out).mono ?_
            rintro e w9 ⟨rfl, q9, hq9⟩
            have hb9 := below_of_drew hq9
            clear hq9
            replace Ha := Lib.hid (Ha.out.go hb9)
            replace H1 := Lib.hid (H1.out.go hb9)
            replace H3 := Lib.hid (H3.out.go hb9)
            replace HT := Lib.hid (HT.out.go hb9)
            replace Bt := Lib.hid (below_step Bt.out hb9)
            clear hb9
            go_wp2_with fail
            refine (HU.out _ Ha.out H1.out).mono ?_
            rintro e w10 ⟨rfl, hb10⟩
            replace Ha := Lib.hid (Ha.out.go hb10)
            replace H1 := Lib.hid (H1.out.go hb10)
            replace H3 := Lib.hid (H3.out.go hb10)
            replace HT := Lib.hid (HT.out.go hb10)
            replace Bt := Lib.hid (below_step Bt.out hb10)
            clear hb10
            dsimp only
            go_wp2
            go_ret
            exact ⟨rfl, Bt.out⟩

set_option maxRecDepth 100000 in
theorem fnMake_walk (A0 : Option Addr) (n0 c0 : Nat) (A1 : Option Addr) (n1 c1 : Nat) (w : World) (hb0 : Byt0 w A0 n0 c0) (hb1 : Byt0 w A1 n1 c1) :
    Calls Try.prog 10 #[.slice A0 n0 c0, .slice A1 n1 c1] w (RetB (.bool true) w) := by
  by_cases hl0 : 1048576 < n0
  · clear hb0; clear hb1
    have u0 : decide ((1048576 : Int) < (n0 : Int)) = true := by simp; omega
    go_enter Try.func10, Try.ntmps10
    go_wp2
    go_ret
    exact ⟨rfl, Below.refl _ _⟩
  by_cases hl1 : 1048576 < n1
  · clear hb0; clear hb1
    have u0 : decide ((1048576 : Int) < (n0 : Int)) = false := by simp; omega
    have u1 : decide ((1048576 : Int) < (n1 : Int)) = true := by simp; omega
    go_enter Try.func10, Try.ntmps10
    go_wp2
    go_ret
    exact ⟨rfl, Below.refl _ _⟩
  exact fnMake_in A0 n0 c0 A1 n1 c1 w (by omega) hb0.1 hb0.2.2 (by omega) hb1.1 hb1.2.2

set_option maxRecDepth 100000 in
theorem fnMake_lifted (os : Os) (started : os.Started) (H : Type) (enc : TypeId × Value → H) :
    ReturnsInHanded {} Try.checked os 10 .any (Rows.fnMakeSpec.pre6 enc Try.prog Try.f10 Rows.fnMakeRow.domain false) (Rows.fnMakeSpec.post enc Try.prog Try.f10 false true false false) := by
  refine returnsInHanded_of_change (C := Try.checked) row_own started (by kernel_rfl) Try.func10
    (ChangeSpec.witness6 (enc := enc) (C := Try.checked) false ⟨#[], #[.slice none 0 0, .slice none 0 0], []⟩ 8 (by kernel_rfl) (by kernel_rfl) (by kernel_rfl) (by kernel_rfl)) ?_
  intro W base args ds gs before hval0 hW hcnd _
  have hval : ∀ (j : Nat) t v, Try.f10.params[j]? = some t → args[j]? = some v → Value.okWide Try.prog W .any base t v := hval0
  have hW' := hW
  obtain ⟨p, q, hA0, hV, rfl, _, _⟩ := hW
  have hA : DataW.TrodAll enc Try.prog W 0 (fun _ => true) true Try.f10.params.toList args.toList ds p := hA0
  rw [Try.params10] at hA hval
  obtain ⟨v0, vs0, d0, ds0, p0, q0, hargs, rfl, rfl, h0, r0⟩ := trodAll_cons hA
  obtain ⟨v1, vs1, d1, ds1, p1, q1, rfl, rfl, rfl, h1, r1⟩ := trodAll_cons r0
  obtain ⟨rfl, rfl, rfl⟩ := trodAll_nil r1
  obtain rfl : args = #[v0, v1] := by cases args; simp_all
  obtain ⟨rfl, rfl⟩ := trodVars_none hV
  have hlt0 : ∀ x ∈ p0, x.block < W.heap.size := fun x hx => by exact hW'.lt x (by simp [hx])
  obtain ⟨A0, n0, c0, rfl, hb0⟩ := open_bytes (hval 0 22 v0 rfl rfl) h0 hlt0
  have hlt1 : ∀ x ∈ p1, x.block < W.heap.size := fun x hx => by exact hW'.lt x (by simp [hx])
  obtain ⟨A1, n1, c1, rfl, hb1⟩ := open_bytes (hval 1 22 v1 rfl rfl) h1 hlt1
  clear hA0 hval0
  refine (fnMake_walk A0 n0 c0 A1 n1 c1 W hb0 hb1).mono fun e W' ⟨he, hb⟩ => ?_
  subst he
  exact ⟨_, rfl, _, _, _, [], _, [], hW', (trodAll_cons_mk (shut_bool Try.underlying4 _) trodAll_mk0), (trodAll_cons_mk (read_again_bytes h0 hlt0 hb) (trodAll_cons_mk (read_again_bytes h1 hlt1 hb) trodAll_mk0)), rfl, hb.frame _, fun h => by cases h⟩

set_option maxRecDepth 100000 in
theorem fnMake_closed : joinedFacts Try.prog 10 Try.f10 Rows.fnMakeSpec Rows.fnMakeRow = true := by
  unfold joinedFacts
  repeat' (with_reducible apply facAnd)
  all_goals first | (with_reducible exact facEnter) | (with_reducible exact facLaid) | (with_reducible exact facMaps) | (with_reducible exact facStops) | (with_reducible exact facKnobs) | (with_reducible exact facHeard) | (rw [facLifts]; as_aux_lemma => kernel_rfl) | (rw [facMake]; as_aux_lemma => kernel_rfl) | (as_aux_lemma => kernel_rfl)

/-- THE STATEMENT -/
theorem fnMake_holds : Rows.FnMakeSaid :=
  OpenClaim.holds_of_wide 10 Try.f10 rfl rfl rfl rfl rfl rfl rfl ⟨rfl, rfl, rfl, rfl, rfl⟩ rfl rfl rfl rfl rfl (by kernel_rfl) Try.func10 fnMake_closed
    (of_decide_eq_true (by kernel_rfl)) (by unfold Func.isWrapper; first | (rw [if_pos (by decide +kernel)]; kernel_rfl) | (rw [if_neg (by decide +kernel)]; exact ⟨rfl, rfl⟩))
    (fun os started H enc _ => fnMake_lifted os started H enc)
#print axioms fnMake_holds
end Go.Proofs.Ytodboccadccpfaa
