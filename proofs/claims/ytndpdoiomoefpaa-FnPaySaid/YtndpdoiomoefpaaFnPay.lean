/-
  The law FnPay: more cable hangs less. For all codes it answers true. No condition.
-/
import Derived.Test.YtndpdoiomoefpaaFac
import Derived.Test.YtndpdoiomoefpaaRowB
import Derived.Test.YtndpdoiomoefpaaLw
import Derived.Test.YtndpdoiomoefpaaSame
import Derived.Test.YtndpdoiomoefpaaDrw1
import Derived.Test.YtndpdoiomoefpaaPays
import Derived.Test.YtndpdoiomoefpaaFPaySlack
import Derived.Test.YtndpdoiomoefpaaFPayHangs
import Derived.Test.YtndpdoiomoefpaaFlK
import Derived.Test.YtndpdoiomoefpaaBackO
import Derived.Test.YtndpdoiomoefpaaHas
import Derived.Test.YtndpdoiomoefpaaStkA0
import Derived.Test.YtndpdoiomoefpaaApI0
namespace Go.Proofs.Ytndpdoiomoefpaa
open Go.ChangeShapes Go.WideShapes Go.ChangeAt Go.RowKit

set_option maxRecDepth 100000 in
set_option maxHeartbeats 4000000 in
theorem fnPay_in (A0 : Option Addr) (n0 c0 : Nat) (A1 : Option Addr) (n1 c1 : Nat) (w : World) (hl0 : n0 ≤ 1048576) (hc0 : n0 ≤ c0) (hb0 : Bytes w.heap.size w A0 n0) (hl1 : n1 ≤ 1048576) (_ : n1 ≤ c1) (_ : Bytes w.heap.size w A1 n1) :
    Calls Try.prog 6 #[.slice A0 n0 c0, .slice A1 n1 c1] w (RetB (.bool true) w) := by
  have Hb := Lib.hid hb0
  clear hb0
  have u0 : decide ((1048576 : Int) < (n0 : Int)) = false := by simp; omega
  have u1 : decide ((1048576 : Int) < (n1 : Int)) = false := by simp; omega
  go_enter Try.func6, Try.ntmps6
  go_wp2_with fail
  refine (DrawPayValid_c A0 n0 c0 _ (by omega) hc0 Hb.out).mono ?_
  rintro e w1 ⟨B, d, zs, Bp, dp, ps, rfl, hzl, hpl, hA, hP, hB⟩
  have Ha := Lib.hid hA
  have Hp := Lib.hid hP
  have Bt := Lib.hid hB
  clear hB Hb hA hP
  dsimp only
  go_wp2_with fail
  refine (implPayValid_b B d zs Bp dp ps _ Ha.out Hp.out).mono ?_
  rintro e w2 ⟨rfl, hb2⟩
  replace Ha := Lib.hid (Ha.out.go hb2)
  replace Hp := Lib.hid (Hp.out.go hb2)
  replace Bt := Lib.hid (below_step Bt.out hb2)
  clear hb2
  dsimp only
  go_wp2_with fail
  refine (specPayValid_b B d zs Bp dp ps _ Ha.out Hp.out).mono ?_
  rintro e w3 ⟨rfl, hb3⟩
  replace Ha := Lib.hid (Ha.out.go hb3)
  replace Hp := Lib.hid (Hp.out.go hb3)
  replace Bt := Lib.hid (below_step Bt.out hb3)
  clear hb3
  dsimp only
  obtain ⟨i0, hi, hz0, hz1, hz2⟩ := info_parts int_info
  cases hv : payB zs ps
  · clear hv
    go_wp2
    go_ret
    exact ⟨rfl, Bt.out⟩
  have hvv := (payB_true hv).1
  have hpz := (payB_true hv).2.1
  have vz := validB_true hvv
  have hz2' := vz.1
  have hz16 := vz.2.1
  have hp1 : 1 ≤ ps.length := by omega
  have z2 : ((ps.length : Int) = 0) = False := eq_false (by omega)
  have z3 : ((ps.length : Int) == 0) = false := beq_eq_false_iff_ne.2 (by omega)
  obtain ⟨k, hk⟩ : ∃ k, n1 % ps.length = k := ⟨_, rfl⟩
  have hkl : k < ps.length := by rw [← hk]; exact Nat.mod_lt _ (by omega)
  have q5 : (n1 : Int).tmod (ps.length : Int) = (k : Int) := by
    rw [Int.tmod_eq_emod_of_nonneg (by omega), ← hk]; simp
  have q7 : IntKind.i64.wrap (k : Int) = (k : Int) := IntWalk.i64_in _ (by omega)
  have g1 : (k : Int) < (ps.length : Int) := by omega
  have hat := pay_at hv k hkl
  have hpb := pay_back hv
  have hs1 := fun h => slack_one hv hkl h
  have hle := fun (y : Int) => hangs_less hv hkl (x := y)
  obtain ⟨y, hy⟩ : ∃ y, ps[k]?.getD 0 = y := ⟨_, rfl⟩
  rw [hy] at hat hs1 hle
  have q8 : IntKind.i64.wrap (y + 1) = y + 1 := IntWalk.i64_in _ (by omega)
  obtain ⟨X, hX⟩ : ∃ X, ps.set k (y + 1) = X := ⟨_, rfl⟩
  have hXl : X.length = ps.length := by rw [← hX, List.length_set]
  have hXk : X[k]?.getD 0 = y + 1 := by rw [← hX, set_at hkl, if_pos rfl]
  rw [hX] at hs1 hle
  have hsa := slack_wide zs X
  have hsb := slack_wide zs ps
  have HR0 := fun W h => implFloorBack_b B d zs W h
  rw [hvv, back_yes hvv] at HR0
  have HH0 := fun W h h2 => implPayHangs_b B d zs Bp dp ps W h h2
  have HM0 := fun A c W h h2 => implPayHangs_b B d zs A c X W h h2
  have HS0 := fun A c W h h2 => implPaySlack_b B d zs A c X W h h2
  have HT0 := fun W h h2 => implPaySlack_b B d zs Bp dp ps W h h2
  have HB0 := fun W h => backOf_c Bp dp ps W h
  have HV0 := fun A c A2 c2 W h h2 => implPayValid_b A c zs.reverse A2 c2 ps.reverse W h h2
  rw [hpb] at HV0
  obtain ⟨R, hR⟩ : ∃ R, zs.reverse = R := ⟨_, rfl⟩
  obtain ⟨P, hP⟩ : ∃ P, ps.reverse = P := ⟨_, rfl⟩
  obtain ⟨G, hG⟩ : ∃ G, payHangsL zs ps = G := ⟨_, rfl⟩
  obtain ⟨M, hM⟩ : ∃ M, payHangsL zs X = M := ⟨_, rfl⟩
  obtain ⟨s, hs⟩ : ∃ s, paySlackI zs ps = s := ⟨_, rfl⟩
  obtain ⟨t, ht⟩ : ∃ t, paySlackI zs X = t := ⟨_, rfl⟩
  rw [hR] at HR0 HV0
  rw [hP] at HB0 HV0
  rw [hG] at HH0 hle
  rw [hM] at HM0 hle
  rw [hs] at HT0 hs1 hsb
  rw [ht] at HS0 hs1 hsa
  have HR := Lib.hid HR0
  have HH := Lib.hid HH0
  have HT := Lib.hid HT0
  have HB := Lib.hid HB0
  have HV := Lib.hid HV0
  have HXs := Lib.hid hX
  rw [hXl] at HM0 HS0
  have HXl := Lib.hid hXl
  have HXk := Lib.hid hXk
  have HM := Lib.hid HM0
  have HS := Lib.hid HS0
  have HY := Lib.hid hy
  have HL := Lib.hid hle
  have q9 : IntKind.i64.wrap (t - s) = t - s := IntWalk.i64_in _ (by omega)
  have hcs : (60 < y + 1) ∨ (y + 1 ≤ 60 ∧ t - s = 0) ∨ (y + 1 ≤ 60 ∧ t - s = 1) := by
    rcases Int.lt_or_le 60 (y + 1) with h | h
    · exact .inl h
    · rcases hs1 h with h2 | h2
      · exact .inr (.inl ⟨h, h2⟩)
      · exact .inr (.inr ⟨h, h2⟩)
  clear HR0 HH0 HM0 HS0 HT0 HB0 HV0 hX hXl hXk hy hle hs1 hsa hsb hpb hR hP hG hM hs ht hk vz hvv hv hpz hat
  obtain ⟨bp, offp, rfl, hbp, hbp2, hcp⟩ := Hp.out.rd (by omega)
  clear hbp hbp2 hcp
  go_wp2_with (at_builtin; refine wpList_append_ints rfl _ _ 23 rfl w3.heap.size 3 i0 (.int .i64 0) Try.underlying23 hi hz0 hz1 hz2 rfl (.slice (some ⟨w3.heap.size, 0, none⟩) 0 0) [] rfl (own_fresh w3 _) (some ⟨bp, offp, none⟩) dp ps rfl (Hp.out.go (below_alloc w3 _)) (by simp; omega) (by simp) ?_; intro v' wa hown3 hg3; rw [List.nil_append] at hown3; have Hba := Lib.hid ((below_alloc w3 (.cells #[] 3)).grown hg3 (by simp) (fun r e => by simp [Value.ownBlock] at e; omega)); obtain ⟨g, cap, rfl, hck, hfk, hgb, hso, hsg⟩ := own_put hown3 (i := k) hkl (y + 1); rw [show ps[k] = y by have := HY.out; simpa [hkl] using this] at hck; rw [HXs.out] at hso; have Hso := Lib.hid hso; have Hbz := Lib.hid (Hba.out.grown hsg Hba.out.size (fun r e => by simp at e; omega)); clear hown3 hg3 hso hsg Hba)
  obtain ⟨wz, hwz⟩ : ∃ wz, wa.setCell ⟨g, k, none⟩ (.int .i64 (y + 1)) = wz := ⟨_, rfl⟩
  rw [hwz] at Hso Hbz ⊢
  clear hwz hck hfk hgb
  have HX := Lib.hid ((Ow.of_own Hso.out).arg (by rw [HXl.out]; omega) (Nat.le_refl _))
  replace Ha := Lib.hid (Ha.out.go Hbz.out)
  replace Hp := Lib.hid (Hp.out.go Hbz.out)
  replace Bt := Lib.hid (below_step Bt.out Hbz.out)
  clear Hbz Hso
  go_wp2_with fail
  refine (HR.out _ Ha.out).mono ?_
  rintro e w4 ⟨B3, d3, rfl, ra, _, hb4⟩
  replace Ha := Lib.hid (Ha.out.go hb4)
  replace Hp := Lib.hid (Hp.out.go hb4)
  replace HX := Lib.hid (HX.out.go hb4)
  replace Bt := Lib.hid (below_step Bt.out hb4)
  have H3 := Lib.hid ra
  clear ra hb4
  dsimp only [id]
  go_wp2_with fail
  refine (HH.out _ Ha.out Hp.out).mono ?_
  rintro e w5 ⟨B4, d4, rfl, ra, _, hb5⟩
  replace Ha := Lib.hid (Ha.out.go hb5)
  replace Hp := Lib.hid (Hp.out.go hb5)
  replace HX := Lib.hid (HX.out.go hb5)
  replace H3 := Lib.hid (H3.out.go hb5)
  replace Bt := Lib.hid (below_step Bt.out hb5)
  have H4 := Lib.hid ra
  clear ra hb5
  dsimp only [id]
  go_wp2_with fail
  refine (HS.out _ _ _ Ha.out HX.out).mono ?_
  rintro e w6 ⟨rfl, hb6⟩
  replace Ha := Lib.hid (Ha.out.go hb6)
  replace Hp := Lib.hid (Hp.out.go hb6)
  replace HX := Lib.hid (HX.out.go hb6)
  replace H3 := Lib.hid (H3.out.go hb6)
  replace H4 := Lib.hid (H4.out.go hb6)
  replace Bt := Lib.hid (below_step Bt.out hb6)
  clear hb6
  dsimp only
  go_wp2_with fail
  refine (HT.out _ Ha.out Hp.out).mono ?_
  rintro e w7 ⟨rfl, hb7⟩
  replace Ha := Lib.hid (Ha.out.go hb7)
  replace Hp := Lib.hid (Hp.out.go hb7)
  replace HX := Lib.hid (HX.out.go hb7)
  replace H3 := Lib.hid (H3.out.go hb7)
  replace H4 := Lib.hid (H4.out.go hb7)
  replace Bt := Lib.hid (below_step Bt.out hb7)
  clear hb7
  dsimp only
  obtain ⟨bx, ox, ex, _, _, hcx⟩ := HX.out.rd.at_ (k := k) (by rw [HXl.out]; exact hkl)
  injection ex with ex
  injection ex with ex1 ex2 _
  subst ex1
  subst ex2
  rw [HXk.out, Nat.zero_add] at hcx
  rcases hcs with h | ⟨h, h2⟩ | ⟨h, h2⟩
  · have f1 : decide (y + 1 ≤ 60) = false := decide_eq_false (by omega)
    have f2 : ¬ (y + 1 ≤ 60) := by omega
    have hcx2 := hcx
    go_wp2_with fail
    refine (HM.out _ _ _ Ha.out HX.out).mono ?_
    rintro e w8 ⟨B5, d5, rfl, ra, _, hb8⟩
    replace Ha := Lib.hid (Ha.out.go hb8)
    replace Hp := Lib.hid (Hp.out.go hb8)
    replace HX := Lib.hid (HX.out.go hb8)
    replace H3 := Lib.hid (H3.out.go hb8)
    replace H4 := Lib.hid (H4.out.go hb8)
    replace Bt := Lib.hid (below_step Bt.out hb8)
    have H5 := Lib.hid ra
    clear ra hb8
    dsimp only [id]
    go_wp2
    go_loopw [16] (fun i wr => ∃ j : Nat, j ≤ M.length ∧ i = .int .i64 j ∧ Below w8.heap.size w8 wr) (fun i _ => M.length - (intOf i).toNat)
    case atStart => exact ⟨0, Nat.zero_le _, rfl, Below.refl _ _⟩
    case round =>
      obtain ⟨j, hj, rfl, hb⟩ := hrel
      have Hb := Lib.hid hb
      clear hb
      by_cases hlt : j < M.length
      · have g2 : (j : Int) < (M.length : Int) := by omega
        have e1 : ((j + 1 : Nat) : Int) = (j : Int) + 1 := by omega
        have q3 : IntKind.i64.wrap ((j : Int) + 1) = (j : Int) + 1 := IntWalk.i64_in _ (by have := H5.out.len; omega)
        obtain ⟨b5, off5, rfl, _, _, hc5⟩ := (H5.out.go Hb.out).rd.at_ (k := j) hlt
        have hm := HL.out (M[j]?.getD 0) (by rw [List.getElem?_eq_getElem hlt]; exact List.getElem_mem _)
        obtain ⟨z, hz⟩ : ∃ z, M[j]?.getD 0 = z := ⟨_, rfl⟩
        rw [hz] at hc5 hm
        have hdm := decide_eq_true hm
        clear hz hm
        have Hdm := Lib.hid hdm
        clear hdm
        go_wp2_with fail
        refine (hasInt_c _ _ G z _ (H4.out.go Hb.out)).mono ?_
        rintro e wh ⟨rfl, rfl⟩
        rw [Hdm.out]
        go_wp2
        exact ⟨⟨j + 1, by omega, by rw [e1], Hb.out⟩, by simp only [intOf]; omega⟩
      · obtain rfl : j = M.length := by omega
        replace Hp := Lib.hid (Hp.out.go Hb.out)
        replace H3 := Lib.hid (H3.out.go Hb.out)
        replace Bt := Lib.hid (below_step Bt.out Hb.out)
        clear Ha H4 H5 HX Hb hcx hcx2
        go_wp2_with fail
        refine (HB.out _ Hp.out).mono ?_
        rintro e w9 ⟨B6, d6, rfl, ra, _, hb9⟩
        replace Hp := Lib.hid (Hp.out.go hb9)
        replace H3 := Lib.hid (H3.out.go hb9)
        replace Bt := Lib.hid (below_step Bt.out hb9)
        have H6 := Lib.hid ra
        clear ra hb9
        dsimp only [id]
        go_wp2_with fail
        refine (HV.out _ _ _ _ _ H3.out H6.out).mono ?_
        rintro e w10 ⟨rfl, hb10⟩
        replace Hp := Lib.hid (Hp.out.go hb10)
        replace H3 := Lib.hid (H3.out.go hb10)
        replace H6 := Lib.hid (H6.out.go hb10)
        replace Bt := Lib.hid (below_step Bt.out hb10)
        clear hb10
        dsimp only
        go_wp2
        go_ret
        exact ⟨rfl, Bt.out⟩
  · have f1 : decide (y + 1 ≤ 60) = true := decide_eq_true h
    have f2 : (t - s != 0) = false := by rw [h2]; rfl
    have f4 : (t - s = 0) = True := by rw [h2]; simp
    clear h2
    have hcx2 := hcx
    go_wp2_with fail
    refine (HM.out _ _ _ Ha.out HX.out).mono ?_
    rintro e w8 ⟨B5, d5, rfl, ra, _, hb8⟩
    replace Ha := Lib.hid (Ha.out.go hb8)
    replace Hp := Lib.hid (Hp.out.go hb8)
    replace HX := Lib.hid (HX.out.go hb8)
    replace H3 := Lib.hid (H3.out.go hb8)
    replace H4 := Lib.hid (H4.out.go hb8)
    replace Bt := Lib.hid (below_step Bt.out hb8)
    have H5 := Lib.hid ra
    clear ra hb8
    dsimp only [id]
    go_wp2
    go_loopw [16] (fun i wr => ∃ j : Nat, j ≤ M.length ∧ i = .int .i64 j ∧ Below w8.heap.size w8 wr) (fun i _ => M.length - (intOf i).toNat)
    case atStart => exact ⟨0, Nat.zero_le _, rfl, Below.refl _ _⟩
    case round =>
      obtain ⟨j, hj, rfl, hb⟩ := hrel
      have Hb := Lib.hid hb
      clear hb
      by_cases hlt : j < M.length
      · have g2 : (j : Int) < (M.length : Int) := by omega
        have e1 : ((j + 1 : Nat) : Int) = (j : Int) + 1 := by omega
        have q3 : IntKind.i64.wrap ((j : Int) + 1) = (j : Int) + 1 := IntWalk.i64_in _ (by have := H5.out.len; omega)
        obtain ⟨b5, off5, rfl, _, _, hc5⟩ := (H5.out.go Hb.out).rd.at_ (k := j) hlt
        have hm := HL.out (M[j]?.getD 0) (by rw [List.getElem?_eq_getElem hlt]; exact List.getElem_mem _)
        obtain ⟨z, hz⟩ : ∃ z, M[j]?.getD 0 = z := ⟨_, rfl⟩
        rw [hz] at hc5 hm
        have hdm := decide_eq_true hm
        clear hz hm
        have Hdm := Lib.hid hdm
        clear hdm
        go_wp2_with fail
        refine (hasInt_c _ _ G z _ (H4.out.go Hb.out)).mono ?_
        rintro e wh ⟨rfl, rfl⟩
        rw [Hdm.out]
        go_wp2
        exact ⟨⟨j + 1, by omega, by rw [e1], Hb.out⟩, by simp only [intOf]; omega⟩
      · obtain rfl : j = M.length := by omega
        replace Hp := Lib.hid (Hp.out.go Hb.out)
        replace H3 := Lib.hid (H3.out.go Hb.out)
        replace Bt := Lib.hid (below_step Bt.out Hb.out)
        clear Ha H4 H5 HX Hb hcx hcx2
        go_wp2_with fail
        refine (HB.out _ Hp.out).mono ?_
        rintro e w9 ⟨B6, d6, rfl, ra, _, hb9⟩
        replace Hp := Lib.hid (Hp.out.go hb9)
        replace H3 := Lib.hid (H3.out.go hb9)
        replace Bt := Lib.hid (below_step Bt.out hb9)
        have H6 := Lib.hid ra
        clear ra hb9
        dsimp only [id]
        go_wp2_with fail
        refine (HV.out _ _ _ _ _ H3.out H6.out).mono ?_
        rintro e w10 ⟨rfl, hb10⟩
        replace Hp := Lib.hid (Hp.out.go hb10)
        replace H3 := Lib.hid (H3.out.go hb10)
        replace H6 := Lib.hid (H6.out.go hb10)
        replace Bt := Lib.hid (below_step Bt.out hb10)
        clear hb10
        dsimp only
        go_wp2
        go_ret
        exact ⟨rfl, Bt.out⟩
  · have f1 : decide (y + 1 ≤ 60) = true := decide_eq_true h
    have f2 : (t - s != 0) = true := by rw [h2]; rfl
    have f4 : (t - s = 0) = False := by rw [h2]; simp
    have f3 : (t - s != 1) = false := by rw [h2]; rfl
    have f5 : (t - s = 1) = True := eq_true h2
    clear h2
    have hcx2 := hcx
    go_wp2_with fail
    refine (HM.out _ _ _ Ha.out HX.out).mono ?_
    rintro e w8 ⟨B5, d5, rfl, ra, _, hb8⟩
    replace Ha := Lib.hid (Ha.out.go hb8)
    replace Hp := Lib.hid (Hp.out.go hb8)
    replace HX := Lib.hid (HX.out.go hb8)
    replace H3 := Lib.hid (H3.out.go hb8)
    replace H4 := Lib.hid (H4.out.go hb8)
    replace Bt := Lib.hid (below_step Bt.out hb8)
    have H5 := Lib.hid ra
    clear ra hb8
    dsimp only [id]
    go_wp2
    go_loopw [16] (fun i wr => ∃ j : Nat, j ≤ M.length ∧ i = .int .i64 j ∧ Below w8.heap.size w8 wr) (fun i _ => M.length - (intOf i).toNat)
    case atStart => exact ⟨0, Nat.zero_le _, rfl, Below.refl _ _⟩
    case round =>
      obtain ⟨j, hj, rfl, hb⟩ := hrel
      have Hb := Lib.hid hb
      clear hb
      by_cases hlt : j < M.length
      · have g2 : (j : Int) < (M.length : Int) := by omega
        have e1 : ((j + 1 : Nat) : Int) = (j : Int) + 1 := by omega
        have q3 : IntKind.i64.wrap ((j : Int) + 1) = (j : Int) + 1 := IntWalk.i64_in _ (by have := H5.out.len; omega)
        obtain ⟨b5, off5, rfl, _, _, hc5⟩ := (H5.out.go Hb.out).rd.at_ (k := j) hlt
        have hm := HL.out (M[j]?.getD 0) (by rw [List.getElem?_eq_getElem hlt]; exact List.getElem_mem _)
        obtain ⟨z, hz⟩ : ∃ z, M[j]?.getD 0 = z := ⟨_, rfl⟩
        rw [hz] at hc5 hm
        have hdm := decide_eq_true hm
        clear hz hm
        have Hdm := Lib.hid hdm
        clear hdm
        go_wp2_with fail
        refine (hasInt_c _ _ G z _ (H4.out.go Hb.out)).mono ?_
        rintro e wh ⟨rfl, rfl⟩
        rw [Hdm.out]
        go_wp2
        exact ⟨⟨j + 1, by omega, by rw [e1], Hb.out⟩, by simp only [intOf]; omega⟩
      · obtain rfl : j = M.length := by omega
        replace Hp := Lib.hid (Hp.out.go Hb.out)
        replace H3 := Lib.hid (H3.out.go Hb.out)
        replace Bt := Lib.hid (below_step Bt.out Hb.out)
        clear Ha H4 H5 HX Hb hcx hcx2
        go_wp2_with fail
        refine (HB.out _ Hp.out).mono ?_
        rintro e w9 ⟨B6, d6, rfl, ra, _, hb9⟩
        replace Hp := Lib.hid (Hp.out.go hb9)
        replace H3 := Lib.hid (H3.out.go hb9)
        replace Bt := Lib.hid (below_step Bt.out hb9)
        have H6 := Lib.hid ra
        clear ra hb9
        dsimp only [id]
        go_wp2_with fail
        refine (HV.out _ _ _ _ _ H3.out H6.out).mono ?_
        rintro e w10 ⟨rfl, hb10⟩
        replace Hp := Lib.hid (Hp.out.go hb10)
        replace H3 := Lib.hid (H3.out.go hb10)
        replace H6 := Lib.hid (H6.out.go hb10)
        replace Bt := Lib.hid (below_step Bt.out hb10)
        clear hb10
        dsimp only
        go_wp2
        go_ret
        exact ⟨rfl, Bt.out⟩

set_option maxRecDepth 100000 in
theorem fnPay_walk (A0 : Option Addr) (n0 c0 : Nat) (A1 : Option Addr) (n1 c1 : Nat) (w : World) (hb0 : Byt0 w A0 n0 c0) (hb1 : Byt0 w A1 n1 c1) :
    Calls Try.prog 6 #[.slice A0 n0 c0, .slice A1 n1 c1] w (RetB (.bool true) w) := by
  by_cases hl0 : 1048576 < n0
  · clear hb0; clear hb1
    have u0 : decide ((1048576 : Int) < (n0 : Int)) = true := by simp; omega
    go_enter Try.func6, Try.ntmps6
    go_wp2
    go_ret
    exact ⟨rfl, Below.refl _ _⟩
  by_cases hl1 : 1048576 < n1
  · clear hb0; clear hb1
    have u0 : decide ((1048576 : Int) < (n0 : Int)) = false := by simp; omega
    have u1 : decide ((1048576 : Int) < (n1 : Int)) = true := by simp; omega
    go_enter Try.func6, Try.ntmps6
    go_wp2
    go_ret
    exact ⟨rfl, Below.refl _ _⟩
  exact fnPay_in A0 n0 c0 A1 n1 c1 w (by omega) hb0.1 hb0.2.2 (by omega) hb1.1 hb1.2.2

set_option maxRecDepth 100000 in
theorem fnPay_lifted (os : Os) (started : os.Started) (H : Type) (enc : TypeId × Value → H) :
    ReturnsInHanded {} Try.checked os 6 .any (Rows.fnPaySpec.pre6 enc Try.prog Try.f6 Rows.fnPayRow.domain false) (Rows.fnPaySpec.post enc Try.prog Try.f6 false true false false) := by
  refine returnsInHanded_of_change (C := Try.checked) row_own started (by kernel_rfl) Try.func6
    (ChangeSpec.witness6 (enc := enc) (C := Try.checked) false ⟨#[], #[.slice none 0 0, .slice none 0 0], []⟩ 8 (by kernel_rfl) (by kernel_rfl) (by kernel_rfl) (by kernel_rfl)) ?_
  intro W base args ds gs before hval0 hW hcnd _
  have hval : ∀ (j : Nat) t v, Try.f6.params[j]? = some t → args[j]? = some v → Value.okWide Try.prog W .any base t v := hval0
  have hW' := hW
  obtain ⟨p, q, hA0, hV, rfl, _, _⟩ := hW
  have hA : DataW.TrodAll enc Try.prog W 0 (fun _ => true) true Try.f6.params.toList args.toList ds p := hA0
  rw [Try.params6] at hA hval
  obtain ⟨v0, vs0, d0, ds0, p0, q0, hargs, rfl, rfl, h0, r0⟩ := trodAll_cons hA
  obtain ⟨v1, vs1, d1, ds1, p1, q1, rfl, rfl, rfl, h1, r1⟩ := trodAll_cons r0
  obtain ⟨rfl, rfl, rfl⟩ := trodAll_nil r1
  obtain rfl : args = #[v0, v1] := by cases args; simp_all
  obtain ⟨rfl, rfl⟩ := trodVars_none hV
  have hlt0 : ∀ x ∈ p0, x.block < W.heap.size := fun x hx => by exact hW'.lt x (by simp [hx])
  obtain ⟨A0, n0, c0, rfl, hb0⟩ := open_bytes (hval 0 22 v0 rfl rfl) h0 hlt0
  have hlt1 : ∀ x ∈ p1, x.block < W.heap.size := fun x hx => by exact hW'.lt x (by simp [hx])
  obtain ⟨A1, n1, c1, rfl, hb1⟩ := open_bytes (hval 1 22 v1 rfl rfl) h1 hlt1
  clear hA0 hval0
  refine (fnPay_walk A0 n0 c0 A1 n1 c1 W hb0 hb1).mono fun e W' ⟨he, hb⟩ => ?_
  subst he
  exact ⟨_, rfl, _, _, _, [], _, [], hW', (trodAll_cons_mk (shut_bool Try.underlying4 _) trodAll_mk0), (trodAll_cons_mk (read_again_bytes h0 hlt0 hb) (trodAll_cons_mk (read_again_bytes h1 hlt1 hb) trodAll_mk0)), rfl, hb.frame _, fun h => by cases h⟩

set_option maxRecDepth 100000 in
theorem fnPay_closed : joinedFacts Try.prog 6 Try.f6 Rows.fnPaySpec Rows.fnPayRow = true := by
  unfold joinedFacts
  repeat' (with_reducible apply facAnd)
  all_goals first | (with_reducible exact facEnter) | (with_reducible exact facLaid) | (with_reducible exact facMaps) | (with_reducible exact facStops) | (with_reducible exact facKnobs) | (with_reducible exact facHeard) | (rw [facLifts]; as_aux_lemma => kernel_rfl) | (rw [facMake]; as_aux_lemma => kernel_rfl) | (as_aux_lemma => kernel_rfl)

/-- THE STATEMENT -/
theorem fnPay_holds : Rows.FnPaySaid :=
  OpenClaim.holds_of_wide 6 Try.f6 rfl rfl rfl rfl rfl rfl rfl ⟨rfl, rfl, rfl, rfl, rfl⟩ rfl rfl rfl rfl rfl (by kernel_rfl) Try.func6 fnPay_closed
    (of_decide_eq_true (by kernel_rfl)) (by unfold Func.isWrapper; first | (rw [if_pos (by decide +kernel)]; kernel_rfl) | (rw [if_neg (by decide +kernel)]; exact ⟨rfl, rfl⟩))
    (fun os started H enc _ => fnPay_lifted os started H enc)
#print axioms fnPay_holds
end Go.Proofs.Ytndpdoiomoefpaa
