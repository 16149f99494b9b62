/-
  The law FnPlanRate: in fair weather, rates are best. For all codes it answers true. No condition but the tie of the card.
-/
import Derived.Test.YtodboccadccpfaaDoorRowB
import Derived.Test.YtodboccadccpfaaDoorRow
import Derived.ChangeMaps5
import Derived.Test.YtodboccadccpfaaDoorDoorM
import Derived.Test.YtodboccadccpfaaDoorTie
import Derived.Test.YtodboccadccpfaaDoorCards
import Derived.LaidMore
import Derived.SevenTiedAt
import Derived.Stop.Joined
import Derived.Test.YtodboccadccpfaaDoorFacD
import Derived.Test.YtodboccadccpfaaDoorLw
import Derived.Test.YtodboccadccpfaaDoorJWork
import Derived.Test.YtodboccadccpfaaDoorPrM
import Derived.Test.YtodboccadccpfaaDoorPlB
import Derived.Test.YtodboccadccpfaaDoorPlV
import Derived.Test.YtodboccadccpfaaDoorPlL
import Derived.Test.YtodboccadccpfaaDoorFcB
import Derived.Test.YtodboccadccpfaaDoorJbV
import Derived.Test.YtodboccadccpfaaDoorRtJ
import Derived.Test.YtodboccadccpfaaDoorRtS
import Derived.Test.YtodboccadccpfaaDoorSame
namespace Go.Proofs.YtodboccadccpfaaDoor
open Go.ChangeShapes Go.WideShapes Go.ChangeAt Go.RowKit Go.ChangeMaps

set_option maxRecDepth 100000 in
theorem DrawPlanRate_c (A : Option Addr) (n c : Nat) (w : World) (hn : n ≤ 9223372036854775807) (hnc : n ≤ c) (hb : Bytes w.heap.size w A n) :
    Calls Tryd.prog 20 #[.slice A n c] w (fun e w' => ∃ (s : ByteArray) (B : Option Addr) (d : Nat) (J : List Jbs), e = .returned (.tuple #[.string s, .slice B J.length d]) ∧ s.size ≤ 63 ∧ J.length ≤ 4 ∧ ArgJ w' B d J ∧ Below w.heap.size w w') := by
  have Hb := Lib.hid hb
  clear hb
  go_enter Tryd.func20, Tryd.ntmps20
  go_wp2_with fail
  refine (l6Open_c A n c _ hn hnc Hb.out).mono ?_
  rintro e w1 ⟨n', c', rfl, hr1, hb1, hlt1⟩
  have Hr1 := Lib.hid hr1
  have Hb1 := Lib.hid hb1
  clear hr1 hb1
  go_wp2_with fail
  refine (l92Work_c _ A n' c' 0 _ Hr1.out hlt1 (by omega)).mono ?_
  rintro e w2 ⟨s, B, d, J, q, rfl, hs, hJ, hO, hr2, hq, hg2⟩
  have Hb2 := Lib.hid (Hb1.out.grown hg2 Hb1.out.size (fun r e => by injection e with e; omega))
  have HA := Lib.hid (hO.arg (by omega) (Nat.le_refl _))
  clear hr2 hg2 hO
  go_wp2
  go_ret2
  exact ⟨s, B, d, J, rfl, hs, hJ, HA.out, Hb2.out⟩
theorem argI_to {w : World} {A : Option Addr} {c : Nat} {zs : List Int} (ha : Arg w A c zs) {k : Nat} (hk : k < zs.length) : ∃ b off, A = some ⟨b, off, none⟩ ∧ ∀ W, Below w.heap.size w W → W.cell? ⟨b, off + k, none⟩ = some (.int .i64 (zs[k]?.getD 0)) := by
  obtain ⟨b, off, e, _, hb, hc⟩ := ha.rd.at_ hk
  exact ⟨b, off, e, fun W h => (h.cell (p := ⟨b, off + k, none⟩) hb).trans hc⟩
theorem argJ_to2 {w : World} {A : Option Addr} {c : Nat} {zs : List Jbs} (ha : ArgJ w A c zs) {k : Nat} (hk : k < zs.length) : ∃ b off, A = some ⟨b, off, none⟩ ∧ ∀ W, Below w.heap.size w W → W.cell? ⟨b, off + k * 2, none⟩ = some (.int .i64 (jbsAt zs k).d) ∧ W.cell? ⟨b, off + k * 2 + 1, none⟩ = some (.int .i64 (jbsAt zs k).g) := by
  obtain ⟨b, off, e, _, hb, hc⟩ := ha.rd.at_ hk
  exact ⟨b, off, e, fun W h => ⟨(h.cell (p := ⟨b, off + k * 2, none⟩) hb).trans hc.1, (h.cell (p := ⟨b, off + k * 2 + 1, none⟩) hb).trans hc.2⟩⟩
theorem box_new2 (w : World) (o o2 : Obj) : ((w.alloc o).alloc o2).heap[w.heap.size + 1]? = some o2 := by
  have := heap_alloc_new (w.alloc o) o2
  rwa [World.size_alloc] at this
theorem box_old (w : World) (o o2 : Obj) : ((w.alloc o).alloc o2).heap[w.heap.size]? = some o := (Below.heap_alloc (w.alloc o) o2 w.heap.size (by rw [World.size_alloc]; omega)).trans (heap_alloc_new w o)

set_option maxRecDepth 100000 in
set_option maxHeartbeats 1600000 in
theorem fnPlanRate_in (A0 : Option Addr) (n0 c0 : Nat) (w : World) (hl0 : n0 ≤ 1048576) (hc0 : n0 ≤ c0) (hb0 : Bytes w.heap.size w A0 n0) (hT : Tab w) :
    Calls Tryd.prog 5 #[.slice A0 n0 c0] w (RetB (.bool true) w) := by
  have Hb := Lib.hid hb0
  clear hb0
  have tz0 := hT.lt
  have HT := Lib.hid hT
  clear hT
  go_enter Tryd.func5, Tryd.ntmps5
  go_wp2_with fail
  refine (DrawPlanRate_c A0 n0 c0 _ (by omega) hc0 Hb.out).mono ?_
  rintro e w1 ⟨s, B, d, J, rfl, hs, hJ4, hA, hB⟩
  have Ha := Lib.hid hA
  have Bt := Lib.hid hB
  replace HT := Lib.hid (HT.out.go hB)
  clear hB Hb hA
  dsimp only
  have hs2 : s.size ≤ 2097152 := by omega
  go_wp2_with fail
  refine (implPlanRate_b s B d J _ hs2 Ha.out).mono ?_
  rintro e w2 ⟨B1, d1, rfl, ra, _, hb2⟩
  replace HT := Lib.hid (HT.out.go hb2)
  replace Ha := Lib.hid (Ha.out.go hb2)
  replace Bt := Lib.hid (below_step Bt.out hb2)
  have H1 := Lib.hid ra
  clear ra hb2
  dsimp only [id]
  go_wp2_with fail
  refine (specPlanRate_b s B d J _ hs2 Ha.out).mono ?_
  rintro e w3 ⟨B2, d2, rfl, ra, _, hb3⟩
  replace HT := Lib.hid (HT.out.go hb3)
  replace Ha := Lib.hid (Ha.out.go hb3)
  replace H1 := Lib.hid (H1.out.go hb3)
  replace Bt := Lib.hid (below_step Bt.out hb3)
  have H2 := Lib.hid ra
  clear ra hb3
  dsimp only [id]
  cases hv : timeB (byL s) J
  · clear hv
    go_wp2_with fail
    refine (sameInts_c _ _ _ _ _ _ _ H1.out H2.out).mono ?_
    rintro e w4 ⟨rfl, q4, hq4⟩
    rw [decide_eq_true rfl]
    have hb4 := below_of_drew hq4
    clear hq4
    replace HT := Lib.hid (HT.out.go hb4)
    replace Ha := Lib.hid (Ha.out.go hb4)
    replace H1 := Lib.hid (H1.out.go hb4)
    replace H2 := Lib.hid (H2.out.go hb4)
    replace Bt := Lib.hid (below_step Bt.out hb4)
    clear hb4
    go_wp2_with fail
    refine (sameInts_c _ _ _ _ _ _ _ H1.out H2.out).mono ?_
    rintro e w5 ⟨rfl, q5, hq5⟩
    rw [decide_eq_true rfl]
    have hb5 := below_of_drew hq5
    clear hq5
    replace HT := Lib.hid (HT.out.go hb5)
    replace Ha := Lib.hid (Ha.out.go hb5)
    replace H1 := Lib.hid (H1.out.go hb5)
    replace H2 := Lib.hid (H2.out.go hb5)
    replace Bt := Lib.hid (below_step Bt.out hb5)
    clear hb5
    go_wp2
    go_ret
    exact ⟨rfl, Bt.out⟩
  go_wp2_with fail
  refine (sameInts_c _ _ _ _ _ _ _ H1.out H2.out).mono ?_
  rintro e w6 ⟨rfl, q6, hq6⟩
  rw [decide_eq_true rfl]
  have hb6 := below_of_drew hq6
  clear hq6
  replace HT := Lib.hid (HT.out.go hb6)
  replace Ha := Lib.hid (Ha.out.go hb6)
  replace H1 := Lib.hid (H1.out.go hb6)
  replace H2 := Lib.hid (H2.out.go hb6)
  replace Bt := Lib.hid (below_step Bt.out hb6)
  clear hb6
  clear H2
  obtain ⟨f1, f2, f3⟩ := timeB_true.1 hv
  have hd := daysJ_bd f2
  have hrl := rateT_len J J.length
  have hrb := fun (k : Nat) (h : k < J.length) => rateT_at J h
  have hrs := fun (k : Nat) (h : k + 1 < (rateT J J.length).length) => rate_pairs hv h
  have hjb := fun (k : Nat) => jbB_any f2 k
  have hfair := rate_best hv
  have hrp : planB (byL s) J (rateT J J.length) = true := planB_true.2 ⟨hv, rate_ord J (by omega), hrl⟩
  have hnn := lossV_bd (byL s) J (rateT J J.length)
  have HB0 := fun W h h2 => implPlanBest_b s B d J W hs2 h h2
  rw [hv] at HB0
  rw [rateL_yes hv] at H1 ⊢
  have HD0 := fun W h => implJobsDays_b B d J W h
  have HO0 := fun W => implForecastOpen_b s (daysV J) W hs2
  obtain ⟨K, hK⟩ : ∃ K, rateT J J.length = K := ⟨_, rfl⟩
  rw [hK] at H1 hrl hrb hrs hfair hrp ⊢
  have HV0 := fun W h h2 => implPlanValid_b s B d J B1 d1 K W hs2 h h2
  rw [hrp] at HV0
  have HL0 := fun W h h2 h3 => implPlanLoss_b s B d J B1 d1 K W hs2 h h2 h3
  have HM0 := fun A c W h h2 h3 => implPlanLoss_b s B d J A c (bsP (byL s) J) W hs2 h h2 h3
  obtain ⟨P, hP⟩ : ∃ P, bsP (byL s) J = P := ⟨_, rfl⟩
  rw [hP] at HB0 HM0 hfair
  obtain ⟨x, hx⟩ : ∃ x, daysV J = x := ⟨_, rfl⟩
  rw [hx] at HD0 HO0 hfair
  obtain ⟨y, hy⟩ : ∃ y, opV (byL s) x = y := ⟨_, rfl⟩
  rw [hy] at HO0 hfair
  obtain ⟨u, hu⟩ : ∃ u, lossV (byL s) J K = u := ⟨_, rfl⟩
  obtain ⟨v, hv2⟩ : ∃ v, lossV (byL s) J P = v := ⟨_, rfl⟩
  rw [hu] at HL0 hfair
  rw [hv2] at HM0 hfair
  have HB := Lib.hid HB0
  have HD := Lib.hid HD0
  have HO := Lib.hid HO0
  have HV := Lib.hid HV0
  have HL := Lib.hid HL0
  have HM := Lib.hid HM0
  have Hrb := Lib.hid hrb
  have Hrs := Lib.hid hrs
  have Hjb := Lib.hid hjb
  have hf : (y = x ∧ u = v) ∨ y ≠ x := by
    by_cases h : y = x
    · exact .inl ⟨h, hfair h⟩
    · exact .inr h
  have k1 : K.length ≤ J.length := by omega
  have k2 : J.length ≤ K.length := by omega
  clear HB0 HD0 HO0 HV0 HL0 HM0 hrb hrs hjb hfair hrp hnn hK hP hx hy hu hv2 hv f1 f2 f3 hd hrl
  go_wp2
  go_loopw [9] (fun i wr => ∃ j : Nat, 1 ≤ j ∧ (j ≤ K.length ∨ j = 1) ∧ i = .int .i64 j ∧ Below w6.heap.size w6 wr) (fun i _ => K.length + 1 - (intOf i).toNat)
  case atStart => exact ⟨1, Nat.le_refl _, .inr rfl, rfl, Below.refl _ _⟩
  case round =>
    obtain ⟨j, hj1, hj2, rfl, hb⟩ := hrel
    have Hb := Lib.hid hb
    clear hb
    by_cases hlt : j < K.length
    · have g2 : (j : Int) < (K.length : Int) := by omega
      have e1 : ((j + 1 : Nat) : Int) = (j : Int) + 1 := by omega
      have q2 : IntKind.i64.wrap ((j : Int) + 1) = (j : Int) + 1 := IntWalk.i64_in _ (by omega)
      obtain ⟨k, hk⟩ : ∃ k, j = k + 1 := ⟨j - 1, by omega⟩
      have q3 : IntKind.i64.wrap ((j : Int) - 1) = (k : Int) := by rw [show (j : Int) - 1 = (k : Int) by omega]; exact IntWalk.i64_in _ (by omega)
      have g3 : (k : Int) < (K.length : Int) := by omega
      have h1 := Hrb.out k (by omega)
      have h2 := Hrb.out j (by omega)
      have h3 := Hrs.out k (by omega)
      rw [← hk] at h3
      obtain ⟨b, off, rfl, hc0⟩ := argI_to H1.out (k := k) (by omega)
      obtain ⟨b', off', eb, hc1⟩ := argI_to H1.out (k := j) hlt
      injection eb with eb
      injection eb with eb eo _
      subst eb
      subst eo
      obtain ⟨p, hp⟩ : ∃ p : Nat, K[k]?.getD 0 = (p : Int) := ⟨(K[k]?.getD 0).toNat, by omega⟩
      obtain ⟨q, hq⟩ : ∃ q : Nat, K[j]?.getD 0 = (q : Int) := ⟨(K[j]?.getD 0).toNat, by omega⟩
      rw [hp] at hc0 h1 h3
      rw [hq] at hc1 h2 h3
      obtain ⟨bj, oj, rfl, ha0⟩ := argJ_to2 Ha.out (k := p) (by omega)
      obtain ⟨bj', oj', eb, ha1⟩ := argJ_to2 Ha.out (k := q) (by omega)
      injection eb with eb
      injection eb with eb eo _
      subst eb
      subst eo
      have b1 := Hjb.out p
      have b2 := Hjb.out q
      rw [rgB_true, Int.toNat_natCast, Int.toNat_natCast] at h3
      obtain ⟨ad, had⟩ : ∃ x, (jbsAt J p).d = x := ⟨_, rfl⟩
      obtain ⟨ag, hag⟩ : ∃ x, (jbsAt J p).g = x := ⟨_, rfl⟩
      obtain ⟨bd, hbd⟩ : ∃ x, (jbsAt J q).d = x := ⟨_, rfl⟩
      obtain ⟨bg, hbg⟩ : ∃ x, (jbsAt J q).g = x := ⟨_, rfl⟩
      rw [had, hag] at ha0 b1
      rw [hbd, hbg] at ha1 b2
      rw [had, hag, hbd, hbg] at h3
      have g4 : (p : Int) < (J.length : Int) := by omega
      have g5 : (q : Int) < (J.length : Int) := by omega
      have m1 := mul_bd (a := ag) (b := bd) b1.2.1 b1.2.2 b2.1.1 b2.1.2
      have m2 := mul_bd (a := bg) (b := ad) b2.2.1 b2.2.2 b1.1.1 b1.1.2
      have q4 : IntKind.i64.wrap (ag * bd) = ag * bd := IntWalk.i64_in _ (by omega)
      have q5 : IntKind.i64.wrap (bg * ad) = bg * ad := IntWalk.i64_in _ (by omega)
      have g6 : ¬ ag * bd < bg * ad := by omega
      have g6d : decide (ag * bd < bg * ad) = false := decide_eq_false g6
      obtain ⟨E1, hE1⟩ : ∃ E, wr.alloc (.cells #[.int .i64 ad, .int .i64 ag] 38) = E := ⟨_, rfl⟩
      obtain ⟨E2, hE2⟩ : ∃ E, E1.alloc (.cells #[.int .i64 bd, .int .i64 bg] 38) = E := ⟨_, rfl⟩
      have hbE1 : Below w6.heap.size w6 E1 := by rw [← hE1]; exact Hb.out.alloc Hb.out.size _
      have hbE2 : Below w6.heap.size w6 E2 := by rw [← hE2]; exact hbE1.alloc hbE1.size _
      have r0 : E2.heap[wr.heap.size]? = some (.cells #[.int .i64 ad, .int .i64 ag] 38 (0, 0)) := by rw [← hE2, ← hE1]; exact box_old wr _ _
      have r1 : E2.heap[wr.heap.size + 1]? = some (.cells #[.int .i64 bd, .int .i64 bg] 38 (0, 0)) := by rw [← hE2, ← hE1]; exact box_new2 wr _ _
      have c0 := cell_of_row _ _ 0 _ _ _ r0
      have c1 := cell_of_row _ _ 1 _ _ _ r0
      have c2 := cell_of_row _ _ 0 _ _ _ r1
      have c3 := cell_of_row _ _ 1 _ _ _ r1
      have t0 := hc0 wr Hb.out
      have t1 := hc1 E1 hbE1
      obtain ⟨t2, t3⟩ := ha0 wr Hb.out
      obtain ⟨t4, t5⟩ := ha1 E1 hbE1
      have HbE := Lib.hid hbE2
      simp at c0 c1 c2 c3
      rw [← hE2, ← hE1] at c0 c1 c2 c3 HbE
      rw [← hE1] at t1 t4 t5
      clear r0 r1 hbE1 hbE2 hE2 hE1 hc0 hc1 ha0 ha1 h1 h2 h3 b1 b2 m1 m2 had hag hbd hbg hp hq hk
      go_wp2
      exact ⟨⟨j + 1, by omega, .inl (by omega), by rw [e1], HbE.out⟩, by simp only [intOf]; omega⟩
    · have g2 : ¬ (j : Int) < (K.length : Int) := by omega
      replace HT := Lib.hid (HT.out.go Hb.out)
      replace Ha := Lib.hid (Ha.out.go Hb.out)
      replace H1 := Lib.hid (H1.out.go Hb.out)
      replace Bt := Lib.hid (below_step Bt.out Hb.out)
      clear Hb hj2
      go_wp2_with fail
      refine (HB.out _ Ha.out HT.out).mono ?_
      rintro e w7 ⟨B3, d3, rfl, ra, _, hb7⟩
      replace HT := Lib.hid (HT.out.go hb7)
      replace Ha := Lib.hid (Ha.out.go hb7)
      replace H1 := Lib.hid (H1.out.go hb7)
      replace Bt := Lib.hid (below_step Bt.out hb7)
      have H3 := Lib.hid ra
      clear ra hb7
      dsimp only [id]
      go_wp2_with fail
      refine (HD.out _ Ha.out).mono ?_
      rintro e w8 ⟨rfl, hb8⟩
      replace HT := Lib.hid (HT.out.go hb8)
      replace Ha := Lib.hid (Ha.out.go hb8)
      replace H1 := Lib.hid (H1.out.go hb8)
      replace H3 := Lib.hid (H3.out.go hb8)
      replace Bt := Lib.hid (below_step Bt.out hb8)
      clear hb8
      dsimp only
      go_wp2_with fail
      refine (HO.out _).mono ?_
      rintro e w9 ⟨rfl, hb9⟩
      replace HT := Lib.hid (HT.out.go hb9)
      replace Ha := Lib.hid (Ha.out.go hb9)
      replace H1 := Lib.hid (H1.out.go hb9)
      replace H3 := Lib.hid (H3.out.go hb9)
      replace Bt := Lib.hid (below_step Bt.out hb9)
      clear hb9
      dsimp only
      go_wp2_with fail
      refine (HV.out _ Ha.out H1.out).mono ?_
      rintro e w10 ⟨rfl, hb10⟩
      replace HT := Lib.hid (HT.out.go hb10)
      replace Ha := Lib.hid (Ha.out.go hb10)
      replace H1 := Lib.hid (H1.out.go hb10)
      replace H3 := Lib.hid (H3.out.go hb10)
      replace Bt := Lib.hid (below_step Bt.out hb10)
      clear hb10
      dsimp only
      rcases hf with ⟨h1, h2⟩ | h1
      · have b1 : (y == x) = true := beq_iff_eq.2 h1
        have b2 : (u == v) = true := beq_iff_eq.2 h2
        have b3 : (y = x) = True := eq_true h1
        have b4 : (u = v) = True := eq_true h2
        clear h1 h2
        go_wp2_with fail
        refine (HL.out _ Ha.out H1.out HT.out).mono ?_
        rintro e w11 ⟨rfl, hb11⟩
        replace HT := Lib.hid (HT.out.go hb11)
        replace Ha := Lib.hid (Ha.out.go hb11)
        replace H1 := Lib.hid (H1.out.go hb11)
        replace H3 := Lib.hid (H3.out.go hb11)
        replace Bt := Lib.hid (below_step Bt.out hb11)
        clear hb11
        dsimp only
        go_wp2_with fail
        refine (HM.out _ _ _ Ha.out H3.out HT.out).mono ?_
        rintro e w12 ⟨rfl, hb12⟩
        replace HT := Lib.hid (HT.out.go hb12)
        replace Ha := Lib.hid (Ha.out.go hb12)
        replace H1 := Lib.hid (H1.out.go hb12)
        replace H3 := Lib.hid (H3.out.go hb12)
        replace Bt := Lib.hid (below_step Bt.out hb12)
        clear hb12
        dsimp only
        go_wp2
        go_ret
        exact ⟨rfl, Bt.out⟩
      · have b1 : (y == x) = false := beq_eq_false_iff_ne.2 h1
        have b3 : (y = x) = False := eq_false h1
        go_wp2
        go_ret
        exact ⟨rfl, Bt.out⟩

set_option maxRecDepth 100000 in
theorem fnPlanRate_walk (A0 : Option Addr) (n0 c0 : Nat) (w : World) (hb0 : Byt0 w A0 n0 c0) (hT : Tab w) :
    Calls Tryd.prog 5 #[.slice A0 n0 c0] w (RetB (.bool true) w) := by
  by_cases hl0 : 1048576 < n0
  · clear hb0 hT
    go_enter Tryd.func5, Tryd.ntmps5
    go_wp2
    go_ret
    exact ⟨rfl, Below.refl _ _⟩
  exact fnPlanRate_in A0 n0 c0 w (by omega) hb0.1 hb0.2.2 hT

set_option maxRecDepth 100000 in
theorem fnPlanRate_lifted (os : Os) (started : os.Started) (H : Type) (enc : TypeId × Value → H) :
    ReturnsInHanded {} Tryd.checked os 5 .any (fun w args => (Rows.fnPlanRateSpec.pre enc Tryd.prog Tryd.f5 [] false w args ∧ laidMetH Tryd.prog Rows.fnPlanRateRow.laid w) ∧ sizedMet enc Tryd.prog Tryd.f5 (OpenSpec.ofChange Rows.fnPlanRateSpec) false w args)
      (Rows.fnPlanRateSpec.post enc Tryd.prog Tryd.f5 false true false false) := by
  refine returnsInHanded_of_change_and (C := Tryd.checked) (X := fun w _ => laidMetH Tryd.prog Rows.fnPlanRateRow.laid w) (fun _ _ _ hh h => h.of_heap hh) row_own started (by kernel_rfl) Tryd.func5
    (ChangeSpec.witness_shaped (enc := enc) (C := Tryd.checked) (os := os) (X := fun w _ => laidMetH Tryd.prog Rows.fnPlanRateRow.laid w) false (World.doorLaid Tryd.prog 4000 os) #[.slice none 0 0] 8 rfl (door_shaped os _) (by kernel_rfl) (by kernel_rfl) (by kernel_rfl) (door_laid os _)) ?_
  intro W base args ds gs before hval0 hW hcnd _ hlaid _
  have hval : ∀ (j : Nat) t v, Tryd.f5.params[j]? = some t → args[j]? = some v → Value.okWide Tryd.prog W .any base t v := hval0
  have hW' := hW
  obtain ⟨p, q, hA0, hV, rfl, _, _⟩ := hW
  have hA : DataW.TrodAll enc Tryd.prog W 0 (fun _ => true) true Tryd.f5.params.toList args.toList ds p := hA0
  rw [Tryd.params5] at hA hval
  obtain ⟨v0, vs0, d0, ds0, p0, q0, hargs, rfl, rfl, h0, r0⟩ := trodAll_cons hA
  obtain ⟨rfl, rfl, rfl⟩ := trodAll_nil r0
  obtain rfl : args = #[v0] := by cases args; simp_all
  obtain ⟨rfl, rfl⟩ := trodVars_none hV
  have hlt0 : ∀ x ∈ p0, x.block < W.heap.size := fun x hx => by exact hW'.lt x (by simp [hx])
  obtain ⟨A0, n0, c0, rfl, hb0⟩ := open_bytes (hval 0 22 v0 rfl rfl) h0 hlt0
  clear hA0 hval0
  refine (fnPlanRate_walk A0 n0 c0 W hb0 (tab_of hlaid)).mono fun e W' ⟨he, hb⟩ => ?_
  subst he
  exact ⟨_, rfl, _, _, _, [], _, [], hW', (trodAll_cons_mk (shut_bool Tryd.underlying4 _) trodAll_mk0), (trodAll_cons_mk (read_again_bytes h0 hlt0 hb) trodAll_mk0), rfl, hb.frame _, fun h => by cases h⟩

set_option maxRecDepth 100000 in
theorem fnPlanRate_closed : joinedFacts Tryd.prog 5 Tryd.f5 Rows.fnPlanRateSpec Rows.fnPlanRateRow = true := by
  unfold joinedFacts
  repeat' (with_reducible apply facAnd)
  all_goals first | (with_reducible exact facEnter) | (with_reducible exact facLaid) | (with_reducible exact facMaps) | (with_reducible exact facStops) | (with_reducible exact facKnobs) | (with_reducible exact facHeard) | (rw [facLifts]; as_aux_lemma => kernel_rfl) | (rw [facMake]; as_aux_lemma => kernel_rfl) | (as_aux_lemma => kernel_rfl)

/-- the bare row -/
theorem fnPlanRate_row : Rows.FnPlanRateSaid :=
  OpenClaim.holds_of_wide 5 Tryd.f5 rfl rfl rfl rfl rfl rfl rfl ⟨rfl, rfl, rfl, rfl, rfl⟩ rfl rfl rfl rfl rfl (by kernel_rfl) Tryd.func5 fnPlanRate_closed
    (of_decide_eq_true (by kernel_rfl)) (by unfold Func.isWrapper; first | (rw [if_pos (by decide +kernel)]; kernel_rfl) | (rw [if_neg (by decide +kernel)]; exact ⟨rfl, rfl⟩))
    (fun os started H enc _ => fnPlanRate_lifted os started H enc)

/-- THE STATEMENT: the card -/
theorem fnPlanRate_holds : Rows.FnPlanRateCardSaid :=
  Claim7.holds_tied_plain_at .later [] [.data] true Rows.fnPlanRateCard.stood.harness false
    fnPlanRate_row (fun _ h => by cases h) (by kernel_rfl) (fun _ h => by cases h) fnPlanRate_row_tie rfl ⟨rfl, rfl⟩ door_main rfl
    (fun f fn hf hfn => by
      obtain rfl : f = 5 := Option.some.inj ((show Tryd.prog.funcNamed Rows.fnPlanRateRow.func = some 5 by kernel_rfl).symm.trans hf) |>.symm
      obtain rfl : fn = Tryd.f5 := (Option.some.inj (Tryd.func5.symm.trans hfn)).symm
      exact ⟨door_looks, fun j t ht => by
        rw [Tryd.params5] at ht
        have hm : t ∈ [22] := by simpa using Array.mem_of_getElem? ht
        have hall : ([22].all fun u => !Tryd.prog.wantsStandIn u) = true := by kernel_rfl
        exact (show Tryd.prog.wantsStandIn t = false by simpa using List.all_eq_true.1 hall t hm)⟩)
    (by kernel_rfl)
#print axioms fnPlanRate_holds
end Go.Proofs.YtodboccadccpfaaDoor
