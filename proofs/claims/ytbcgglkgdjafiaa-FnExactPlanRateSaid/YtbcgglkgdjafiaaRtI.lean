/-
  PlanRate of the program.
-/
import Derived.Test.YtbcgglkgdjafiaaRtM
import Derived.Test.YtbcgglkgdjafiaaPlF
import Derived.Test.YtbcgglkgdjafiaaPlV
import Derived.Shelf.Abstract
import Derived.RangeFuncBox
import Derived.Deep.LoopGhost
namespace Go.Proofs.Ytbcgglkgdjafiaa
open Go.RowKit Go.Shelf

theorem isnan_c (x : Int) (w : World) : Calls Try.prog 50 #[.int .i64 x] w fun e w' => e = .returned (.bool false) ∧ w = w' := by
  have g : (x != x) = false := by simp
  go_enter Try.func50, Try.ntmps50
  go_wp2
  go_ret
  exact ⟨rfl, rfl⟩
/-- the value of Compare -/
def cmpV (x y : Int) : Int := if x < y then -1 else if y < x then 1 else 0
theorem compare_c (x y : Int) (w : World) : Calls Try.prog 44 #[.int .i64 x, .int .i64 y] w fun e w' => e = .returned (.int .i64 (cmpV x y)) ∧ w = w' := by
  go_enter Try.func44, Try.ntmps44
  go_wp2_with fail
  refine (isnan_c x w).mono ?_
  rintro e w1 ⟨rfl, rfl⟩
  go_wp2_with fail
  refine (isnan_c y w).mono ?_
  rintro e w1 ⟨rfl, rfl⟩
  by_cases h1 : x < y
  · have Hv := Lib.hid (show cmpV x y = -1 by unfold cmpV; rw [if_pos h1])
    go_wp2
    go_ret
    exact ⟨by rw [Hv.out]; rfl, rfl⟩
  · by_cases h2 : y < x
    · have Hv := Lib.hid (show cmpV x y = 1 by unfold cmpV; rw [if_neg h1, if_pos h2])
      go_wp2
      go_ret
      exact ⟨by rw [Hv.out]; rfl, rfl⟩
    · have Hv := Lib.hid (show cmpV x y = 0 by unfold cmpV; rw [if_neg h1, if_neg h2])
      go_wp2
      go_ret
      exact ⟨by rw [Hv.out]; rfl, rfl⟩

/-- what the closure says of two indexes -/
def cmpJ (J : List Jbs) (x y : Int) : Int := cmpV ((jbsAt J y.toNat).g * (jbsAt J x.toNat).d) ((jbsAt J x.toNat).g * (jbsAt J y.toNat).d)
theorem cmpJ_neg {J : List Jbs} {x y : Int} : cmpJ J x y < 0 ↔ rgB J y x = false := by
  unfold cmpJ cmpV rgB
  rw [decide_eq_false_iff_not]
  split
  · omega
  · split <;> omega

set_option maxRecDepth 100000 in
set_option maxHeartbeats 2000000 in
theorem rate_c (bx : Nat) (A : Option Addr) (c : Nat) (J : List Jbs) (hJ : jbB J = true) (x y : Nat) (W : World) (hb : Boxed W bx 28 (.slice A J.length c)) (ha : ArgJ W A c J) (hx : x < J.length) (hy : y < J.length) :
    Calls Try.prog 43 #[.int .i64 x, .int .i64 y, .pointer (some ⟨bx, 0, none⟩)] W fun e W' => e = .returned (.int .i64 (cmpJ J x y)) ∧ ∃ n, W' = W.drewN n := by
  have c1 := hb.cell
  have hjl := ha.len
  obtain ⟨b, off, rfl, _, _, hx0, hx1⟩ := ha.rd.at_ hx
  obtain ⟨b', off', e, _, _, hy0, hy1⟩ := ha.rd.at_ hy
  injection e with e
  injection e with e1 e2 _
  subst e1; subst e2
  have dx := jbB_at hJ hx
  have dy := jbB_at hJ hy
  have hv : cmpJ J (x : Int) (y : Int) = cmpV ((jbsAt J y).g * (jbsAt J x).d) ((jbsAt J x).g * (jbsAt J y).d) := by unfold cmpJ; rw [Int.toNat_natCast, Int.toNat_natCast]
  have m1 := mul_bd (a := (jbsAt J y).g) (b := (jbsAt J x).d) (m := 9) (n := 9) (by omega) (by omega) (by omega) (by omega)
  have m2 := mul_bd (a := (jbsAt J x).g) (b := (jbsAt J y).d) (m := 9) (n := 9) (by omega) (by omega) (by omega) (by omega)
  obtain ⟨sx, hsx⟩ : ∃ s, jbsAt J x = s := ⟨_, rfl⟩
  obtain ⟨sy, hsy⟩ : ∃ s, jbsAt J y = s := ⟨_, rfl⟩
  rw [hsx] at hx0 hx1 hv m1 m2
  rw [hsy] at hy0 hy1 hv m1 m2
  obtain ⟨u, hu⟩ : ∃ u, sy.g * sx.d = u := ⟨_, rfl⟩
  obtain ⟨v, hv2⟩ : ∃ v, sx.g * sy.d = v := ⟨_, rfl⟩
  have q1 : IntKind.i64.wrap (sy.g * sx.d) = u := by rw [← hu]; exact IntWalk.i64_in _ (by omega)
  have q2 : IntKind.i64.wrap (sx.g * sy.d) = v := by rw [← hv2]; exact IntWalk.i64_in _ (by omega)
  rw [hu, hv2] at hv
  have Hv := Lib.hid hv
  have g1 : (x : Int) < (J.length : Int) := by omega
  have g2 : (y : Int) < (J.length : Int) := by omega
  clear hb ha hsx hsy hu hv2 hv
  go_enter Try.func43, Try.ntmps43
  go_wp2
  go_quiet (first
    | (go_at_call 44; refine Calls.quiet_of_same (v := .int .i64 (cmpV u v)) ((compare_c u v _).mono ?_); rintro e w' ⟨rfl, rfl⟩; exact ⟨rfl, rfl⟩)
    | fail)
  go_wp2
  go_ret
  exact ⟨by rw [Hv.out]; rfl, _, rfl⟩

set_option maxRecDepth 100000 in
set_option maxHeartbeats 3000000 in
theorem insertion_c (b bx : Nat) (A : Option Addr) (c : Nat) (J : List Jbs) (hJ : jbB J = true) (W : World) (hp : PlAt W b (firstP J.length)) (hb : Boxed W bx 28 (.slice A J.length c)) (hbx : bx < b) (hlo : ∀ W', KeepBut (fun x => x = b) W W' → ArgJ W' A c J) :
    Calls Try.prog 52 #[.slice (some ⟨b, 0, none⟩) J.length J.length, .int .i64 0, .int .i64 J.length, .func (.func 43) #[] #[.pointer (some ⟨bx, 0, none⟩)]] W fun e W' => (∃ v, e = .returned v) ∧ PlAt W' b (rateT J J.length) ∧ KeepBut (fun x => x = b) W W' := by
  have he : ∀ (args : Array Value) (w : World), (callFunc 43 args).run Try.prog w = .ok (.enter 43 args) w := fun args w => enters_of Try.func43 (by kernel_rfl) rfl args w
  have hj6 := (jbB_true.1 hJ).1
  have Hrate := Lib.hid (fun (W' : World) (h : KeepBut (fun x => x = b) W W') (x y : Nat) hx hy => rate_c bx A c J hJ x y W' ((h.block bx hb.lt (by omega)).trans hb) (hlo W' h) hx hy)
  rw [← roundP_start J] at hp
  have Hp := Lib.hid hp
  have HJ := Lib.hid hJ
  have Hin := Lib.hid (fun (k : Nat) (h : k < J.length) => roundP_in J h)
  have Hon := Lib.hid (fun (k j : Nat) (h : k < J.length) (hj : j ≤ k) => roundP_on hJ h hj)
  clear hp hb hlo hJ
  go_enter Try.func52, Try.ntmps52
  go_wp2
  go_loopg [8] J.length (fun g i wr => ∃ k : Nat, i = .int .i64 k ∧ k ≤ J.length + 1 ∧ J.length + 1 - k ≤ g ∧ PlAt wr b (roundP J J.length k) ∧ KeepBut (fun x => x = b) W wr)
  case atStart => exact ⟨1, rfl, by omega, by omega, Hp.out, KeepBut.refl _ _⟩
  case round =>
    obtain ⟨k, rfl, hk1, hkg, hp, hkp⟩ := hrel
    by_cases hlt : k < J.length
    case neg =>
      have g1 : ¬ (k : Int) < (J.length : Int) := by omega
      rw [roundP_end J (by omega)] at hp
      go_wp2
      go_end0
      exact ⟨⟨_, rfl⟩, hp, hkp⟩
    case pos =>
      have g1 : (k : Int) < (J.length : Int) := by omega
      rw [Hin.out k hlt] at hp
      have hln := rateT_len J k
      have hon := fun (j : Nat) hj => Hon.out k j hlt hj
      have hlen := fun (j : Nat) (h : j ≤ k) => (show (insAt (rateT J k) (k : Int) ((firstP J.length).drop (k + 1)) j).length = J.length by rw [insAt_len (by omega), hln]; simp [firstP]; omega)
      have hbd := fun (j : Nat) (h : j < k) => rateT_at J h
      obtain ⟨l, hl⟩ : ∃ l, rateT J k = l := ⟨_, rfl⟩
      obtain ⟨rest, hrest⟩ : ∃ r, (firstP J.length).drop (k + 1) = r := ⟨_, rfl⟩
      rw [hl] at hp hon hlen hbd hln
      rw [hrest] at hp hon hlen
      have Hpk := Lib.hid hp
      have Hkp := Lib.hid hkp
      have Hok := Lib.hid hon
      have Hlen := Lib.hid hlen
      have Hbd := Lib.hid hbd
      clear hp hkp hl hrest hon hlen hbd
      go_wp2
      go_loopg [9] k (fun g jv wr2 => ∃ j : Nat, jv = .int .i64 j ∧ j ≤ k ∧ j ≤ g ∧ PlAt wr2 b (insAt l (k : Int) rest j) ∧ (∀ a, j ≤ a → a < k → rgB J (l[a]?.getD 0) (k : Int) = false) ∧ KeepBut (fun x => x = b) W wr2)
      case atStart => exact ⟨k, rfl, Nat.le_refl _, Nat.le_refl _, Hpk.out, fun a h1 h2 => by omega, Hkp.out⟩
      case round =>
        obtain ⟨j, rfl, hjk, hjg, hp, hno, hkp⟩ := hrel
        obtain ⟨W0, hW0⟩ : ∃ W0, W0 = wr := ⟨_, rfl⟩
        subst hW0
        have hend := fun h => Hok.out j hjk h hno
        have Hkp2 := Lib.hid hkp
        cases j with
        | zero =>
          have Hend := Lib.hid (hend (.inl rfl))
          have g2 : decide ((0 : Int) < (0 : Int)) = false := rfl
          have Hp2 := Lib.hid hp
          clear hend hp hno hkp
          go_wp2
          go_quiet (fail)
          go_wp2
          go_roundg (J.length + 1 - (k + 1))
          case rel => exact ⟨k + 1, by go_num, by omega, Nat.le_refl _, by rw [← Hend.out]; exact Hp2.out.drewN nq, Hkp2.out.drewN nq⟩
          case measure => omega
        | succ a =>
          have hal : a < l.length := by omega
          have hc1 := hp.cell (k := a + 1) (by rw [Hlen.out _ hjk]; omega)
          have hc0 := hp.cell (k := a) (by rw [Hlen.out _ hjk]; omega)
          rw [insAt_here hal] at hc1
          rw [insAt_prev hal] at hc0
          have hsw := insAt_swap (i := (k : Int)) (rest := rest) hal
          obtain ⟨hx0, hxk⟩ := Hbd.out a (by omega)
          rw [show a + 1 - 1 = a by omega] at hend
          have hno2 := fun (h : rgB J (l[a]?.getD 0) (k : Int) = false) (a2 : Nat) (h1 : a ≤ a2) (h2 : a2 < k) => (show rgB J (l[a2]?.getD 0) (k : Int) = false by
            rcases Decidable.em (a2 = a) with e | e
            · rw [e]; exact h
            · exact hno a2 (by omega) h2)
          obtain ⟨x, hx⟩ : ∃ x : Nat, l[a]?.getD 0 = (x : Int) := ⟨(l[a]?.getD 0).toNat, by omega⟩
          rw [hx] at hc0 hsw hxk hend hno2
          have hxk2 : x < J.length := by omega
          have hrt := fun n => Hrate.out (W0.drewN n) (Hkp2.out.drewN n) k x hlt hxk2
          have hcn := @cmpJ_neg J (k : Int) (x : Int)
          obtain ⟨v, hv⟩ : ∃ v, cmpJ J (k : Int) (x : Int) = v := ⟨_, rfl⟩
          rw [hv] at hcn hrt
          have hp2 := fun n m => (((hp.drewN n).drewN m).set (a + 1) (x : Int)).set a (k : Int)
          rw [hsw] at hp2
          have hfa := hp.frozen (a + 1)
          have hfb := hp.frozen a
          have Hp0 := Lib.hid hp
          have Hp2 := Lib.hid hp2
          have Hkk := Lib.hid (fun n m => (((Hkp2.out.drewN n).drewN m).trans (keep_set _ b (a + 1) (.int .i64 (x : Int)))).trans (keep_set _ b a (.int .i64 (k : Int))))
          have Hrt := Lib.hid hrt
          have q1 : IntKind.i64.wrap (a : Int) = (a : Int) := IntWalk.i64_in _ (by omega)
          have q2 : (0 : Int) ≤ (a : Int) + 1 := by omega
          have q3 : ((a : Int) + 1).toNat = a + 1 := by omega
          have q4 : (a : Int) + 1 < (J.length : Int) := by omega
          have q5 : (a : Int) < (J.length : Int) := by omega
          have q6 : (0 : Int) ≤ (a : Int) := by omega
          have q7 : (0 : Int) < (a : Int) + 1 := by omega
          have q8 : ¬ a = a + 1 := by omega
          by_cases hneg : v < 0
          · have Hno2 := Lib.hid (hno2 (hcn.1 hneg))
            have g3 : decide (v < 0) = true := decide_eq_true hneg
            clear hend hp hno hkp hcn hno2 hp2 hrt hv hsw hx
            go_wp2
            go_quiet (first
              | (go_at_call 43; exact Calls.quiet_of (Hrt.out _))
              | fail)
            go_wp2
            go_region
            all_goals
              go_wp2
              go_roundg a
              case rel => exact ⟨a, by go_num, by omega, Nat.le_refl _, Hp2.out nq 1, Hno2.out, Hkk.out nq 1⟩
              case measure => omega
          · have Hend := Lib.hid (hend (.inr (by
              cases hr : rgB J (x : Int) (k : Int) with
              | true => rfl
              | false => exact absurd (hcn.2 hr) hneg)))
            have g3 : decide (v < 0) = false := decide_eq_false hneg
            clear hend hp hno hkp hcn hno2 hp2 hrt hv hsw hx
            go_wp2
            go_quiet (first
              | (go_at_call 43; exact Calls.quiet_of (Hrt.out _))
              | fail)
            go_wp2
            go_roundg (J.length + 1 - (k + 1))
            case rel => exact ⟨k + 1, by go_num, by omega, Nat.le_refl _, by rw [← Hend.out]; exact Hp0.out.drewN nq, Hkp2.out.drewN nq⟩
            case measure => omega

end Go.Proofs.Ytbcgglkgdjafiaa
