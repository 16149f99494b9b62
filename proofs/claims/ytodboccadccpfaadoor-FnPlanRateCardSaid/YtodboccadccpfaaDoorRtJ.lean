/-
  PlanRate of the program. / PlanRate of the program.
-/
import Derived.Test.YtodboccadccpfaaDoorPbM
import Derived.Test.YtodboccadccpfaaDoorPlF
import Derived.Test.YtodboccadccpfaaDoorPlV
import Derived.Shelf.Abstract
import Derived.RangeFuncBox
import Derived.Deep.LoopGhost
namespace Go.Proofs.YtodboccadccpfaaDoor
open Go.RowKit Go.Shelf

set_option maxRecDepth 100000 in
theorem isnan_c (x : Int) (w : World) : Calls Tryd.prog 62 #[.int .i64 x] w fun e w' => e = .returned (.bool false) ∧ w = w' := by
  have g : (x != x) = false := by simp
  go_enter Tryd.func62, Tryd.ntmps62
  go_wp2
  go_ret
  exact ⟨rfl, rfl⟩
/-- the value of Compare -/
def cmpV (x y : Int) : Int := if x < y then -1 else if y < x then 1 else 0
set_option maxRecDepth 100000 in
theorem compare_c (x y : Int) (w : World) : Calls Tryd.prog 44 #[.int .i64 x, .int .i64 y] w fun e w' => e = .returned (.int .i64 (cmpV x y)) ∧ w = w' := by
  go_enter Tryd.func44, Tryd.ntmps44
  go_wp2_with fail
  refine (isnan_c x w).mono ?_
  rintro e w1 ⟨rfl, rfl⟩
  go_wp2_with fail
  refine (isnan_c y w).mono ?_
  rintro e w1 ⟨rfl, rfl⟩
  by_cases h1 : x < y
  · have Hv := Lib.hid (show cmpV x y = -1 by unfold cmpV; rw [if_pos h1])
    go_wp2
    go_ret
    exact ⟨by rw [Hv.out]; rfl, rfl⟩
  · by_cases h2 : y < x
    · have Hv := Lib.hid (show cmpV x y = 1 by unfold cmpV; rw [if_neg h1, if_pos h2])
      go_wp2
      go_ret
      exact ⟨by rw [Hv.out]; rfl, rfl⟩
    · have Hv := Lib.hid (show cmpV x y = 0 by unfold cmpV; rw [if_neg h1, if_neg h2])
      go_wp2
      go_ret
      exact ⟨by rw [Hv.out]; rfl, rfl⟩

/-- what the closure says of two indexes -/
def cmpJ (J : List Jbs) (x y : Int) : Int := cmpV ((jbsAt J y.toNat).g * (jbsAt J x.toNat).d) ((jbsAt J x.toNat).g * (jbsAt J y.toNat).d)
theorem cmpJ_neg {J : List Jbs} {x y : Int} : cmpJ J x y < 0 ↔ rgB J y x = false := by
  unfold cmpJ cmpV rgB
  rw [decide_eq_false_iff_not]
  split
  · omega
  · split <;> omega

set_option maxRecDepth 100000 in
set_option maxHeartbeats 2000000 in
theorem rate_c (bx : Nat) (A : Option Addr) (c : Nat) (J : List Jbs) (hJ : jbB J = true) (x y : Nat) (W : World) (hb : Boxed W bx 23 (.slice A J.length c)) (ha : ArgJ W A c J) (hx : x < J.length) (hy : y < J.length) :
    Calls Tryd.prog 43 #[.int .i64 x, .int .i64 y, .pointer (some ⟨bx, 0, none⟩)] W fun e W' => e = .returned (.int .i64 (cmpJ J x y)) ∧ ∃ n, W' = W.drewN n := by
  have c1 := hb.cell
  have hjl := ha.len
  obtain ⟨b, off, rfl, _, _, hx0, hx1⟩ := ha.rd.at_ hx
  obtain ⟨b', off', e, _, _, hy0, hy1⟩ := ha.rd.at_ hy
  injection e with e
  injection e with e1 e2 _
  subst e1; subst e2
  have dx := jbB_at hJ hx
  have dy := jbB_at hJ hy
  have hv : cmpJ J (x : Int) (y : Int) = cmpV ((jbsAt J y).g * (jbsAt J x).d) ((jbsAt J x).g * (jbsAt J y).d) := by unfold cmpJ; rw [Int.toNat_natCast, Int.toNat_natCast]
  have m1 := mul_bd (a := (jbsAt J y).g) (b := (jbsAt J x).d) (m := 9) (n := 9) (by omega) (by omega) (by omega) (by omega)
  have m2 := mul_bd (a := (jbsAt J x).g) (b := (jbsAt J y).d) (m := 9) (n := 9) (by omega) (by omega) (by omega) (by omega)
  obtain ⟨sx, hsx⟩ : ∃ s, jbsAt J x = s := ⟨_, rfl⟩
  obtain ⟨sy, hsy⟩ : ∃ s, jbsAt J y = s := ⟨_, rfl⟩
  rw [hsx] at hx0 hx1 hv m1 m2
  rw [hsy] at hy0 hy1 hv m1 m2
  obtain ⟨u, hu⟩ : ∃ u, sy.g * sx.d = u := ⟨_, rfl⟩
  obtain ⟨v, hv2⟩ : ∃ v, sx.g * sy.d = v := ⟨_, rfl⟩
  have q1 : IntKind.i64.wrap (sy.g * sx.d) = u := by rw [← hu]; exact IntWalk.i64_in _ (by omega)
  have q2 : IntKind.i64.wrap (sx.g * sy.d) = v := by rw [← hv2]; exact IntWalk.i64_in _ (by omega)
  rw [hu, hv2] at hv
  have Hv := Lib.hid hv
  have g1 : (x : Int) < (J.length : Int) := by omega
  have g2 : (y : Int) < (J.length : Int) := by omega
  clear hb ha hsx hsy hu hv2 hv
  go_enter Tryd.func43, Tryd.ntmps43
  go_wp2
  go_quiet (first
    | (go_at_call 44; refine Calls.quiet_of_same (v := .int .i64 (cmpV u v)) ((compare_c u v _).mono ?_); rintro e w' ⟨rfl, rfl⟩; exact ⟨rfl, rfl⟩)
    | fail)
  go_wp2
  go_ret
  exact ⟨by rw [Hv.out]; rfl, _, rfl⟩

set_option maxRecDepth 100000 in
set_option maxHeartbeats 3000000 in
theorem insertion_c (b bx : Nat) (A : Option Addr) (c : Nat) (J : List Jbs) (hJ : jbB J = true) (W : World) (hp : PlAt W b (firstP J.length)) (hb : Boxed W bx 23 (.slice A J.length c)) (hbx : bx < b) (hlo : ∀ W', KeepBut (fun x => x = b) W W' → ArgJ W' A c J) :
    Calls Tryd.prog 69 #[.slice (some ⟨b, 0, none⟩) J.length J.length, .int .i64 0, .int .i64 J.length, .func (.func 43) #[] #[.pointer (some ⟨bx, 0, none⟩)]] W fun e W' => (∃ v, e = .returned v) ∧ PlAt W' b (rateT J J.length) ∧ KeepBut (fun x => x = b) W W' := by
  have he : ∀ (args : Array Value) (w : World), (callFunc 43 args).run Tryd.prog w = .ok (.enter 43 args) w := fun args w => enters_of Tryd.func43 (by kernel_rfl) rfl args w
  have hj6 := (jbB_true.1 hJ).1
  have Hrate := Lib.hid (fun (W' : World) (h : KeepBut (fun x => x = b) W W') (x y : Nat) hx hy => rate_c bx A c J hJ x y W' ((h.block bx hb.lt (by omega)).trans hb) (hlo W' h) hx hy)
  rw [← roundP_start J] at hp
  have Hp := Lib.hid hp
  have HJ := Lib.hid hJ
  have Hin := Lib.hid (fun (k : Nat) (h : k < J.length) => roundP_in J h)
  have Hon := Lib.hid (fun (k j : Nat) (h : k < J.length) (hj : j ≤ k) => roundP_on hJ h hj)
  clear hp hb hlo hJ
  go_enter Tryd.func69, Tryd.ntmps69
  go_wp2
  go_loopg [8] J.length (fun g i wr => ∃ k : Nat, i = .int .i64 k ∧ k ≤ J.length + 1 ∧ J.length + 1 - k ≤ g ∧ PlAt wr b (roundP J J.length k) ∧ KeepBut (fun x => x = b) W wr)
  case atStart => exact ⟨1, rfl, by omega, by omega, Hp.out, KeepBut.refl _ _⟩
  case round =>
    obtain ⟨k, rfl, hk1, hkg, hp, hkp⟩ := hrel
    by_cases hlt : k < J.length
    case neg =>
      have g1 : ¬ (k : Int) < (J.length : Int) := by omega
      rw [roundP_end J (by omega)] at hp
      go_wp2
      go_end0
      exact ⟨⟨_, rfl⟩, hp, hkp⟩
    case pos =>
      have g1 : (k : Int) < (J.length : Int) := by omega
      rw [Hin.out k hlt] at hp
      have hln := rateT_len J k
      have hon := fun (j : Nat) hj => Hon.out k j hlt hj
      have hlen := fun (j : Nat) (h : j ≤ k) => (show (insAt (rateT J k) (k : Int) ((firstP J.length).drop (k + 1)) j).length = J.length by rw [insAt_len (by omega), hln]; simp [firstP]; omega)
      have hbd := fun (j : Nat) (h : j < k) => rateT_at J h
      obtain ⟨l, hl⟩ : ∃ l, rateT J k = l := ⟨_, rfl⟩
      obtain ⟨rest, hrest⟩ : ∃ r, (firstP J.length).drop (k + 1) = r := ⟨_, rfl⟩
      rw [hl] at hp hon hlen hbd hln
      rw [hrest] at hp hon hlen
      have Hpk := Lib.hid hp
      have Hkp := Lib.hid hkp
      have Hok := Lib.hid hon
      have Hlen := Lib.hid hlen
      have Hbd := Lib.hid hbd
      clear hp hkp hl hrest hon hlen hbd
      go_wp2
      go_loopg [9] k (fun g jv wr2 => ∃ j : Nat, jv = .int .i64 j ∧ j ≤ k ∧ j ≤ g ∧ PlAt wr2 b (insAt l (k : Int) rest j) ∧ (∀ a, j ≤ a → a < k → rgB J (l[a]?.getD 0) (k : Int) = false) ∧ KeepBut (fun x => x = b) W wr2)
      case atStart => exact ⟨k, rfl, Nat.le_refl _, Nat.le_refl _, Hpk.out, fun a h1 h2 => by omega, Hkp.out⟩
      case round =>
        obtain ⟨j, rfl, hjk, hjg, hp, hno, hkp⟩ := hrel
        obtain ⟨W0, hW0⟩ : ∃ W0, W0 = wr := ⟨_, rfl⟩
        subst hW0
        have hend := fun h => Hok.out j hjk h hno
        have Hkp2 := Lib.hid hkp
        cases j with
        | zero =>
          have Hend := Lib.hid (hend (.inl rfl))
          have g2 : decide ((0 : Int) < (0 : Int)) = false := rfl
          have Hp2 := Lib.hid hp
          clear hend hp hno hkp
          go_wp2
          go_quiet (fail)
          go_wp2
          go_roundg (J.length + 1 - (k + 1))
          case rel => exact ⟨k + 1, by go_num, by omega, Nat.le_refl _, by rw [← Hend.out]; exact Hp2.out.drewN nq, Hkp2.out.drewN nq⟩
          case measure => omega
        | succ a =>
          have hal : a < l.length := by omega
          have hc1 := hp.cell (k := a + 1) (by rw [Hlen.out _ hjk]; omega)
          have hc0 := hp.cell (k := a) (by rw [Hlen.out _ hjk]; omega)
          rw [insAt_here hal] at hc1
          rw [insAt_prev hal] at hc0
          have hsw := insAt_swap (i := (k : Int)) (rest := rest) hal
          obtain ⟨hx0, hxk⟩ := Hbd.out a (by omega)
          rw [show a + 1 - 1 = a by omega] at hend
          have hno2 := fun (h : rgB J (l[a]?.getD 0) (k : Int) = false) (a2 : Nat) (h1 : a ≤ a2) (h2 : a2 < k) => (show rgB J (l[a2]?.getD 0) (k : Int) = false by
            rcases Decidable.em (a2 = a) with e | e
            · rw [e]; exact h
            · exact hno a2 (by omega) h2)
          obtain ⟨x, hx⟩ : ∃ x : Nat, l[a]?.getD 0 = (x : Int) := ⟨(l[a]?.getD 0).toNat, by omega⟩
          rw [hx] at hc0 hsw hxk hend hno2
          have hxk2 : x < J.length := by omega
          have hrt := fun n => Hrate.out (W0.drewN n) (Hkp2.out.drewN n) k x hlt hxk2
          have hcn := @cmpJ_neg J (k : Int) (x : Int)
          obtain ⟨v, hv⟩ : ∃ v, cmpJ J (k : Int) (x : Int) = v := ⟨_, rfl⟩
          rw [hv] at hcn hrt
          have hp2 := fun n m => (((hp.drewN n).drewN m).set (a + 1) (x : Int)).set a (k : Int)
          rw [hsw] at hp2
          have hfa := hp.frozen (a + 1)
          have hfb := hp.frozen a
          have Hp0 := Lib.hid hp
          have Hp2 := Lib.hid hp2
          have Hkk := Lib.hid (fun n m => (((Hkp2.out.drewN n).drewN m).trans (keep_set _ b (a + 1) (.int .i64 (x : Int)))).trans (keep_set _ b a (.int .i64 (k : Int))))
          have Hrt := Lib.hid hrt
          have q1 : IntKind.i64.wrap (a : Int) = (a : Int) := IntWalk.i64_in _ (by omega)
          have q2 : (0 : Int) ≤ (a : Int) + 1 := by omega
          have q3 : ((a : Int) + 1).toNat = a + 1 := by omega
          have q4 : (a : Int) + 1 < (J.length : Int) := by omega
          have q5 : (a : Int) < (J.length : Int) := by omega
          have q6 : (0 : Int) ≤ (a : Int) := by omega
          have q7 : (0 : Int) < (a : Int) + 1 := by omega
          have q8 : ¬ a = a + 1 := by omega
          by_cases hneg : v < 0
          · have Hno2 := Lib.hid (hno2 (hcn.1 hneg))
            have g3 : decide (v < 0) = true := decide_eq_true hneg
            clear hend hp hno hkp hcn hno2 hp2 hrt hv hsw hx
            go_wp2
            go_quiet (first
              | (go_at_call 43; exact Calls.quiet_of (Hrt.out _))
              | fail)
            go_wp2
            go_region
            all_goals
              go_wp2
              go_roundg a
              case rel => exact ⟨a, by go_num, by omega, Nat.le_refl _, Hp2.out nq 1, Hno2.out, Hkk.out nq 1⟩
              case measure => omega
          · have Hend := Lib.hid (hend (.inr (by
              cases hr : rgB J (x : Int) (k : Int) with
              | true => rfl
              | false => exact absurd (hcn.2 hr) hneg)))
            have g3 : decide (v < 0) = false := decide_eq_false hneg
            clear hend hp hno hkp hcn hno2 hp2 hrt hv hsw hx
            go_wp2
            go_quiet (first
              | (go_at_call 43; exact Calls.quiet_of (Hrt.out _))
              | fail)
            go_wp2
            go_roundg (J.length + 1 - (k + 1))
            case rel => exact ⟨k + 1, by go_num, by omega, Nat.le_refl _, by rw [← Hend.out]; exact Hp0.out.drewN nq, Hkp2.out.drewN nq⟩
            case measure => omega
end Go.Proofs.YtodboccadccpfaaDoor

namespace Go.Proofs.YtodboccadccpfaaDoor
open Go.RowKit Go.Shelf

set_option maxRecDepth 100000 in
set_option maxHeartbeats 1000000 in
theorem stable_c (b bx : Nat) (A : Option Addr) (c : Nat) (J : List Jbs) (hJ : jbB J = true) (W : World) (hp : PlAt W b (firstP J.length)) (hb : Boxed W bx 23 (.slice A J.length c)) (hbx : bx < b) (hlo : ∀ W', KeepBut (fun x => x = b) W W' → ArgJ W' A c J) :
    Calls Tryd.prog 61 #[.slice (some ⟨b, 0, none⟩) J.length J.length, .int .i64 J.length, .func (.func 43) #[] #[.pointer (some ⟨bx, 0, none⟩)]] W fun e W' => (∃ v, e = .returned v) ∧ PlAt W' b (rateT J J.length) ∧ KeepBut (fun x => x = b) W W' := by
  have hj6 := (jbB_true.1 hJ).1
  have Hins := Lib.hid (insertion_c b bx A c J hJ W hp hb hbx hlo)
  have g1 : ¬ (20 : Int) ≤ (J.length : Int) := by omega
  have g2 : ¬ (20 : Int) < (J.length : Int) := by omega
  clear hp hb hlo
  go_enter Tryd.func61, Tryd.ntmps61
  go_wp2
  go_loop [7, 8] (fun a b => a = .int .i64 0 ∧ b = .int .i64 20) (fun _ _ => 0)
  case atStart => exact ⟨rfl, rfl⟩
  case round =>
    obtain ⟨rfl, rfl⟩ := hrel
    go_wp2_with fail
    refine Hins.out.mono ?_
    rintro e w1 ⟨⟨v1, rfl⟩, hp1, hk1⟩
    have H1 := Lib.hid (And.intro hp1 hk1)
    clear hp1 hk1
    go_wp2
    go_loop [6, 7, 8, 9] (fun a _ _ _ => a = .int .i64 20) (fun _ _ _ _ => 0)
    case atStart => rfl
    case round =>
      obtain rfl := hrel
      go_wp2
      go_end0
      exact ⟨⟨_, rfl⟩, H1.out⟩
set_option maxRecDepth 100000 in
theorem sortStable_c (b bx : Nat) (A : Option Addr) (c : Nat) (J : List Jbs) (hJ : jbB J = true) (W : World) (hp : PlAt W b (firstP J.length)) (hb : Boxed W bx 23 (.slice A J.length c)) (hbx : bx < b) (hlo : ∀ W', KeepBut (fun x => x = b) W W' → ArgJ W' A c J) :
    Calls Tryd.prog 42 #[.slice (some ⟨b, 0, none⟩) J.length J.length, .func (.func 43) #[] #[.pointer (some ⟨bx, 0, none⟩)]] W fun e W' => (∃ v, e = .returned v) ∧ PlAt W' b (rateT J J.length) ∧ KeepBut (fun x => x = b) W W' := by
  have Hst := Lib.hid (stable_c b bx A c J hJ W hp hb hbx hlo)
  clear hp hb hlo
  go_enter Tryd.func42, Tryd.ntmps42
  go_wp2_with fail
  refine Hst.out.mono ?_
  rintro e w1 ⟨⟨v1, rfl⟩, hp1, hk1⟩
  go_wp2
  go_end0
  exact ⟨⟨_, rfl⟩, hp1, hk1⟩

theorem own_plan {W : World} {b lo : Nat} {p : List Int} (h : PlAt W b p) (hlo : lo ≤ b) (hl : p.length ≤ 2097152) : W.ownsRow lo 3 1 (.slice (some ⟨b, 0, none⟩) p.length p.length) p.length (p.map (Value.int .i64)) := by
  refine ⟨by simp, .inr ⟨b, p.length, (p.map (Value.int .i64)).toArray, rfl, hlo, h, Nat.le_refl _, by unfold maxLen; omega, by simp, by rw [List.take_of_length_le (by simp)]⟩⟩

set_option maxRecDepth 100000 in
set_option maxHeartbeats 1000000 in
theorem implPlanRate_b (s : ByteArray) (A : Option Addr) (c : Nat) (J : List Jbs) (w : World) (_hs : s.size ≤ 2097152) (ha : ArgJ w A c J) :
    Calls Tryd.prog 21 #[.string s, .slice A J.length c] w (RetS 3 (fun v => .tuple #[v, .bool (timeB (byL s) J)]) (rateL (byL s) J) w) := by
  have HA := Lib.hid ha
  clear ha
  have hba : Below w.heap.size w (w.alloc (.cells #[.slice A J.length c] 23)) := (Below.refl _ _).alloc (Nat.le_refl _) _
  have hbx : Boxed (w.alloc (.cells #[.slice A J.length c] 23)) w.heap.size 23 (.slice A J.length c) := Boxed.new w _ _
  have Hba := Lib.hid hba
  have Hbx := Lib.hid hbx
  have Htime := Lib.hid (timeEnough_b s A c J _ (HA.out.go hba))
  clear hba hbx
  cases ht : timeB (byL s) J
  · have Hn := Lib.hid (rateL_no ht)
    have Ht := Lib.hid ht
    clear ht
    go_enter Tryd.func21, Tryd.ntmps21
    go_wp2_with fail
    refine Htime.out.mono ?_
    rintro e w1 ⟨rfl, hb1⟩
    rw [Ht.out]
    have Hb1 := Lib.hid (below_step Hba.out hb1)
    clear hb1
    go_wp2
    go_ret2
    rw [Hn.out]
    exact RetS.nil (f := fun v => .tuple #[v, .bool false]) Hb1.out
  obtain ⟨_, hJ, _⟩ := timeB_true.1 ht
  have hj6 := (jbB_true.1 hJ).1
  have Hy := Lib.hid (rateL_yes ht)
  have Ht := Lib.hid ht
  have HJ := Lib.hid hJ
  clear ht hJ
  go_enter Tryd.func21, Tryd.ntmps21
  go_wp2_with fail
  refine Htime.out.mono ?_
  rintro e w1 ⟨rfl, hb1⟩
  rw [Ht.out]
  have hx1 : Boxed w1 w.heap.size 23 (.slice A J.length c) := (hb1.block _ Hbx.out.lt).trans Hbx.out
  have e1 := hx1.cell
  have Hx1 := Lib.hid hx1
  have Hb1 := Lib.hid (below_step Hba.out hb1)
  have hw1 : w.heap.size < w1.heap.size := hx1.lt
  clear hb1 hx1
  go_wp2_with fail
  refine (firstPlan_c J.length hj6 w1).mono ?_
  rintro e w2 ⟨b, rfl, hbw, hp2, hb2⟩
  have hx2 : Boxed w2 w.heap.size 23 (.slice A J.length c) := (hb2.block _ Hx1.out.lt).trans Hx1.out
  have Hx2 := Lib.hid hx2
  have Hb2 := Lib.hid (below_step Hb1.out hb2)
  have Hs := Lib.hid (sortStable_c b w.heap.size A c J HJ.out w2 hp2 hx2 (by omega) (fun W' h => HA.out.go (Hb2.out.trans (h.below (B := w.heap.size) (fun x hx => by omega) Hb2.out.size))))
  have e2 := hx2.cell
  clear hp2 hx2 hb2
  go_wp2_with fail
  refine Hs.out.mono ?_
  rintro e w3 ⟨⟨v3, rfl⟩, hp3, hk3⟩
  have Hb3 := Lib.hid (Hb2.out.trans (hk3.below (B := w.heap.size) (fun x hx => by omega) Hb2.out.size))
  have hll := rateT_len J J.length
  have hown := own_plan (lo := w.heap.size) hp3 (by omega) (by omega)
  have Hown := Lib.hid hown
  clear hown hp3 hk3
  go_wp2
  go_ret2
  rw [Hy.out]
  have h9 := RetS.mk (f := fun v => .tuple #[v, .bool true]) (zs := rateT J J.length) (by omega) Hown.out Hb3.out
  rw [hll] at h9
  exact h9
end Go.Proofs.YtodboccadccpfaaDoor
