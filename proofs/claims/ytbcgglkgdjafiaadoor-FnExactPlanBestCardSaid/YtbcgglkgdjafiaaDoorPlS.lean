/-
  nextPlan of the program.
-/
import Derived.Test.YtbcgglkgdjafiaaDoorPlN
import Derived.RangeFuncNested
namespace Go.Proofs.YtbcgglkgdjafiaaDoor
open Go.RowKit

/-- what nextPlan leaves -/
def NxPost (p : List Int) (b : Nat) (W : World) (e : Ending) (W' : World) : Prop :=
  ((nextP p = none ∧ e = .returned (.bool false) ∧ PlAt W' b p) ∨ ∃ q, nextP p = some q ∧ e = .returned (.bool true) ∧ PlAt W' b q) ∧ KeepBut (fun x => x = b) W W'
/-- the two boxes of a call, and the place that is looked at -/
def NxAt (p : List Int) (b : Nat) (W : World) (m : Nat) (wr : World) : Prop :=
  ∃ pl : Int, Boxed wr W.heap.size 31 (.slice (some ⟨b, 0, none⟩) p.length p.length) ∧ Boxed wr (W.heap.size + 1) 3 (.int .i64 pl) ∧ PlAt wr b p ∧ Below W.heap.size W wr ∧
    ((pl = (m : Int) - 1 ∧ m + 1 ≤ p.length) ∨ (pl < 0 ∧ m = 0)) ∧ plcP p (p.length - 1) = plcP p m ∧ (pl = -1 ∨ pl = -2 ∨ 0 ≤ pl)

theorem next_form {p : List Int} {a : Nat} (h : plcP p (p.length - 1) = some a) {u zr : List Int} {x v : Int} {j : Nat} (hx : p[a]?.getD 0 = x) (hu : p.take (a + 1) = u) (hz : (p.drop (a + 1)).reverse = zr) (hj : gtP x zr = j) (hv : zr[j]?.getD 0 = v) :
    nextP p = some (((u ++ zr).set a v).set (a + 1 + j) x) := by
  have ha := plcP_some h
  have hl : a < p.length := by omega
  have hu2 : u = p.take a ++ [x] := by rw [← hu, List.take_succ_eq_append_getElem hl, ← hx, getD_at hl]
  have hal : (p.take a).length = a := by simp; omega
  unfold nextP
  rw [h]
  simp only [hx, hz, hj, hv]
  rw [hu2, List.append_assoc, List.set_append_right _ _ (by omega), hal, Nat.sub_self, List.singleton_append, List.set_cons_zero, List.set_append_right _ _ (by omega), hal, show a + 1 + j - a = j + 1 by omega, List.set_cons_succ]
theorem next_more {p : List Int} {a : Nat} (h : plcP p (p.length - 1) = some a) {zr : List Int} {x : Int} (hx : p[a]?.getD 0 = x) (hz : (p.drop (a + 1)).reverse = zr) : gtP x zr < zr.length := by
  have ha := plcP_some h
  refine gtP_lt ⟨p[a + 1]?.getD 0, ?_, by rw [← hx]; exact ha.2⟩
  rw [← hz, List.mem_reverse, getD_at (show a + 1 < p.length by omega), List.mem_iff_getElem]
  exact ⟨0, by simp; omega, by simp⟩

set_option maxRecDepth 100000 in
set_option maxHeartbeats 2000000 in
theorem nextPlan_c (p : List Int) (b : Nat) (W : World) (hp : PlAt W b p) (hn : p.length ≤ 6) (hd : ∀ k, k + 1 < p.length → p[k]?.getD 0 ≠ p[k + 1]?.getD 0) :
    Calls Tryd.prog 85 #[.slice (some ⟨b, 0, none⟩) p.length p.length] W (NxPost p b W) := by
  have hbW := hp.lt
  have hp0 := hp
  have Hp := Lib.hid hp
  have Hd := Lib.hid hd
  have hb0 : Boxed ((W.alloc (.cells #[.slice (some ⟨b, 0, none⟩) p.length p.length] 31)).alloc (.cells #[.int .i64 ((p.length : Int) - 2)] 3)) (W.heap.size + 1) 3 (.int .i64 ((p.length : Int) - 2)) := by
    have := Boxed.new (W.alloc (.cells #[.slice (some ⟨b, 0, none⟩) p.length p.length] 31)) 3 (.int .i64 ((p.length : Int) - 2))
    rwa [World.size_alloc] at this
  have hbx : Boxed ((W.alloc (.cells #[.slice (some ⟨b, 0, none⟩) p.length p.length] 31)).alloc (.cells #[.int .i64 ((p.length : Int) - 2)] 3)) W.heap.size 31 (.slice (some ⟨b, 0, none⟩) p.length p.length) := (Boxed.new W _ _).alloc _
  have hbl : Below W.heap.size W ((W.alloc (.cells #[.slice (some ⟨b, 0, none⟩) p.length p.length] 31)).alloc (.cells #[.int .i64 ((p.length : Int) - 2)] 3)) := ((Below.refl _ _).alloc (Nat.le_refl _) _).alloc (by simp) _
  have Hst := Lib.hid (show ∃ m, m ≤ p.length ∧ NxAt p b W m ((W.alloc (.cells #[.slice (some ⟨b, 0, none⟩) p.length p.length] 31)).alloc (.cells #[.int .i64 ((p.length : Int) - 2)] 3)) from
    ⟨p.length - 1, by omega, (p.length : Int) - 2, hbx, hb0, hp.go hbl, hbl, by omega, rfl, by omega⟩)
  clear hp hd hb0 hbx hp0 hbl
  go_enter Tryd.func85, Tryd.ntmps85
  go_wp2
  go_loopg [] p.length (fun k wr => ∃ m, m ≤ k ∧ NxAt p b W m wr)
  case atStart => exact Hst.out
  case round =>
    obtain ⟨m, hmk, pl, hbx, hpl, hp, hbl, hor, hpc, hpl2⟩ := hrel
    obtain ⟨W0, hW0⟩ : ∃ W0, W0 = wr := ⟨_, rfl⟩
    subst hW0
    have c1 := hbx.cell
    have c2 := hpl.cell
    cases m with
    | zero =>
      have Hn := Lib.hid (show nextP p = none by unfold nextP; rw [hpc]; rfl)
      have hneg : pl < 0 := by omega
      have g0 : decide ((0 : Int) ≤ pl) = false := decide_eq_false (by omega)
      have Hkp := Lib.hid (fun nq => (KeepBut.of_below (p := fun x => x = b) (below_drewN hbl nq)))
      have Hp2 := Lib.hid (fun nq => hp.drewN nq)
      clear hbx hpl hp hbl hor hpc hpl2
      go_wp2
      go_quiet (fail)
      go_wp2
      go_ret
      exact ⟨.inl ⟨Hn.out, rfl, Hp2.out nq⟩, Hkp.out nq⟩
    | succ a =>
      have hpa : pl = (a : Int) ∧ a + 2 ≤ p.length := by omega
      obtain ⟨rfl, ha⟩ := hpa
      have hca := hp.cell (k := a) (by omega)
      have hcb := hp.cell (k := a + 1) (by omega)
      have hne := Hd.out a (by omega)
      have Hyes := Lib.hid (plcP_yes (p := p) (k := a))
      have Hno := Lib.hid (plcP_no (p := p) (k := a))
      have hsp := pl_split (p := p) (a := a) (by omega)
      obtain ⟨x, hx⟩ : ∃ x, p[a]?.getD 0 = x := ⟨_, rfl⟩
      obtain ⟨y, hy⟩ : ∃ y, p[a + 1]?.getD 0 = y := ⟨_, rfl⟩
      rw [hx] at hca hne Hyes Hno
      rw [hy] at hcb hne Hyes Hno
      have Hx := Lib.hid hx
      have Hy := Lib.hid hy
      have Hpc := Lib.hid hpc
      have Hbx := Lib.hid hbx
      have Hpl := Lib.hid hpl
      have Hp2 := Lib.hid hp
      have Hbl := Lib.hid hbl
      have gg0 : decide ((0 : Int) ≤ (a : Int)) = true := decide_eq_true (by omega)
      have q1 : IntKind.i64.wrap ((a : Int) + 1) = (a : Int) + 1 := IntWalk.i64_in _ (by omega)
      have q2 : (0 : Int) ≤ (a : Int) + 1 := by omega
      have q3 : ((a : Int) + 1).toNat = a + 1 := by omega
      have q4 : (a : Int) + 1 < (p.length : Int) := by omega
      have q5 : (a : Int) < (p.length : Int) := by omega
      have q6 : (0 : Int) ≤ (a : Int) := by omega
      clear hbx hpl hp hbl hor hpc hpl2 hx hy hsp
      by_cases hgt : y < x
      · have g0 : decide (y < x) = true := decide_eq_true hgt
        have Hpc2 := Lib.hid (Hpc.out.trans (Hno.out (by omega)))
        have Hpl2 := Lib.hid (fun nq => (show Boxed (W0.drewN nq) (W.heap.size + 1) 3 (.int .i64 (a : Int)) from Hpl.out).set (.int .i64 ((a : Int) - 1)))
        have hfr := Hpl.out.frozen
        go_wp2
        go_quiet (fail)
        go_wp2
        go_roundg a
        case rel =>
          exact ⟨a, Nat.le_refl _, (a : Int) - 1, Boxed.other (W := W0.drewN nq) Hbx.out (by omega) _, Hpl2.out nq, (Hp2.out.drewN nq).keep (keep_set _ (W.heap.size + 1) 0 _) (by omega), (below_drewN Hbl.out nq).setCell (p := ⟨W.heap.size + 1, 0, none⟩) (by simp) _, by omega, Hpc2.out, by omega⟩
        case measure => omega
      · have g0 : decide (y < x) = false := decide_eq_false hgt
        have hpc2 := Hpc.out.trans (Hyes.out (by omega))
        obtain ⟨u, hu⟩ : ∃ u, p.take (a + 1) = u := ⟨_, rfl⟩
        obtain ⟨z, hz⟩ : ∃ z, p.drop (a + 1) = z := ⟨_, rfl⟩
        obtain ⟨zr, hzr⟩ : ∃ zr, z.reverse = zr := ⟨_, rfl⟩
        have hul : u.length = a + 1 := by rw [← hu]; simp; omega
        have hzl : z.length = p.length - (a + 1) := by rw [← hz]; simp
        have hzrl : zr.length = p.length - (a + 1) := by rw [← hzr]; simp [hzl]
        have hpuz : p = u ++ z := by rw [← hu, ← hz, List.take_append_drop]
        have hmore := next_more hpc2 Hx.out (zr := zr) (by rw [hz, hzr])
        have hux : u[a]?.getD 0 = x := by rw [← hu, List.getElem?_take_of_lt (by omega)]; exact Hx.out
        have hform := fun j v hj hv => next_form hpc2 Hx.out hu (zr := zr) (by rw [hz, hzr]) (j := j) (v := v) hj hv
        have hrev := fun (V : World) h => reverse_c b u z (p.length - (a + 1)) V (by omega) h
        have hidx := fun (V : World) h1 h2 h3 h4 => indexFunc_c x W.heap.size (W.heap.size + 1) b u zr p.length p.length a (p.length - (a + 1)) V h1 h2 h3 h4 (by omega) hux (by omega) hmore
        rw [hzr] at hrev
        rw [hul, hzl] at hrev
        rw [hul, hzrl] at hidx
        obtain ⟨j, hj⟩ : ∃ j, gtP x zr = j := ⟨_, rfl⟩
        obtain ⟨v, hv⟩ : ∃ v, zr[j]?.getD 0 = v := ⟨_, rfl⟩
        have hfm := hform j v hj hv
        rw [hj] at hidx hmore
        have hlen : (u ++ zr).length = p.length := by rw [List.length_append]; omega
        have hca2 : (u ++ zr)[a]?.getD 0 = x := by rw [List.getElem?_append_left (by omega)]; exact hux
        have hcj2 : (u ++ zr)[a + 1 + j]?.getD 0 = v := by rw [List.getElem?_append_right (by omega), hul, show a + 1 + j - (a + 1) = j by omega]; exact hv
        have Hp3 := Lib.hid (fun nq => (show PlAt (W0.drewN nq) b (u ++ z) from by rw [← hpuz]; exact Hp2.out.drewN nq))
        have Hrev := Lib.hid hrev
        have Hidx := Lib.hid hidx
        have Hfm := Lib.hid hfm
        have Hlen := Lib.hid hlen
        have Hca2 := Lib.hid hca2
        have Hcj2 := Lib.hid hcj2
        have hm1 : j < p.length - (a + 1) := by omega
        clear hrev hidx hform hfm hlen hca2 hcj2 hpuz hux hul hzl hzrl hzr hu hz hj hv hpc2 hmore
        go_wp2
        go_quiet (fail)
        go_wp2_with fail
        refine (Hrev.out _ (Hp3.out nq)).mono ?_
        rintro e w3 ⟨⟨v3, rfl⟩, hp3, hk3⟩
        have hlt1 := Hbx.out.lt
        have hlt2 := Hpl.out.lt
        have hbx3 : Boxed w3 W.heap.size 31 (.slice (some ⟨b, 0, none⟩) p.length p.length) := (hk3.block _ hlt1 (by omega)).trans Hbx.out
        have hpl3 : Boxed w3 (W.heap.size + 1) 3 (.int .i64 (a : Int)) := (hk3.block _ hlt2 (by omega)).trans Hpl.out
        have Hix := Lib.hid (Hidx.out w3 hbx3 hpl3 hp3 Hlen.out)
        have e1 := hbx3.cell
        have e2 := hpl3.cell
        have e3 := hp3.cell (k := a) (by rw [Hlen.out]; omega)
        have e4 := hp3.cell (k := a + 1 + j) (by rw [Hlen.out]; omega)
        rw [Hca2.out] at e3
        rw [Hcj2.out] at e4
        have f3 := hp3.frozen a
        have f4 := hp3.frozen (a + 1 + j)
        have Hfin := Lib.hid (((hp3.drewN 1).set a v).set (a + 1 + j) x)
        have Hkf := Lib.hid (((((KeepBut.of_below (p := fun x => x = b) (below_drewN Hbl.out nq)).trans hk3).drewN 1).trans (keep_set _ b a (.int .i64 v))).trans (keep_set _ b (a + 1 + j) (.int .i64 x)))
        have g7 : ¬ a = a + 1 + j := by omega
        have g8 : (j : Int) < ((p.length - (a + 1) : Nat) : Int) := by omega
        have g9 : (0 : Int) ≤ (j : Int) := by omega
        clear hbx3 hpl3 hp3 hk3
        go_wp2_with fail
        refine Hix.out.mono ?_
        rintro e w4 ⟨rfl, rfl⟩
        go_wp2
        go_region
        all_goals
          go_wp2
          go_ret
          exact ⟨.inr ⟨_, Hfm.out, rfl, Hfin.out⟩, Hkf.out⟩

end Go.Proofs.YtbcgglkgdjafiaaDoor
