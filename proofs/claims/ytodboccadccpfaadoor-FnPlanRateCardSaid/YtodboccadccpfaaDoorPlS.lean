/-
  slices.Reverse at ints. / What nextPlan leans on. / nextPlan of the program.
-/
import Derived.Test.YtodboccadccpfaaDoorPlF
import Derived.Deep.LoopGhost
import Derived.RangeFuncBox
import Derived.Shelf.Abstract
import Derived.RangeFuncNested
namespace Go.Proofs.YtodboccadccpfaaDoor
open Go.RowKit

/-! ### turned round, pair by pair -/
def revT (z : List Int) (i : Nat) : List Int := (List.range z.length).map fun k => if k < i ∨ z.length ≤ k + i then z[z.length - 1 - k]?.getD 0 else z[k]?.getD 0
theorem revT_len (z : List Int) (i : Nat) : (revT z i).length = z.length := by simp [revT]
theorem revT_at (z : List Int) (i : Nat) {k : Nat} (hk : k < z.length) : (revT z i)[k]?.getD 0 = if k < i ∨ z.length ≤ k + i then z[z.length - 1 - k]?.getD 0 else z[k]?.getD 0 := by
  simp [revT, hk]
theorem revT_zero (z : List Int) : revT z 0 = z := by
  apply List.ext_getElem
  · simp [revT]
  · intro k h1 h2
    simp only [revT, List.getElem_map, List.getElem_range]
    rw [if_neg (by omega), List.getElem?_eq_getElem h2]; rfl
theorem revT_all (z : List Int) {i : Nat} (h : z.length ≤ 2 * i + 1) : revT z i = z.reverse := by
  apply List.ext_getElem
  · simp [revT]
  · intro k h1 h2
    have hk : k < z.length := by simpa [revT] using h1
    simp only [revT, List.getElem_map, List.getElem_range, List.getElem_reverse]
    split
    · rw [List.getElem?_eq_getElem (by omega)]; rfl
    · have : z.length - 1 - k = k := by omega
      simp only [this]
      rw [List.getElem?_eq_getElem hk]; rfl
theorem revT_succ (z : List Int) {i : Nat} (h : 2 * i + 1 < z.length) : revT z (i + 1) = ((revT z i).set i (z[z.length - 1 - i]?.getD 0)).set (z.length - 1 - i) (z[i]?.getD 0) := by
  apply List.ext_getElem
  · simp [revT]
  · intro k h1 h2
    have hk : k < z.length := by simpa [revT] using h1
    simp only [revT, List.getElem_map, List.getElem_range, List.getElem_set]
    by_cases e1 : z.length - 1 - i = k
    · rw [if_pos e1, if_pos (by omega), show z.length - 1 - k = i by omega]
    · rw [if_neg e1]
      by_cases e2 : i = k
      · rw [if_pos e2, if_pos (by omega), e2]
      · rw [if_neg e2]
        by_cases e3 : k < i ∨ z.length ≤ k + i
        · rw [if_pos e3, if_pos (by omega)]
        · rw [if_neg e3, if_neg (by omega)]
set_option maxRecDepth 100000 in
set_option maxHeartbeats 2000000 in
theorem reverse_c (b : Nat) (u z : List Int) (cap : Nat) (W : World) (hz : z.length ≤ 100) (h : PlAt W b (u ++ z)) :
    Calls Tryd.prog 64 #[.slice (some ⟨b, u.length, none⟩) z.length cap] W fun e W' => (∃ v, e = .returned v) ∧ PlAt W' b (u ++ z.reverse) ∧ KeepBut (fun x => x = b) W W' := by
  have H := Lib.hid h
  clear h
  go_enter Tryd.func64, Tryd.ntmps64
  go_wp2
  go_loopw [2, 3] (fun i j wr => ∃ k : Nat, 2 * k ≤ z.length + 1 ∧ i = .int .i64 k ∧ j = .int .i64 ((z.length : Int) - 1 - k) ∧ PlAt wr b (u ++ revT z k) ∧ KeepBut (fun x => x = b) W wr) (fun i _ _ => z.length - (intOf i).toNat)
  case atStart => exact ⟨0, by omega, rfl, by simp, by rw [revT_zero]; exact H.out, KeepBut.refl _ _⟩
  case round =>
    obtain ⟨k, hk, rfl, rfl, hp, hb⟩ := hrel
    by_cases hlt : 2 * k + 1 < z.length
    · obtain ⟨j, hj⟩ : ∃ j : Nat, (z.length : Int) - 1 - k = (j : Int) := ⟨z.length - 1 - k, by omega⟩
      have hj2 : j = z.length - 1 - k := by omega
      have hs := revT_succ z hlt
      have hci := hp.cell (k := u.length + k) (by rw [List.length_append, revT_len]; omega)
      have hcj := hp.cell (k := u.length + j) (by rw [List.length_append, revT_len]; omega)
      rw [List.getElem?_append_right (by omega), show u.length + k - u.length = k by omega, revT_at z k (by omega), if_neg (by omega)] at hci
      rw [List.getElem?_append_right (by omega), show u.length + j - u.length = j by omega, revT_at z k (by omega), if_neg (by omega)] at hcj
      rw [← hj2] at hs
      obtain ⟨x, hx⟩ : ∃ x, z[k]?.getD 0 = x := ⟨_, rfl⟩
      obtain ⟨y, hy⟩ : ∃ y, z[j]?.getD 0 = y := ⟨_, rfl⟩
      rw [hx] at hci hs
      rw [hy] at hcj hs
      have hp2 := (hp.drewN 1).set (u.length + k) y
      rw [set_app] at hp2
      have hp3 := hp2.set (u.length + j) x
      rw [set_app, ← hs] at hp3
      have hfi := hp.frozen (u.length + k)
      have hfj := hp.frozen (u.length + j)
      have hkp := ((hb.drewN 1).trans (keep_set _ b (u.length + k) (.int .i64 y))).trans (keep_set _ b (u.length + j) (.int .i64 x))
      have Hp3 := Lib.hid hp3
      have Hkp := Lib.hid hkp
      rw [hj]
      have Hj := Lib.hid hj
      have g1 : (k : Int) < (j : Int) := by omega
      have g2 : (j : Int) < (z.length : Int) := by omega
      have g3 : (k : Int) < (z.length : Int) := by omega
      have g4 : (0 : Int) ≤ (k : Int) := by omega
      have g5 : (0 : Int) ≤ (j : Int) := by omega
      have g6 : ¬ k = j := by omega
      clear hj hj2 hs hx hy hp hp2 hp3 hkp hb
      go_wp2
      go_region
      all_goals
        go_wp2
        go_roundw
        case rel => exact ⟨k + 1, by omega, by go_num, by have := Hj.out; congr 1; omega, Hp3.out, Hkp.out⟩
        case measure => simp [intOf]; omega
    · have g1 : ¬ (k : Int) < (z.length : Int) - 1 - (k : Int) := by omega
      rw [revT_all z (by omega)] at hp
      go_wp2
      go_end0
      exact ⟨⟨_, rfl⟩, hp, hb⟩
end Go.Proofs.YtodboccadccpfaaDoor

namespace Go.Proofs.YtodboccadccpfaaDoor
open Go.RowKit

/-! ### the plan that follows, place by place -/
theorem plcP_zero (p : List Int) : plcP p 0 = none := rfl
theorem plcP_yes {p : List Int} {k : Nat} (h : p[k]?.getD 0 < p[k + 1]?.getD 0) : plcP p (k + 1) = some k := by rw [plcP, if_pos h]
theorem plcP_no {p : List Int} {k : Nat} (h : ¬ p[k]?.getD 0 < p[k + 1]?.getD 0) : plcP p (k + 1) = plcP p k := by rw [plcP, if_neg h]
theorem plcP_some {p : List Int} : ∀ {m a : Nat}, plcP p m = some a → a < m ∧ p[a]?.getD 0 < p[a + 1]?.getD 0
  | 0, a, h => by cases h
  | m + 1, a, h => by
    rw [plcP] at h
    split at h
    · injection h with h; subst h; exact ⟨by omega, by assumption⟩
    · have := plcP_some h; exact ⟨by omega, this.2⟩
theorem gtP_lt {x : Int} : ∀ {z : List Int}, (∃ y ∈ z, x < y) → gtP x z < z.length
  | [], h => by obtain ⟨y, hy, _⟩ := h; simp at hy
  | y :: t, h => by
    rw [gtP]
    split
    · simp
    · rename_i hxy
      obtain ⟨u, hu, hxu⟩ := h
      rcases List.mem_cons.1 hu with rfl | hu
      · exact absurd hxu hxy
      · have := gtP_lt ⟨u, hu, hxu⟩; simp; omega
theorem gtP_before {x : Int} : ∀ {z : List Int} {k : Nat}, k < gtP x z → ¬ x < z[k]?.getD 0
  | [], k, h => by simp [gtP] at h
  | y :: t, k, h => by
    rw [gtP] at h
    split at h
    · omega
    · rename_i hxy
      cases k with
      | zero => simpa using hxy
      | succ j =>
        rw [List.getElem?_cons_succ]
        exact gtP_before (by omega)
theorem gtP_at {x : Int} : ∀ {z : List Int}, gtP x z < z.length → x < z[gtP x z]?.getD 0
  | [], h => by simp at h
  | y :: t, h => by
    rw [gtP] at h ⊢
    split
    · rename_i hxy; simpa using hxy
    · rename_i hxy
      rw [if_neg hxy] at h
      rw [List.getElem?_cons_succ]
      exact gtP_at (by simpa using h)
theorem pl_split {p : List Int} {a : Nat} (h : a < p.length) : p = p.take a ++ p[a]?.getD 0 :: p.drop (a + 1) := by
  rw [getD_at h, List.getElem_cons_drop, List.take_append_drop]

set_option maxRecDepth 100000 in
theorem less_c (x y : Int) (b1 b2 b : Nat) (q : List Int) (n c a : Nat) (W : World) (h1 : Boxed W b1 24 (.slice (some ⟨b, 0, none⟩) n c)) (h2 : Boxed W b2 3 (.int .i64 a)) (hp : PlAt W b q) (hn : q.length = n) (ha : a < q.length) (hx : q[a]?.getD 0 = x) :
    Calls Tryd.prog 66 #[.int .i64 y, .pointer (some ⟨b1, 0, none⟩), .pointer (some ⟨b2, 0, none⟩)] W fun e w' => e = .returned (.bool (decide (x < y))) ∧ W = w' := by
  have c1 := h1.cell
  have c2 := h2.cell
  have c3 := hp.cell ha
  rw [hx] at c3
  have g1 : (a : Int) < (n : Int) := by omega
  clear h1 h2 hp hx hn
  go_enter Tryd.func66, Tryd.ntmps66
  go_wp2
  go_ret
  exact ⟨rfl, rfl⟩

set_option maxRecDepth 100000 in
set_option maxHeartbeats 2000000 in
theorem indexFunc_c (x : Int) (b1 b2 b : Nat) (u z : List Int) (n c a cap : Nat) (W : World) (h1 : Boxed W b1 24 (.slice (some ⟨b, 0, none⟩) n c)) (h2 : Boxed W b2 3 (.int .i64 a)) (hp : PlAt W b (u ++ z)) (hn : (u ++ z).length = n) (ha : a < u.length) (hx : u[a]?.getD 0 = x)
    (hz : z.length ≤ 100) (hg : gtP x z < z.length) :
    Calls Tryd.prog 65 #[.slice (some ⟨b, u.length, none⟩) z.length cap, .func (.func 66) #[] #[.pointer (some ⟨b1, 0, none⟩), .pointer (some ⟨b2, 0, none⟩)]] W fun e w' => e = .returned (.int .i64 (gtP x z)) ∧ W = w' := by
  have he : ∀ (args : Array Value) (w : World), (callFunc 66 args).run Tryd.prog w = .ok (.enter 66 args) w := fun args w => enters_of Tryd.func66 (by kernel_rfl) rfl args w
  have hl : (u ++ z).length = u.length + z.length := List.length_append
  have Hless := Lib.hid (fun (y : Int) => less_c x y b1 b2 b (u ++ z) n c a W h1 h2 hp hn (by omega) (by rw [List.getElem?_append_left ha]; exact hx))
  have Hp := Lib.hid hp
  have Hb := Lib.hid (fun (k : Nat) => gtP_before (x := x) (z := z) (k := k))
  have Ha := Lib.hid (gtP_at hg)
  obtain ⟨g, hgg⟩ : ∃ g, gtP x z = g := ⟨_, rfl⟩
  rw [hgg] at hg Hb Ha ⊢
  have Hl := Lib.hid hl
  clear h1 h2 hp hn hx hgg hl
  go_enter Tryd.func65, Tryd.ntmps65
  go_wp2
  go_loop [8] (fun i => ∃ k : Nat, k ≤ g ∧ i = .int .i64 k) (fun i => g - (intOf i).toNat)
  case atStart => exact ⟨0, Nat.zero_le _, rfl⟩
  case round =>
    obtain ⟨k, hk, rfl⟩ := hrel
    have hc := Hp.out.cell (k := u.length + k) (by rw [Hl.out]; omega)
    rw [List.getElem?_append_right (by omega), show u.length + k - u.length = k by omega] at hc
    have hbk := Hb.out k
    have hak := fun (e : k = g) => (show x < z[k]?.getD 0 by rw [e]; exact Ha.out)
    obtain ⟨y, hy⟩ : ∃ y, z[k]?.getD 0 = y := ⟨_, rfl⟩
    rw [hy] at hc hbk hak
    have g1 : (k : Int) < (z.length : Int) := by omega
    clear hy
    by_cases hlt : k < g
    · have Hd := Lib.hid (show decide (x < y) = false from decide_eq_false (by have := hbk hlt; omega))
      clear hbk hak
      go_wp2_with fail
      refine (Hless.out y).mono ?_
      rintro e w1 ⟨rfl, rfl⟩
      rw [Hd.out]
      go_wp2
      go_round
      case rel => exact ⟨k + 1, by omega, by go_num⟩
      case measure => simp [intOf]; omega
    · obtain rfl : k = g := by omega
      have Hd := Lib.hid (show decide (x < y) = true from decide_eq_true (hak rfl))
      clear hbk hak
      go_wp2_with fail
      refine (Hless.out y).mono ?_
      rintro e w1 ⟨rfl, rfl⟩
      rw [Hd.out]
      go_wp2
      go_ret
      exact ⟨rfl, rfl⟩
end Go.Proofs.YtodboccadccpfaaDoor

namespace Go.Proofs.YtodboccadccpfaaDoor
open Go.RowKit

/-- what nextPlan leaves -/
def NxPost (p : List Int) (b : Nat) (W : World) (e : Ending) (W' : World) : Prop :=
  ((nextP p = none ∧ e = .returned (.bool false) ∧ PlAt W' b p) ∨ ∃ q, nextP p = some q ∧ e = .returned (.bool true) ∧ PlAt W' b q) ∧ KeepBut (fun x => x = b) W W'
/-- the two boxes of a call, and the place that is looked at -/
def NxAt (p : List Int) (b : Nat) (W : World) (m : Nat) (wr : World) : Prop :=
  ∃ pl : Int, Boxed wr W.heap.size 24 (.slice (some ⟨b, 0, none⟩) p.length p.length) ∧ Boxed wr (W.heap.size + 1) 3 (.int .i64 pl) ∧ PlAt wr b p ∧ Below W.heap.size W wr ∧
    ((pl = (m : Int) - 1 ∧ m + 1 ≤ p.length) ∨ (pl < 0 ∧ m = 0)) ∧ plcP p (p.length - 1) = plcP p m ∧ (pl = -1 ∨ pl = -2 ∨ 0 ≤ pl)

theorem next_form {p : List Int} {a : Nat} (h : plcP p (p.length - 1) = some a) {u zr : List Int} {x v : Int} {j : Nat} (hx : p[a]?.getD 0 = x) (hu : p.take (a + 1) = u) (hz : (p.drop (a + 1)).reverse = zr) (hj : gtP x zr = j) (hv : zr[j]?.getD 0 = v) :
    nextP p = some (((u ++ zr).set a v).set (a + 1 + j) x) := by
  have ha := plcP_some h
  have hl : a < p.length := by omega
  have hu2 : u = p.take a ++ [x] := by rw [← hu, List.take_succ_eq_append_getElem hl, ← hx, getD_at hl]
  have hal : (p.take a).length = a := by simp; omega
  unfold nextP
  rw [h]
  simp only [hx, hz, hj, hv]
  rw [hu2, List.append_assoc, List.set_append_right _ _ (by omega), hal, Nat.sub_self, List.singleton_append, List.set_cons_zero, List.set_append_right _ _ (by omega), hal, show a + 1 + j - a = j + 1 by omega, List.set_cons_succ]
theorem next_more {p : List Int} {a : Nat} (h : plcP p (p.length - 1) = some a) {zr : List Int} {x : Int} (hx : p[a]?.getD 0 = x) (hz : (p.drop (a + 1)).reverse = zr) : gtP x zr < zr.length := by
  have ha := plcP_some h
  refine gtP_lt ⟨p[a + 1]?.getD 0, ?_, by rw [← hx]; exact ha.2⟩
  rw [← hz, List.mem_reverse, getD_at (show a + 1 < p.length by omega), List.mem_iff_getElem]
  exact ⟨0, by simp; omega, by simp⟩

set_option maxRecDepth 100000 in
set_option maxHeartbeats 2000000 in
theorem nextPlan_c (p : List Int) (b : Nat) (W : World) (hp : PlAt W b p) (hn : p.length ≤ 6) (hd : ∀ k, k + 1 < p.length → p[k]?.getD 0 ≠ p[k + 1]?.getD 0) :
    Calls Tryd.prog 53 #[.slice (some ⟨b, 0, none⟩) p.length p.length] W (NxPost p b W) := by
  have hbW := hp.lt
  have hp0 := hp
  have Hp := Lib.hid hp
  have Hd := Lib.hid hd
  have hb0 : Boxed ((W.alloc (.cells #[.slice (some ⟨b, 0, none⟩) p.length p.length] 24)).alloc (.cells #[.int .i64 ((p.length : Int) - 2)] 3)) (W.heap.size + 1) 3 (.int .i64 ((p.length : Int) - 2)) := by
    have := Boxed.new (W.alloc (.cells #[.slice (some ⟨b, 0, none⟩) p.length p.length] 24)) 3 (.int .i64 ((p.length : Int) - 2))
    rwa [World.size_alloc] at this
  have hbx : Boxed ((W.alloc (.cells #[.slice (some ⟨b, 0, none⟩) p.length p.length] 24)).alloc (.cells #[.int .i64 ((p.length : Int) - 2)] 3)) W.heap.size 24 (.slice (some ⟨b, 0, none⟩) p.length p.length) := (Boxed.new W _ _).alloc _
  have hbl : Below W.heap.size W ((W.alloc (.cells #[.slice (some ⟨b, 0, none⟩) p.length p.length] 24)).alloc (.cells #[.int .i64 ((p.length : Int) - 2)] 3)) := ((Below.refl _ _).alloc (Nat.le_refl _) _).alloc (by simp) _
  have Hst := Lib.hid (show ∃ m, m ≤ p.length ∧ NxAt p b W m ((W.alloc (.cells #[.slice (some ⟨b, 0, none⟩) p.length p.length] 24)).alloc (.cells #[.int .i64 ((p.length : Int) - 2)] 3)) from
    ⟨p.length - 1, by omega, (p.length : Int) - 2, hbx, hb0, hp.go hbl, hbl, by omega, rfl, by omega⟩)
  clear hp hd hb0 hbx hp0 hbl
  go_enter Tryd.func53, Tryd.ntmps53
  go_wp2
  go_loopg [] p.length (fun k wr => ∃ m, m ≤ k ∧ NxAt p b W m wr)
  case atStart => exact Hst.out
  case round =>
    obtain ⟨m, hmk, pl, hbx, hpl, hp, hbl, hor, hpc, hpl2⟩ := hrel
    obtain ⟨W0, hW0⟩ : ∃ W0, W0 = wr := ⟨_, rfl⟩
    subst hW0
    have c1 := hbx.cell
    have c2 := hpl.cell
    cases m with
    | zero =>
      have Hn := Lib.hid (show nextP p = none by unfold nextP; rw [hpc]; rfl)
      have hneg : pl < 0 := by omega
      have g0 : decide ((0 : Int) ≤ pl) = false := decide_eq_false (by omega)
      have Hkp := Lib.hid (fun nq => (KeepBut.of_below (p := fun x => x = b) (below_drewN hbl nq)))
      have Hp2 := Lib.hid (fun nq => hp.drewN nq)
      clear hbx hpl hp hbl hor hpc hpl2
      go_wp2
      go_quiet (fail)
      go_wp2
      go_ret
      exact ⟨.inl ⟨Hn.out, rfl, Hp2.out nq⟩, Hkp.out nq⟩
    | succ a =>
      have hpa : pl = (a : Int) ∧ a + 2 ≤ p.length := by omega
      obtain ⟨rfl, ha⟩ := hpa
      have hca := hp.cell (k := a) (by omega)
      have hcb := hp.cell (k := a + 1) (by omega)
      have hne := Hd.out a (by omega)
      have Hyes := Lib.hid (plcP_yes (p := p) (k := a))
      have Hno := Lib.hid (plcP_no (p := p) (k := a))
      have hsp := pl_split (p := p) (a := a) (by omega)
      obtain ⟨x, hx⟩ : ∃ x, p[a]?.getD 0 = x := ⟨_, rfl⟩
      obtain ⟨y, hy⟩ : ∃ y, p[a + 1]?.getD 0 = y := ⟨_, rfl⟩
      rw [hx] at hca hne Hyes Hno
      rw [hy] at hcb hne Hyes Hno
      have Hx := Lib.hid hx
      have Hy := Lib.hid hy
      have Hpc := Lib.hid hpc
      have Hbx := Lib.hid hbx
      have Hpl := Lib.hid hpl
      have Hp2 := Lib.hid hp
      have Hbl := Lib.hid hbl
      have gg0 : decide ((0 : Int) ≤ (a : Int)) = true := decide_eq_true (by omega)
      have q1 : IntKind.i64.wrap ((a : Int) + 1) = (a : Int) + 1 := IntWalk.i64_in _ (by omega)
      have q2 : (0 : Int) ≤ (a : Int) + 1 := by omega
      have q3 : ((a : Int) + 1).toNat = a + 1 := by omega
      have q4 : (a : Int) + 1 < (p.length : Int) := by omega
      have q5 : (a : Int) < (p.length : Int) := by omega
      have q6 : (0 : Int) ≤ (a : Int) := by omega
      clear hbx hpl hp hbl hor hpc hpl2 hx hy hsp
      by_cases hgt : y < x
      · have g0 : decide (y < x) = true := decide_eq_true hgt
        have Hpc2 := Lib.hid (Hpc.out.trans (Hno.out (by omega)))
        have Hpl2 := Lib.hid (fun nq => (show Boxed (W0.drewN nq) (W.heap.size + 1) 3 (.int .i64 (a : Int)) from Hpl.out).set (.int .i64 ((a : Int) - 1)))
        have hfr := Hpl.out.frozen
        go_wp2
        go_quiet (fail)
        go_wp2
        go_roundg a
        case rel =>
          exact ⟨a, Nat.le_refl _, (a : Int) - 1, Boxed.other (W := W0.drewN nq) Hbx.out (by omega) _, Hpl2.out nq, (Hp2.out.drewN nq).keep (keep_set _ (W.heap.size + 1) 0 _) (by omega), (below_drewN Hbl.out nq).setCell (p := ⟨W.heap.size + 1, 0, none⟩) (by simp) _, by omega, Hpc2.out, by omega⟩
        case measure => omega
      · have g0 : decide (y < x) = false := decide_eq_false hgt
        have hpc2 := Hpc.out.trans (Hyes.out (by omega))
        obtain ⟨u, hu⟩ : ∃ u, p.take (a + 1) = u := ⟨_, rfl⟩
        obtain ⟨z, hz⟩ : ∃ z, p.drop (a + 1) = z := ⟨_, rfl⟩
        obtain ⟨zr, hzr⟩ : ∃ zr, z.reverse = zr := ⟨_, rfl⟩
        have hul : u.length = a + 1 := by rw [← hu]; simp; omega
        have hzl : z.length = p.length - (a + 1) := by rw [← hz]; simp
        have hzrl : zr.length = p.length - (a + 1) := by rw [← hzr]; simp [hzl]
        have hpuz : p = u ++ z := by rw [← hu, ← hz, List.take_append_drop]
        have hmore := next_more hpc2 Hx.out (zr := zr) (by rw [hz, hzr])
        have hux : u[a]?.getD 0 = x := by rw [← hu, List.getElem?_take_of_lt (by omega)]; exact Hx.out
        have hform := fun j v hj hv => next_form hpc2 Hx.out hu (zr := zr) (by rw [hz, hzr]) (j := j) (v := v) hj hv
        have hrev := fun (V : World) h => reverse_c b u z (p.length - (a + 1)) V (by omega) h
        have hidx := fun (V : World) h1 h2 h3 h4 => indexFunc_c x W.heap.size (W.heap.size + 1) b u zr p.length p.length a (p.length - (a + 1)) V h1 h2 h3 h4 (by omega) hux (by omega) hmore
        rw [hzr] at hrev
        rw [hul, hzl] at hrev
        rw [hul, hzrl] at hidx
        obtain ⟨j, hj⟩ : ∃ j, gtP x zr = j := ⟨_, rfl⟩
        obtain ⟨v, hv⟩ : ∃ v, zr[j]?.getD 0 = v := ⟨_, rfl⟩
        have hfm := hform j v hj hv
        rw [hj] at hidx hmore
        have hlen : (u ++ zr).length = p.length := by rw [List.length_append]; omega
        have hca2 : (u ++ zr)[a]?.getD 0 = x := by rw [List.getElem?_append_left (by omega)]; exact hux
        have hcj2 : (u ++ zr)[a + 1 + j]?.getD 0 = v := by rw [List.getElem?_append_right (by omega), hul, show a + 1 + j - (a + 1) = j by omega]; exact hv
        have Hp3 := Lib.hid (fun nq => (show PlAt (W0.drewN nq) b (u ++ z) from by rw [← hpuz]; exact Hp2.out.drewN nq))
        have Hrev := Lib.hid hrev
        have Hidx := Lib.hid hidx
        have Hfm := Lib.hid hfm
        have Hlen := Lib.hid hlen
        have Hca2 := Lib.hid hca2
        have Hcj2 := Lib.hid hcj2
        have hm1 : j < p.length - (a + 1) := by omega
        clear hrev hidx hform hfm hlen hca2 hcj2 hpuz hux hul hzl hzrl hzr hu hz hj hv hpc2 hmore
        go_wp2
        go_quiet (fail)
        go_wp2_with fail
        refine (Hrev.out _ (Hp3.out nq)).mono ?_
        rintro e w3 ⟨⟨v3, rfl⟩, hp3, hk3⟩
        have hlt1 := Hbx.out.lt
        have hlt2 := Hpl.out.lt
        have hbx3 : Boxed w3 W.heap.size 24 (.slice (some ⟨b, 0, none⟩) p.length p.length) := (hk3.block _ hlt1 (by omega)).trans Hbx.out
        have hpl3 : Boxed w3 (W.heap.size + 1) 3 (.int .i64 (a : Int)) := (hk3.block _ hlt2 (by omega)).trans Hpl.out
        have Hix := Lib.hid (Hidx.out w3 hbx3 hpl3 hp3 Hlen.out)
        have e1 := hbx3.cell
        have e2 := hpl3.cell
        have e3 := hp3.cell (k := a) (by rw [Hlen.out]; omega)
        have e4 := hp3.cell (k := a + 1 + j) (by rw [Hlen.out]; omega)
        rw [Hca2.out] at e3
        rw [Hcj2.out] at e4
        have f3 := hp3.frozen a
        have f4 := hp3.frozen (a + 1 + j)
        have Hfin := Lib.hid (((hp3.drewN 1).set a v).set (a + 1 + j) x)
        have Hkf := Lib.hid (((((KeepBut.of_below (p := fun x => x = b) (below_drewN Hbl.out nq)).trans hk3).drewN 1).trans (keep_set _ b a (.int .i64 v))).trans (keep_set _ b (a + 1 + j) (.int .i64 x)))
        have g7 : ¬ a = a + 1 + j := by omega
        have g8 : (j : Int) < ((p.length - (a + 1) : Nat) : Int) := by omega
        have g9 : (0 : Int) ≤ (j : Int) := by omega
        clear hbx3 hpl3 hp3 hk3
        go_wp2_with fail
        refine Hix.out.mono ?_
        rintro e w4 ⟨rfl, rfl⟩
        go_wp2
        go_region
        all_goals
          go_wp2
          go_ret
          exact ⟨.inr ⟨_, Hfm.out, rfl, Hfin.out⟩, Hkf.out⟩
end Go.Proofs.YtodboccadccpfaaDoor
