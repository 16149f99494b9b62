/-
  PlanRate of the program.
-/
import Derived.Test.YtbcgglkgdjafiaaRtI
namespace Go.Proofs.Ytbcgglkgdjafiaa
open Go.RowKit Go.Shelf

set_option maxHeartbeats 1000000 in
theorem stable_c (b bx : Nat) (A : Option Addr) (c : Nat) (J : List Jbs) (hJ : jbB J = true) (W : World) (hp : PlAt W b (firstP J.length)) (hb : Boxed W bx 28 (.slice A J.length c)) (hbx : bx < b) (hlo : ∀ W', KeepBut (fun x => x = b) W W' → ArgJ W' A c J) :
    Calls Try.prog 49 #[.slice (some ⟨b, 0, none⟩) J.length J.length, .int .i64 J.length, .func (.func 43) #[] #[.pointer (some ⟨bx, 0, none⟩)]] W fun e W' => (∃ v, e = .returned v) ∧ PlAt W' b (rateT J J.length) ∧ KeepBut (fun x => x = b) W W' := by
  have hj6 := (jbB_true.1 hJ).1
  have Hins := Lib.hid (insertion_c b bx A c J hJ W hp hb hbx hlo)
  have g1 : ¬ (20 : Int) ≤ (J.length : Int) := by omega
  have g2 : ¬ (20 : Int) < (J.length : Int) := by omega
  clear hp hb hlo
  go_enter Try.func49, Try.ntmps49
  go_wp2
  go_loop [7, 8] (fun a b => a = .int .i64 0 ∧ b = .int .i64 20) (fun _ _ => 0)
  case atStart => exact ⟨rfl, rfl⟩
  case round =>
    obtain ⟨rfl, rfl⟩ := hrel
    go_wp2_with fail
    refine Hins.out.mono ?_
    rintro e w1 ⟨⟨v1, rfl⟩, hp1, hk1⟩
    have H1 := Lib.hid (And.intro hp1 hk1)
    clear hp1 hk1
    go_wp2
    go_loop [6, 7, 8, 9] (fun a _ _ _ => a = .int .i64 20) (fun _ _ _ _ => 0)
    case atStart => rfl
    case round =>
      obtain rfl := hrel
      go_wp2
      go_end0
      exact ⟨⟨_, rfl⟩, H1.out⟩
theorem sortStable_c (b bx : Nat) (A : Option Addr) (c : Nat) (J : List Jbs) (hJ : jbB J = true) (W : World) (hp : PlAt W b (firstP J.length)) (hb : Boxed W bx 28 (.slice A J.length c)) (hbx : bx < b) (hlo : ∀ W', KeepBut (fun x => x = b) W W' → ArgJ W' A c J) :
    Calls Try.prog 42 #[.slice (some ⟨b, 0, none⟩) J.length J.length, .func (.func 43) #[] #[.pointer (some ⟨bx, 0, none⟩)]] W fun e W' => (∃ v, e = .returned v) ∧ PlAt W' b (rateT J J.length) ∧ KeepBut (fun x => x = b) W W' := by
  have Hst := Lib.hid (stable_c b bx A c J hJ W hp hb hbx hlo)
  clear hp hb hlo
  go_enter Try.func42, Try.ntmps42
  go_wp2_with fail
  refine Hst.out.mono ?_
  rintro e w1 ⟨⟨v1, rfl⟩, hp1, hk1⟩
  go_wp2
  go_end0
  exact ⟨⟨_, rfl⟩, hp1, hk1⟩

theorem own_plan {W : World} {b lo : Nat} {p : List Int} (h : PlAt W b p) (hlo : lo ≤ b) (hl : p.length ≤ 2097152) : W.ownsRow lo 3 1 (.slice (some ⟨b, 0, none⟩) p.length p.length) p.length (p.map (Value.int .i64)) := by
  refine ⟨by simp, .inr ⟨b, p.length, (p.map (Value.int .i64)).toArray, rfl, hlo, h, Nat.le_refl _, by unfold maxLen; omega, by simp, by rw [List.take_of_length_le (by simp)]⟩⟩

set_option maxHeartbeats 1000000 in
theorem implPlanRate_b (s : ByteArray) (A : Option Addr) (c : Nat) (J : List Jbs) (w : World) (_hs : s.size ≤ 2097152) (ha : ArgJ w A c J) :
    Calls Try.prog 25 #[.string s, .slice A J.length c] w (RetS 3 (fun v => .tuple #[v, .bool (timeB (byL s) J)]) (rateL (byL s) J) w) := by
  have HA := Lib.hid ha
  clear ha
  have hba : Below w.heap.size w (w.alloc (.cells #[.slice A J.length c] 28)) := (Below.refl _ _).alloc (Nat.le_refl _) _
  have hbx : Boxed (w.alloc (.cells #[.slice A J.length c] 28)) w.heap.size 28 (.slice A J.length c) := Boxed.new w _ _
  have Hba := Lib.hid hba
  have Hbx := Lib.hid hbx
  have Htime := Lib.hid (timeEnough_b s A c J _ (HA.out.go hba))
  clear hba hbx
  cases ht : timeB (byL s) J
  · have Hn := Lib.hid (rateL_no ht)
    have Ht := Lib.hid ht
    clear ht
    go_enter Try.func25, Try.ntmps25
    go_wp2_with fail
    refine Htime.out.mono ?_
    rintro e w1 ⟨rfl, hb1⟩
    rw [Ht.out]
    have Hb1 := Lib.hid (below_step Hba.out hb1)
    clear hb1
    go_wp2
    go_ret2
    rw [Hn.out]
    exact RetS.nil (f := fun v => .tuple #[v, .bool false]) Hb1.out
  obtain ⟨_, hJ, _⟩ := timeB_true.1 ht
  have hj6 := (jbB_true.1 hJ).1
  have Hy := Lib.hid (rateL_yes ht)
  have Ht := Lib.hid ht
  have HJ := Lib.hid hJ
  clear ht hJ
  go_enter Try.func25, Try.ntmps25
  go_wp2_with fail
  refine Htime.out.mono ?_
  rintro e w1 ⟨rfl, hb1⟩
  rw [Ht.out]
  have hx1 : Boxed w1 w.heap.size 28 (.slice A J.length c) := (hb1.block _ Hbx.out.lt).trans Hbx.out
  have e1 := hx1.cell
  have Hx1 := Lib.hid hx1
  have Hb1 := Lib.hid (below_step Hba.out hb1)
  have hw1 : w.heap.size < w1.heap.size := hx1.lt
  clear hb1 hx1
  go_wp2_with fail
  refine (firstPlan_c J.length hj6 w1).mono ?_
  rintro e w2 ⟨b, rfl, hbw, hp2, hb2⟩
  have hx2 : Boxed w2 w.heap.size 28 (.slice A J.length c) := (hb2.block _ Hx1.out.lt).trans Hx1.out
  have Hx2 := Lib.hid hx2
  have Hb2 := Lib.hid (below_step Hb1.out hb2)
  have Hs := Lib.hid (sortStable_c b w.heap.size A c J HJ.out w2 hp2 hx2 (by omega) (fun W' h => HA.out.go (Hb2.out.trans (h.below (B := w.heap.size) (fun x hx => by omega) Hb2.out.size))))
  have e2 := hx2.cell
  clear hp2 hx2 hb2
  go_wp2_with fail
  refine Hs.out.mono ?_
  rintro e w3 ⟨⟨v3, rfl⟩, hp3, hk3⟩
  have Hb3 := Lib.hid (Hb2.out.trans (hk3.below (B := w.heap.size) (fun x hx => by omega) Hb2.out.size))
  have hll := rateT_len J J.length
  have hown := own_plan (lo := w.heap.size) hp3 (by omega) (by omega)
  have Hown := Lib.hid hown
  clear hown hp3 hk3
  go_wp2
  go_ret2
  rw [Hy.out]
  have h9 := RetS.mk (f := fun v => .tuple #[v, .bool true]) (zs := rateT J J.length) (by omega) Hown.out Hb3.out
  rw [hll] at h9
  exact h9

end Go.Proofs.Ytbcgglkgdjafiaa
