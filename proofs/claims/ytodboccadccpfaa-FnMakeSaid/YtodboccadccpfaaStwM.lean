/-
  TanksLeast and StowageMake of the program.
-/
import Derived.Test.YtodboccadccpfaaStwI
namespace Go.Proofs.Ytodboccadccpfaa
open Go.RowKit

/-- it can be stowed -/
def mkB (L : List Int) : Bool := ordB L && decide (cntN L ≤ 5)
def mkL (L : List Int) : List Int := if mkB L then stT L L.length else []
theorem mk_no {L : List Int} (h : ordB L = false) : mkB L = false ∧ mkL L = [] := by unfold mkL mkB; rw [h]; exact ⟨rfl, rfl⟩
theorem mk_many {L : List Int} (h : ¬ cntN L ≤ 5) : mkB L = false ∧ mkL L = [] := by unfold mkL mkB; rw [decide_eq_false h]; simp
theorem mk_yes {L : List Int} (h : ordB L = true) (h2 : cntN L ≤ 5) : mkB L = true ∧ mkL L = stT L L.length := by unfold mkL mkB; rw [h, decide_eq_true h2]; exact ⟨rfl, rfl⟩
theorem lst_no {L : List Int} (h : ordB L = false) : lstI L = -1 := by unfold lstI; rw [h]; rfl
theorem lst_yes {L : List Int} (h : ordB L = true) : lstI L = cntN L := by unfold lstI; rw [h]; rfl
/-- a new slice that was made behind another step -/
theorem RetS.behind {t : TypeId} {f : Value → Value} {zs : List Int} {w w1 w2 : World} {A : Option Addr} {c : Nat} (hb : Below w.heap.size w w1) (ha : Arg w2 A c zs) (ho : Ow t w1.heap.size w2.heap.size w2 (.slice A zs.length c) zs) (hb2 : Below w1.heap.size w1 w2) :
    RetS t f zs w (.returned (f (.slice A zs.length c))) w2 := ⟨A, c, rfl, ha, ho.more hb.size (Nat.le_refl _), below_step hb hb2⟩

set_option maxRecDepth 100000 in
set_option maxHeartbeats 1000000 in
theorem implTanksLeast_b (A0 : Option Addr) (c0 : Nat) (z0 : List Int) (w : World) (h0 : Arg w A0 c0 z0) :
    Calls Try.prog 49 #[.slice A0 z0.length c0] w (RetB (.int .i64 (lstI z0)) w) := by
  have hl0 := h0.len
  have H0 := Lib.hid h0
  clear h0
  go_enter Try.func49, Try.ntmps49
  go_wp2_with fail
  refine (implOrdersValid_b A0 c0 z0 _ H0.out).mono ?_
  rintro e w1 ⟨rfl, hb1⟩
  have Hb1 := Lib.hid hb1
  replace H0 := Lib.hid (H0.out.go hb1)
  clear hb1
  cases hv : ordB z0
  · have Hn := Lib.hid (lst_no hv)
    clear hv
    go_wp2
    go_ret
    exact ⟨by rw [Hn.out]; rfl, Hb1.out⟩
  have Hn := Lib.hid (lst_yes hv)
  have Hv := Lib.hid hv
  clear hv
  go_wp2_with fail
  refine (stowFirst_b A0 c0 z0 _ H0.out Hv.out).mono ?_
  rintro e w2 ⟨B, d, rfl, ha2, ho2, hb2⟩
  have Hb2 := Lib.hid hb2
  dsimp only
  clear ha2 ho2 hb2
  go_wp2
  go_ret
  exact ⟨by rw [Hn.out]; rfl, below_step Hb1.out Hb2.out⟩

set_option maxRecDepth 100000 in
set_option maxHeartbeats 1000000 in
theorem implStowageMake_b (A0 : Option Addr) (c0 : Nat) (z0 : List Int) (w : World) (h0 : Arg w A0 c0 z0) :
    Calls Try.prog 46 #[.slice A0 z0.length c0] w (RetS 3 (fun v => .tuple #[v, .bool (mkB z0)]) (mkL z0) w) := by
  have hl0 := h0.len
  have H0 := Lib.hid h0
  clear h0
  go_enter Try.func46, Try.ntmps46
  go_wp2_with fail
  refine (implOrdersValid_b A0 c0 z0 _ H0.out).mono ?_
  rintro e w1 ⟨rfl, hb1⟩
  have Hb1 := Lib.hid hb1
  replace H0 := Lib.hid (H0.out.go hb1)
  clear hb1
  cases hv : ordB z0
  · have Hm := Lib.hid (mk_no hv)
    clear hv
    go_wp2
    go_ret2
    rw [Hm.out.1, Hm.out.2]
    exact RetS.nil (f := fun v => .tuple #[v, .bool false]) Hb1.out
  have Hv := Lib.hid hv
  clear hv
  go_wp2_with fail
  refine (stowFirst_b A0 c0 z0 _ H0.out Hv.out).mono ?_
  rintro e w2 ⟨B, d, rfl, ha2, ho2, hb2⟩
  dsimp only
  have Ha2 := Lib.hid ha2
  have Ho2 := Lib.hid ho2
  have Hb2 := Lib.hid hb2
  have Hyes := Lib.hid (mk_yes Hv.out)
  have Hmany := Lib.hid (mk_many (L := z0))
  clear ha2 ho2 hb2
  obtain ⟨q, hq⟩ : ∃ q, stT z0 z0.length = q := ⟨_, rfl⟩
  obtain ⟨u, hu⟩ : ∃ u, cntN z0 = u := ⟨_, rfl⟩
  rw [hq] at Ha2 Ho2 Hyes ⊢
  rw [hu] at Hyes Hmany ⊢
  clear hq hu
  by_cases h5 : u ≤ 5
  · have Hm := Lib.hid (Hyes.out h5)
    have g5 : ¬ (5 : Int) < (u : Int) := by omega
    clear h5
    go_wp2
    go_ret2
    rw [Hm.out.1, Hm.out.2]
    exact RetS.behind (f := fun v => .tuple #[v, .bool true]) Hb1.out Ha2.out Ho2.out Hb2.out
  · have Hm := Lib.hid (Hmany.out h5)
    have g5 : (5 : Int) < (u : Int) := by omega
    clear h5 Ha2 Ho2
    go_wp2
    go_ret2
    rw [Hm.out.1, Hm.out.2]
    exact RetS.nil (f := fun v => .tuple #[v, .bool false]) (below_step Hb1.out Hb2.out)

end Go.Proofs.Ytodboccadccpfaa
