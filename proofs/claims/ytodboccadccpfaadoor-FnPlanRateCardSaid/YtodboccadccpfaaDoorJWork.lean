/-
  The drawn repairs: l92Jobs. / Drawn work: l6Many, l92Work; DrawPlanBest.
-/
import Derived.Test.YtodboccadccpfaaDoorL6Many
import Derived.Test.YtodboccadccpfaaDoorOpen
import Derived.Test.YtodboccadccpfaaDoorMemJ
import Derived.Test.YtodboccadccpfaaDoorBaseJD
import Derived.Deep.QuietTactic
import Derived.OwnWalk
import Derived.Test.YtodboccadccpfaaDoorApI0
import Derived.Laws.AppendOwn
import Derived.Test.YtodboccadccpfaaDoorWDraw
import Derived.Test.YtodboccadccpfaaDoorJbV
namespace Go.Proofs.YtodboccadccpfaaDoor
open Go.RowKit

/-- WHAT DRAWN REPAIRS ARE: some list of at most m in new memory; the reader some places further; nothing else. -/
def RetJbs (m R : Nat) (A : Option Addr) (n c p : Nat) (w : World) (e : Ending) (w' : World) : Prop :=
  ∃ B d zs q, e = .returned (.slice B (zs : List Jbs).length d) ∧ zs.length ≤ m ∧ ArgJ w' B d zs ∧ OwJ 38 w.heap.size w'.heap.size w' (.slice B zs.length d) zs ∧ Reader w' R A n c q ∧ q ≤ p + 100 ∧ w.grownBy w' (some R)
theorem RetJbs.mk {m R : Nat} {A : Option Addr} {n c p q : Nat} {w w' : World} {v : Value} {zs : List Jbs} (hm : m ≤ 6) (hl : zs.length ≤ m) (ho : w'.ownsRow w.heap.size 38 2 v zs.length (jbsCells zs)) (hr : Reader w' R A n c q) (hq : q ≤ p + 100) (hg : w.grownBy w' (some R)) :
    RetJbs m R A n c p w (.returned v) w' := by
  have h : OwJ 38 w.heap.size w'.heap.size w' v zs := OwJ.of_own ho
  obtain ⟨B, d, rfl, _, _, _⟩ := h.form
  exact ⟨B, d, zs, q, rfl, hl, h.arg (by omega) (Nat.le_refl _), h, hr, hq, hg⟩
theorem own_ptrJ {W : World} {base n k : Nat} {e : TypeId} {v : Value} {xs : List Value} (h : W.ownsRow base e 2 v n xs) (hn : n = k + 1) : ∃ g cap, v = .slice (some ⟨g, 0, none⟩) n cap ∧ n ≤ cap := by
  rcases h.2 with ⟨_, h0⟩ | ⟨g, cap, cur, h1, _, _, h2, _⟩
  · omega
  · exact ⟨g, cap, h1, h2⟩
theorem own_kept_J {w w' : World} {R base : Nat} {e : TypeId} {n : Nat} {v : Value} {xs : List Value} (h : w.ownsRow base e 2 v n xs) (hg : w.grownBy w' (some R)) (hR : R < base) : w'.ownsRow base e 2 v n xs := by
  refine h.kept hg ?_
  cases hb : v.ownBlock with
  | none => exact .inl rfl
  | some g => exact .inr fun e => by have := (h.lt g hb).1; simp at e; omega

set_option maxRecDepth 100000 in
set_option maxHeartbeats 4000000 in
theorem l92Jobs_c (R : Nat) (A : Option Addr) (n c p : Nat) (m : Nat) (w : World) (h : Reader w R A n c p) (hRw : R < w.heap.size) (hp : p ≤ 50000) (hm1 : m ≤ 6) :
    Calls Tryd.prog 46 #[.pointer (some ⟨R, 0, none⟩), .int .i64 m] w (RetJbs m R A n c p w) := by
  obtain ⟨i0, hi, hz0, hz1, hz2⟩ := info_parts jbsInfo
  have hg0 : w.grownBy (w.alloc (.cells #[] 38)) (some R) := grown_alloc (World.grownBy.refl w _) _
  have H0 := Lib.hid (h.kept (World.grownBy_alloc w (.cells #[] 38) none) (by simp))
  have hown0 : (w.alloc (.cells #[] 38)).ownsRow w.heap.size 38 2 (.slice (some ⟨w.heap.size, 0, none⟩) 0 0) 0 [] := World.ownsRow_made w #[] 0 (Nat.le_refl _) (by simp) rfl
  have Hown0 := Lib.hid hown0
  have Hg0 := Lib.hid hg0
  clear h hown0 hg0
  go_enter Tryd.func46, Tryd.ntmps46
  go_wp2_with fail
  refine (pick_c R A n c p ((m : Int) + 1) _ H0.out (by omega) (by omega) (by omega)).mono ?_
  rintro e w1 ⟨k1, rfl, k10, k11, hr1, hg1⟩
  have H1 := Lib.hid hr1
  have Hg1 := Lib.hid (grown_then Hg0.out hg1)
  have Hown1 := Lib.hid (own_kept_J Hown0.out hg1 hRw)
  clear hr1 hg1 H0 Hg0 Hown0
  obtain ⟨N, rfl⟩ := Int.eq_ofNat_of_zero_le k10
  go_wp2
  go_loopw [5, 7] (fun o i wr => ∃ (k : Nat) (v : Value) (ds : List Jbs), k ≤ N ∧ i = .int .i64 k ∧ v = o ∧ ds.length = k ∧ wr.ownsRow w.heap.size 38 2 v k (jbsCells ds) ∧ Reader wr R A n c (p + 1 + 2 * k) ∧ w.grownBy wr (some R)) (fun _ i _ => N - (intOf i).toNat)
  case atStart => exact ⟨0, _, [], by omega, rfl, rfl, rfl, Hown1.out, H1.out, Hg1.out⟩
  case round =>
    obtain ⟨k, v, ds, hk, rfl, rfl, hdl, hok, hrd, hgk⟩ := hrel
    have Hrd := Lib.hid hrd
    have Hgk := Lib.hid hgk
    have hszk := hgk.size
    have Hdl := Lib.hid hdl
    have Hok := Lib.hid hok
    clear hrd hgk hdl hok H1 Hg1 Hown1
    obtain hlt | hge := Nat.lt_or_ge k N
    · have g1 : (k : Int) < (N : Int) := by omega
      go_wp2_with fail
      refine (pick_c R A n c (p + 1 + 2 * k) 4 _ Hrd.out (by omega) (by omega) (by omega)).mono ?_
      rintro e w2 ⟨a1, rfl, a10, a11, hr2, hg2⟩
      have H2 := Lib.hid hr2
      have Hg2 := Lib.hid (grown_then Hgk.out hg2)
      have Hok2 := Lib.hid (own_kept_J Hok.out hg2 hRw)
      clear hr2 hg2 Hrd Hgk Hok
      go_wp2_with fail
      refine (pick_c R A n c (p + 1 + 2 * k + 1) 5 _ H2.out (by omega) (by omega) (by omega)).mono ?_
      rintro e w3 ⟨a2, rfl, a20, a21, hr3, hg3⟩
      have H3 := Lib.hid hr3
      have Hg3 := Lib.hid (grown_then Hg2.out hg3)
      have hok := own_kept_J Hok2.out hg3 hRw
      have hsz3 := Hg3.out.size
      clear hr3 hg3 H2 Hg2 Hok2
      go_wp2_with (at_builtin; refine wpList_append_own _ rfl _ _ 23 rfl w.heap.size 38 i0 _ 2 16 Tryd.underlying23 hi hz0 hz1 hz2 rfl (by decide) v k _ rfl (hok.alloc _) ⟨w3.heap.size, 0, none⟩ 1 1 (jbsCell ⟨1 + a1, 1 + a2⟩) rfl rfl (jbsCell_new _ ⟨1 + a1, 1 + a2⟩ _) (jbsCell_one _) (by unfold maxLen; omega) (by omega) (by simp; omega) ?_; intro v' w5 hown5 hg5 _)
      have hga : w3.grownBy w5 v.ownBlock := grown_then (grown_alloc (World.grownBy.refl w3 _) _) hg5
      have H5 := Lib.hid (H3.out.kept hga (fun r e => by have := (hok.lt r e).1; omega))
      have Hg5 := Lib.hid (grown_new Hg3.out hga (fun r e => (hok.lt r e).1))
      have Hown5 := Lib.hid hown5
      clear hok hga hg5 hown5 H3 Hg3
      go_roundw
      case rel => exact ⟨k + 1, v', ds ++ [⟨1 + a1, 1 + a2⟩], by omega, by go_num, rfl, by simp [Hdl.out], by rw [jbsCells_snoc]; exact Hown5.out, H5.out, Hg5.out⟩
      case measure => simp [intOf]; omega
    · obtain rfl : k = N := by omega
      by_cases hk0 : 0 < k
      · have g1 : (0 : Int) < (k : Int) := by omega
        obtain ⟨g, cap, rfl, hcap⟩ := own_ptrJ (k := k - 1) Hok.out (by omega)
        have hgl := Hok.out.lt g rfl
        go_wp2_with fail
        refine (pick_c R A n c (p + 1 + 2 * k) 40 _ Hrd.out (by omega) (by omega) (by omega)).mono ?_
        rintro e w3 ⟨k3, rfl, k30, k31, hr3, hg3⟩
        have hsz3 := hg3.size
        have H3 := Lib.hid hr3
        have Hg3 := Lib.hid (grown_then Hgk.out hg3)
        have Hok3 := Lib.hid (own_kept_J Hok.out hg3 hRw)
        clear hr3 hg3 Hrd Hgk Hok
        obtain ⟨z, zs, rfl⟩ : ∃ z zs, ds = z :: zs := by
          have := Hdl.out
          cases ds with
          | nil => simp at this; omega
          | cons z zs => exact ⟨z, zs, rfl⟩
        have Hzl := Lib.hid (show zs.length + 1 = k from Hdl.out)
        obtain rfl | hk30 := Classical.em (k3 = 0)
        · go_wp2_with fail
          have hga3 : w3.grownBy (w3.alloc (.cells #[.int .i64 0, .int .i64 10] 3)) (some R) := grown_alloc (World.grownBy.refl w3 _) _
          refine (pick_c R A n c (p + 1 + 2 * k + 1) 2 _ (H3.out.kept (grown_alloc (World.grownBy.refl w3 none) _) (by simp)) (by omega) (by omega) (by omega)).mono ?_
          rintro e w4 ⟨k4, rfl, k40, k41, hr4, hg4⟩
          have hrow := (hg4.block w3.heap.size (by simp) (by simp; omega)).trans (heap_alloc_new w3 _)
          have hc0 := cell_of_row _ _ 0 _ _ _ hrow
          have hc1 := cell_of_row _ _ 1 _ _ _ hrow
          have hga4 := grown_then hga3 hg4
          have hok4 := own_kept_J Hok3.out hga4 hRw
          have hst := fun y : Int => hok4.stored 0 (.int .i64 y)
          have hck := hok4.cellAt 0 (by omega)
          have hfk := hok4.frozenAt 0
          rw [jbsCells_cons] at hck
          simp at hc0 hc1 hck
          have Hst := Lib.hid hst
          have Hr4 := Lib.hid hr4
          have Hg4 := Lib.hid (grown_then Hg3.out hga4)
          have Hrow := Lib.hid hrow
          clear hst hr4 hga3 hga4 hg4 hok4 hrow Hg3 H3 Hok3
          obtain rfl | rfl : k4 = 0 ∨ k4 = 1 := by omega
          · go_wp2
            go_ret
            exact RetJbs.mk (m := m) (zs := ⟨0, z.g⟩ :: zs) hm1 (by rw [List.length_cons, Hzl.out]; omega) (by have := (Hst.out (0)).1; rw [List.length_cons, Hzl.out]; exact this) (Hr4.out.kept (Hst.out (0)).2 (by simp; omega)) (by omega) (grown_new Hg4.out (Hst.out (0)).2 (by simp; omega))
          · go_wp2
            go_ret
            exact RetJbs.mk (m := m) (zs := ⟨10, z.g⟩ :: zs) hm1 (by rw [List.length_cons, Hzl.out]; omega) (by have := (Hst.out (10)).1; rw [List.length_cons, Hzl.out]; exact this) (Hr4.out.kept (Hst.out (10)).2 (by simp; omega)) (by omega) (grown_new Hg4.out (Hst.out (10)).2 (by simp; omega))
        have b0 : (k3 == 0) = false := by simpa using hk30
        obtain rfl | hk31 := Classical.em (k3 = 1)
        · go_wp2_with fail
          have hga3 : w3.grownBy (w3.alloc (.cells #[.int .i64 0, .int .i64 10] 3)) (some R) := grown_alloc (World.grownBy.refl w3 _) _
          refine (pick_c R A n c (p + 1 + 2 * k + 1) 2 _ (H3.out.kept (grown_alloc (World.grownBy.refl w3 none) _) (by simp)) (by omega) (by omega) (by omega)).mono ?_
          rintro e w4 ⟨k4, rfl, k40, k41, hr4, hg4⟩
          have hrow := (hg4.block w3.heap.size (by simp) (by simp; omega)).trans (heap_alloc_new w3 _)
          have hc0 := cell_of_row _ _ 0 _ _ _ hrow
          have hc1 := cell_of_row _ _ 1 _ _ _ hrow
          have hga4 := grown_then hga3 hg4
          have hok4 := own_kept_J Hok3.out hga4 hRw
          have hst := fun y : Int => hok4.stored 1 (.int .i64 y)
          have hck := hok4.cellAt 1 (by omega)
          have hfk := hok4.frozenAt 1
          rw [jbsCells_cons] at hck
          simp at hc0 hc1 hck
          have Hst := Lib.hid hst
          have Hr4 := Lib.hid hr4
          have Hg4 := Lib.hid (grown_then Hg3.out hga4)
          have Hrow := Lib.hid hrow
          clear hst hr4 hga3 hga4 hg4 hok4 hrow Hg3 H3 Hok3
          obtain rfl | rfl : k4 = 0 ∨ k4 = 1 := by omega
          · go_wp2
            go_ret
            exact RetJbs.mk (m := m) (zs := ⟨z.d, 0⟩ :: zs) hm1 (by rw [List.length_cons, Hzl.out]; omega) (by have := (Hst.out (0)).1; rw [List.length_cons, Hzl.out]; exact this) (Hr4.out.kept (Hst.out (0)).2 (by simp; omega)) (by omega) (grown_new Hg4.out (Hst.out (0)).2 (by simp; omega))
          · go_wp2
            go_ret
            exact RetJbs.mk (m := m) (zs := ⟨z.d, 10⟩ :: zs) hm1 (by rw [List.length_cons, Hzl.out]; omega) (by have := (Hst.out (10)).1; rw [List.length_cons, Hzl.out]; exact this) (Hr4.out.kept (Hst.out (10)).2 (by simp; omega)) (by omega) (grown_new Hg4.out (Hst.out (10)).2 (by simp; omega))
        have b1 : (k3 == 1) = false := by simpa using hk31
        go_wp2
        go_ret
        exact RetJbs.mk (m := m) (zs := z :: zs) hm1 (by rw [List.length_cons, Hzl.out]; omega) (by rw [List.length_cons, Hzl.out]; exact Hok3.out) H3.out (by omega) Hg3.out
      · obtain rfl : k = 0 := by omega
        have hd0 := List.eq_nil_of_length_eq_zero Hdl.out
        subst hd0
        have Hfin := Lib.hid (RetJbs.mk (m := m) (zs := []) (p := p) hm1 (by simp) Hok.out Hrd.out (by omega) Hgk.out)
        clear Hok Hrd Hgk
        go_wp2
        go_ret
        exact Hfin.out
end Go.Proofs.YtodboccadccpfaaDoor

namespace Go.Proofs.YtodboccadccpfaaDoor
open Go.RowKit

/-- what drawn work is -/
def RetWork (R : Nat) (A : Option Addr) (n c p : Nat) (w : World) (e : Ending) (w' : World) : Prop :=
  ∃ (s : ByteArray) (B : Option Addr) (d : Nat) (J : List Jbs) (q : Nat), e = .returned (.tuple #[.string s, .slice B J.length d]) ∧ s.size ≤ 63 ∧ J.length ≤ 4 ∧ OwJ 38 w.heap.size w'.heap.size w' (.slice B J.length d) J ∧ Reader w' R A n c q ∧ q ≤ p + 300 ∧ w.grownBy w' (some R)
set_option maxRecDepth 100000 in
set_option maxHeartbeats 2000000 in
theorem l92Work_c (R : Nat) (A : Option Addr) (n c p : Nat) (w : World) (h : Reader w R A n c p) (hRw : R < w.heap.size) (hp : p ≤ 10000) :
    Calls Tryd.prog 40 #[.pointer (some ⟨R, 0, none⟩)] w (RetWork R A n c p w) := by
  have H := Lib.hid h
  clear h
  go_enter Tryd.func40, Tryd.ntmps40
  go_wp2_with fail
  refine (l92Jobs_c R A n c p 4 _ H.out hRw (by omega) (by omega)).mono ?_
  rintro e w1 ⟨B, d, J, q, rfl, hJl, hA1, hO1, hr1, hq1, hg1⟩
  have Hr1 := Lib.hid hr1
  have Hg1 := Lib.hid hg1
  have HO1 := Lib.hid hO1
  have hR1 := Nat.lt_of_lt_of_le hRw hg1.size
  clear hr1 hg1 hA1 hO1
  go_wp2_with fail
  refine (l92Forecast_c R A n c q 8 _ Hr1.out hR1 (by omega) (by omega)).mono ?_
  rintro e w2 ⟨s, q2, rfl, hs, hr2, hq2, hg2⟩
  have Hr2 := Lib.hid hr2
  have Hg2 := Lib.hid (grown_then Hg1.out hg2)
  have hO2 := HO1.out.kept hg2 (fun r e => by injection e with e; omega)
  have HO2 := Lib.hid (OwJ.more hO2 (Nat.le_refl _) hg2.size)
  clear hr2 hg2 hO2
  go_wp2_with fail
  refine (pick_c R A n c q2 6 _ Hr2.out (by omega) (by omega) (by omega)).mono ?_
  rintro e w3 ⟨k, rfl, hk0, hk1, hr3, hg3⟩
  have Hr3 := Lib.hid hr3
  have Hg3 := Lib.hid (grown_then Hg2.out hg3)
  have hO3 := HO2.out.kept hg3 (fun r e => by injection e with e; omega)
  have HO3 := Lib.hid (OwJ.more hO3 (Nat.le_refl _) hg3.size)
  have hA3 := HO3.out.arg (by omega) (Nat.le_refl _)
  clear hr3 hg3 hO3
  by_cases hkz : 0 < k
  · have Hd := Lib.hid (specJobsDays_b B d J w3 hA3)
    have hdb : -1 ≤ daysV J ∧ daysV J ≤ 54 := by
      unfold daysV
      split
      · rename_i h; have := daysJ_bd h; omega
      · omega
    obtain ⟨D, hD⟩ : ∃ D, daysV J = D := ⟨_, rfl⟩
    rw [hD] at Hd hdb
    clear hD hA3
    go_wp2_with fail
    refine Hd.out.mono ?_
    rintro e w4 ⟨rfl, hb4⟩
    have Hb4 := Lib.hid hb4
    clear hb4 Hd
    have c1 : (s.size : Int) ≤ 8388608 := by omega
    go_wp2_with fail
    all_goals
      refine (many_any _ (by omega) (by omega) _).mono ?_
      rintro e w5 ⟨⟨t, rfl, ht⟩, rfl⟩
      have c2 : (t.size : Int) ≤ 8388608 := by omega
      have c3 : ¬ 9223372036854775807 < s.size + t.size := by omega
      have Hst := Lib.hid (show (s ++ t).size ≤ 63 by rw [ByteArray.size_append]; omega)
      clear ht
      go_wp2
      go_ret2
      exact ⟨s ++ t, B, d, J, _, rfl, Hst.out, hJl, OwJ.more (HO3.out.below Hb4.out (Nat.le_refl _)) (Nat.le_refl _) Hb4.out.size, Hr3.out.kept (grown_of_below Hb4.out none) (by simp), by omega, grown_belowW Hg3.out Hb4.out⟩
  · go_wp2
    go_ret2
    exact ⟨s, B, d, J, _, rfl, by omega, hJl, HO3.out, Hr3.out, by omega, Hg3.out⟩

end Go.Proofs.YtodboccadccpfaaDoor
