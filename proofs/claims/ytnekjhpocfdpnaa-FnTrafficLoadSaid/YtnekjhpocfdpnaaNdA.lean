/-
  The drawn nets: l92Net. (Written by a program of mine, gen7d.py.)
-/
import Derived.Test.YtnekjhpocfdpnaaOpen
import Derived.Test.YtnekjhpocfdpnaaAppL
import Derived.Laws.AppendOwn
namespace Go.Proofs.Ytnekjhpocfdpnaa
open Go.RowKit

/-- WHAT A DRAWN NET IS: a number of stations, some list of at most seven lines in new memory; the reader some places further; nothing else. -/
def RetNet (R : Nat) (A : Option Addr) (n c p : Nat) (w : World) (e : Ending) (w' : World) : Prop :=
  ∃ (m : Nat), ∃ B d zs q, e = .returned (.tuple #[.int .i64 (m : Int), .slice B (zs : List Lin).length d]) ∧ 2 ≤ m ∧ m ≤ 5 ∧ zs.length ≤ 7 ∧ OwL 31 w.heap.size w'.heap.size w' (.slice B zs.length d) zs ∧ Reader w' R A n c q ∧ q ≤ p + 100 ∧ w.grownBy w' (some R)
theorem RetNet.mk {R : Nat} {A : Option Addr} {n c p q m : Nat} {w w' : World} {v : Value} {zs : List Lin} (hm : 2 ≤ m ∧ m ≤ 5) (hl : zs.length ≤ 7) (ho : w'.ownsRow w.heap.size 31 3 v zs.length (linCells zs)) (hr : Reader w' R A n c q) (hq : q ≤ p + 100) (hg : w.grownBy w' (some R)) :
    RetNet R A n c p w (.returned (.tuple #[.int .i64 (m : Int), v])) w' := by
  have h : OwL 31 w.heap.size w'.heap.size w' v zs := OwL.of_own ho
  obtain ⟨B, d, rfl, _, _, _⟩ := h.form
  exact ⟨m, B, d, zs, q, rfl, hm.1, hm.2, hl, h, hr, hq, hg⟩
theorem own_ptrR {W : World} {base n k size : Nat} {e : TypeId} {v : Value} {xs : List Value} (h : W.ownsRow base e size v n xs) (hn : n = k + 1) : ∃ g cap, v = .slice (some ⟨g, 0, none⟩) n cap ∧ n ≤ cap := by
  rcases h.2 with ⟨_, h0⟩ | ⟨g, cap, cur, h1, _, _, h2, _⟩
  · omega
  · exact ⟨g, cap, h1, h2⟩
theorem own_keptR {w w' : World} {R base size : Nat} {e : TypeId} {n : Nat} {v : Value} {xs : List Value} (h : w.ownsRow base e size v n xs) (hg : w.grownBy w' (some R)) (hR : R < base) : w'.ownsRow base e size v n xs := by
  refine h.kept hg ?_
  cases hb : v.ownBlock with
  | none => exact .inl rfl
  | some g => exact .inr fun e => by have := (h.lt g hb).1; simp at e; omega
theorem rem_pick {a m : Int} (h0 : 0 ≤ a) (hm : 1 ≤ m) : ∃ r : Int, a.tmod m = r ∧ 0 ≤ r ∧ r < m := ⟨_, rfl, by rw [Int.tmod_eq_emod_of_nonneg h0]; exact Int.emod_nonneg _ (by omega), by rw [Int.tmod_eq_emod_of_nonneg h0]; exact Int.emod_lt_of_pos _ (by omega)⟩

set_option maxRecDepth 100000 in
set_option maxHeartbeats 8000000 in
theorem l92Net_c (R : Nat) (A : Option Addr) (n c p : Nat) (w : World) (h : Reader w R A n c p) (hRw : R < w.heap.size) (hp : p ≤ 50000) :
    Calls Try.prog 47 #[.pointer (some ⟨R, 0, none⟩)] w (RetNet R A n c p w) := by
  obtain ⟨i0, hi, hz0, hz1, hz2⟩ := info_parts linInf
  have H0 := Lib.hid h
  clear h
  go_enter Try.func47, Try.ntmps47
  go_wp2_with fail
  refine (pick_c R A n c p 4 _ H0.out (by omega) (by omega) (by omega)).mono ?_
  rintro e w1 ⟨k1, rfl, k10, k11, hr1, hg1⟩
  obtain ⟨m, hm⟩ : ∃ m : Nat, 2 + k1 = (m : Int) := ⟨(2 + k1).toNat, by omega⟩
  have hm2 : 2 ≤ m := by omega
  have hm5 : m ≤ 5 := by omega
  have hs1 := hg1.size
  have Ho1 : Hid ((w1.alloc (.cells #[] 31)).ownsRow w.heap.size 31 3 (.slice (some ⟨w1.heap.size, 0, none⟩) 0 0) 0 []) := Lib.hid (OwnsRow.more (World.ownsRow_made w1 #[] 0 (Nat.le_refl _) (by simp) rfl) hs1)
  have H1 := Lib.hid (hr1.kept (World.grownBy_alloc w1 (.cells #[] 31) none) (by simp))
  have Hg1 := Lib.hid (grown_alloc hg1 (.cells #[] 31))
  clear hr1 hg1 H0
  have q1 : IntKind.i64.wrap (2 + k1) = 2 + k1 := IntWalk.i64_in _ (by omega)
  go_wp2_with fail
  refine (pick_c R A n c (p + 1) 8 _ H1.out (by omega) (by omega) (by omega)).mono ?_
  rintro e w2 ⟨k2, rfl, k20, k21, hr2, hg2⟩
  have H2 := Lib.hid hr2
  have Hg2 := Lib.hid (grown_then Hg1.out hg2)
  have Ho2 := Lib.hid (own_keptR Ho1.out hg2 hRw)
  clear hr2 hg2 H1 Hg1 Ho1
  obtain ⟨N, rfl⟩ := Int.eq_ofNat_of_zero_le k20
  clear hm q1 k10 k11
  have m1 : ((m : Int) == 0) = false := by rw [beq_eq_false_iff_ne]; omega
  have m2 : ¬ (m : Int) = 0 := by omega
  have q2 : IntKind.i64.wrap ((m : Int) - 1) = (m : Int) - 1 := IntWalk.i64_in _ (by omega)
  go_wp2
  go_loopw [5, 7] (fun o i wr => ∃ (k : Nat) (v : Value) (ds : List Lin) (q : Nat), k ≤ N ∧ i = .int .i64 k ∧ v = o ∧ ds.length = k ∧ wr.ownsRow w.heap.size 31 3 v k (linCells ds) ∧ Reader wr R A n c q ∧ q ≤ p + 2 + 5 * k ∧ w.grownBy wr (some R)) (fun _ i _ => N - (intOf i).toNat)
  case atStart => exact ⟨0, _, [], p + 2, by omega, rfl, rfl, rfl, Ho2.out, H2.out, by omega, Hg2.out⟩
  case round =>
    obtain ⟨k, v, ds, q, hk, rfl, rfl, hdl, hok, hrd, hq, hgk⟩ := hrel
    have Hrd := Lib.hid hrd
    have Hgk := Lib.hid hgk
    have hszk := hgk.size
    have Hdl := Lib.hid hdl
    have Hok := Lib.hid hok
    clear hrd hgk hdl hok H2 Hg2 Ho2
    obtain hlt | hge := Nat.lt_or_ge k N
    · have g1 : (k : Int) < (N : Int) := by omega
      go_wp2_with fail
      refine (pick_c R A n c q (m : Int) _ Hrd.out (by omega) (by omega) (by omega)).mono ?_
      rintro e w3 ⟨a3, rfl, a30, a31, hr3, hg3⟩
      have H3 := Lib.hid hr3
      have Hg3 := Lib.hid (grown_then Hgk.out hg3)
      have Ho3 := Lib.hid (own_keptR Hok.out hg3 hRw)
      clear hr3 hg3 Hrd Hgk Hok
      go_wp2_with fail
      refine (pick_c R A n c (q + 1) ((m : Int) - 1) _ H3.out (by omega) (by omega) (by omega)).mono ?_
      rintro e w4 ⟨a4, rfl, a40, a41, hr4, hg4⟩
      have H4 := Lib.hid hr4
      have Hg4 := Lib.hid (grown_then Hg3.out hg4)
      have Ho4 := Lib.hid (own_keptR Ho3.out hg4 hRw)
      clear hr4 hg4 H3 Hg3 Ho3
      obtain ⟨rr, hrr, rr0, rr1⟩ := rem_pick (a := a3 + 1 + a4) (m := (m : Int)) (by omega) (by omega)
      by_cases hin : k + 1 < m
      · have g2 : (k : Int) + 1 < (m : Int) := by omega
        go_wp2_with fail
        refine (pick_c R A n c (q + 1 + 1) 3 _ H4.out (by omega) (by omega) (by omega)).mono ?_
        rintro e w5 ⟨a5, rfl, a50, a51, hr5, hg5⟩
        have H5 := Lib.hid hr5
        have Hg5 := Lib.hid (grown_then Hg4.out hg5)
        have Ho5 := Lib.hid (own_keptR Ho4.out hg5 hRw)
        clear hr5 hg5 H4 Hg4 Ho4
        by_cases h5 : 0 < a5
        · go_wp2_with fail
          refine (pick_c R A n c (q + 1 + 1 + 1) ((k : Int) + 1) _ H5.out (by omega) (by omega) (by omega)).mono ?_
          rintro e w6 ⟨a6, rfl, a60, a61, hr6, hg6⟩
          have H6 := Lib.hid hr6
          have Hg6 := Lib.hid (grown_then Hg5.out hg6)
          have Ho6 := Lib.hid (own_keptR Ho5.out hg6 hRw)
          clear hr6 hg6 H5 Hg5 Ho5
          have hsA := Hg6.out.size
          go_wp2_with fail
          refine (pick_c R A n c (q + 1 + 1 + 1 + 1) 4 _ H6.out (by omega) (by omega) (by omega)).mono ?_
          rintro e w7 ⟨a7, rfl, a70, a71, hr7, hg7⟩
          have H7 := Lib.hid hr7
          have Hg7 := Lib.hid (grown_then Hg6.out hg7)
          have hok := own_keptR Ho6.out hg7 hRw
          have hsz7 := Hg7.out.size
          clear hr7 hg7
          go_wp2_with (at_builtin; refine wpList_append_own _ rfl _ _ 23 rfl w.heap.size 31 i0 _ 3 24 Try.underlying23 hi hz0 hz1 hz2 rfl (by decide) v k _ rfl (hok.alloc _) ⟨w7.heap.size, 0, none⟩ 1 1 (linCell ⟨((k : Int) + 1), a6, 1 + a7⟩) rfl rfl (linCell_new _ ⟨((k : Int) + 1), a6, 1 + a7⟩ _) (linCell_one _) (by unfold maxLen; omega) (by omega) (by simp; omega) ?_; intro v' w8 hown8 hg8 _)
          have hga : w7.grownBy w8 v.ownBlock := grown_then (grown_alloc (World.grownBy.refl w7 _) _) hg8
          have H8 := Lib.hid (H7.out.kept hga (fun r e => by have := (hok.lt r e).1; omega))
          have Hg8 := Lib.hid (grown_new Hg7.out hga (fun r e => (hok.lt r e).1))
          have Hown8 := Lib.hid hown8
          clear hok hga hg8 hown8
          go_roundw
          case rel => exact ⟨k + 1, v', ds ++ [⟨((k : Int) + 1), a6, 1 + a7⟩], _, by omega, by go_num, rfl, by simp [Hdl.out], by rw [linCells_append]; exact Hown8.out, H8.out, by omega, Hg8.out⟩
          case measure => simp [intOf]; omega
        · skip
          have hsA := Hg5.out.size
          go_wp2_with fail
          refine (pick_c R A n c (q + 1 + 1 + 1) 4 _ H5.out (by omega) (by omega) (by omega)).mono ?_
          rintro e w7 ⟨a7, rfl, a70, a71, hr7, hg7⟩
          have H7 := Lib.hid hr7
          have Hg7 := Lib.hid (grown_then Hg5.out hg7)
          have hok := own_keptR Ho5.out hg7 hRw
          have hsz7 := Hg7.out.size
          clear hr7 hg7
          go_wp2_with (at_builtin; refine wpList_append_own _ rfl _ _ 23 rfl w.heap.size 31 i0 _ 3 24 Try.underlying23 hi hz0 hz1 hz2 rfl (by decide) v k _ rfl (hok.alloc _) ⟨w7.heap.size, 0, none⟩ 1 1 (linCell ⟨a3, rr, 1 + a7⟩) rfl rfl (linCell_new _ ⟨a3, rr, 1 + a7⟩ _) (linCell_one _) (by unfold maxLen; omega) (by omega) (by simp; omega) ?_; intro v' w8 hown8 hg8 _)
          have hga : w7.grownBy w8 v.ownBlock := grown_then (grown_alloc (World.grownBy.refl w7 _) _) hg8
          have H8 := Lib.hid (H7.out.kept hga (fun r e => by have := (hok.lt r e).1; omega))
          have Hg8 := Lib.hid (grown_new Hg7.out hga (fun r e => (hok.lt r e).1))
          have Hown8 := Lib.hid hown8
          clear hok hga hg8 hown8
          go_roundw
          case rel => exact ⟨k + 1, v', ds ++ [⟨a3, rr, 1 + a7⟩], _, by omega, by go_num, rfl, by simp [Hdl.out], by rw [linCells_append]; exact Hown8.out, H8.out, by omega, Hg8.out⟩
          case measure => simp [intOf]; omega
      · have g2 : ¬ (k : Int) + 1 < (m : Int) := by omega
        have hsA := Hg4.out.size
        go_wp2_with fail
        refine (pick_c R A n c (q + 1 + 1) 4 _ H4.out (by omega) (by omega) (by omega)).mono ?_
        rintro e w7 ⟨a7, rfl, a70, a71, hr7, hg7⟩
        have H7 := Lib.hid hr7
        have Hg7 := Lib.hid (grown_then Hg4.out hg7)
        have hok := own_keptR Ho4.out hg7 hRw
        have hsz7 := Hg7.out.size
        clear hr7 hg7
        go_wp2_with (at_builtin; refine wpList_append_own _ rfl _ _ 23 rfl w.heap.size 31 i0 _ 3 24 Try.underlying23 hi hz0 hz1 hz2 rfl (by decide) v k _ rfl (hok.alloc _) ⟨w7.heap.size, 0, none⟩ 1 1 (linCell ⟨a3, rr, 1 + a7⟩) rfl rfl (linCell_new _ ⟨a3, rr, 1 + a7⟩ _) (linCell_one _) (by unfold maxLen; omega) (by omega) (by simp; omega) ?_; intro v' w8 hown8 hg8 _)
        have hga : w7.grownBy w8 v.ownBlock := grown_then (grown_alloc (World.grownBy.refl w7 _) _) hg8
        have H8 := Lib.hid (H7.out.kept hga (fun r e => by have := (hok.lt r e).1; omega))
        have Hg8 := Lib.hid (grown_new Hg7.out hga (fun r e => (hok.lt r e).1))
        have Hown8 := Lib.hid hown8
        clear hok hga hg8 hown8
        go_roundw
        case rel => exact ⟨k + 1, v', ds ++ [⟨a3, rr, 1 + a7⟩], _, by omega, by go_num, rfl, by simp [Hdl.out], by rw [linCells_append]; exact Hown8.out, H8.out, by omega, Hg8.out⟩
        case measure => simp [intOf]; omega
    · obtain rfl : k = N := by omega
      by_cases hk0 : 0 < k
      · have g1 : (0 : Int) < (k : Int) := by omega
        obtain ⟨g, cap, rfl, hcap⟩ := own_ptrR (k := k - 1) Hok.out (by omega)
        have hgl := Hok.out.lt g rfl
        go_wp2_with fail
        refine (pick_c R A n c q 40 _ Hrd.out (by omega) (by omega) (by omega)).mono ?_
        rintro e w3 ⟨k3, rfl, k30, k31, hr3, hg3⟩
        have hsz3 := hg3.size
        have H3 := Lib.hid hr3
        have Hg3 := Lib.hid (grown_then Hgk.out hg3)
        have Hok3 := Lib.hid (own_keptR Hok.out hg3 hRw)
        clear hr3 hg3 Hrd Hgk Hok
        obtain ⟨z, zs, rfl⟩ : ∃ z zs, ds = z :: zs := by
          have := Hdl.out
          cases ds with
          | nil => simp at this; omega
          | cons z zs => exact ⟨z, zs, rfl⟩
        have Hzl := Lib.hid (show zs.length + 1 = k from Hdl.out)
        have hck := fun j (hj : j < 3) => Hok3.out.cellAt j (by omega)
        have hc0 := hck 0 (by omega)
        have hc1 := hck 1 (by omega)
        have hc2 := hck 2 (by omega)
        have hf0 := Hok3.out.frozenAt 0
        have hf1 := Hok3.out.frozenAt 1
        have hf2 := Hok3.out.frozenAt 2
        rw [linCells_cons] at hc0 hc1 hc2
        simp at hc0 hc1 hc2
        clear hck
        obtain rfl | hk30 := Classical.em (k3 = 0)
        · have hst := Hok3.out.stored 1 (.int .i64 z.a)
          have Hst := Lib.hid hst
          clear hst
          go_wp2
          go_ret2
          exact RetNet.mk (zs := ⟨z.a, z.a, z.c⟩ :: zs) ⟨hm2, hm5⟩ (by rw [List.length_cons, Hzl.out]; omega) (by have := Hst.out.1; rw [List.length_cons, Hzl.out]; exact this) (H3.out.kept Hst.out.2 (by simp; omega)) (by omega) (grown_new Hg3.out Hst.out.2 (by simp; omega))
        have b0 : (k3 == 0) = false := by simpa using hk30
        obtain rfl | hk31 := Classical.em (k3 = 1)
        · clear hc0 hc1 hc2 hf0 hf1 hf2
          go_wp2_with fail
          have hga3 : w3.grownBy (w3.alloc (.cells #[.int .i64 0, .int .i64 10] 3)) (some R) := grown_alloc (World.grownBy.refl w3 _) _
          refine (pick_c R A n c (q + 1) 2 _ (H3.out.kept (grown_alloc (World.grownBy.refl w3 none) _) (by simp)) (by omega) (by omega) (by omega)).mono ?_
          rintro e w4 ⟨k4, rfl, k40, k41, hr4, hg4⟩
          have hrow := (hg4.block w3.heap.size (by simp) (by simp; omega)).trans (heap_alloc_new w3 _)
          have hc0 := cell_of_row _ _ 0 _ _ _ hrow
          have hc1 := cell_of_row _ _ 1 _ _ _ hrow
          have hga4 := grown_then hga3 hg4
          have hok4 := own_keptR Hok3.out hga4 hRw
          have hst := fun y : Int => hok4.stored 2 (.int .i64 y)
          have hck := hok4.cellAt 2 (by omega)
          have hfk := hok4.frozenAt 2
          rw [linCells_cons] at hck
          simp at hc0 hc1 hck
          have Hst := Lib.hid hst
          have Hr4 := Lib.hid hr4
          have Hg4 := Lib.hid (grown_then Hg3.out hga4)
          have Hrow := Lib.hid hrow
          clear hst hr4 hga3 hga4 hg4 hok4 hrow Hg3 H3 Hok3
          obtain rfl | rfl : k4 = 0 ∨ k4 = 1 := by omega
          · go_wp2
            go_ret2
            exact RetNet.mk (zs := ⟨z.a, z.b, 0⟩ :: zs) ⟨hm2, hm5⟩ (by rw [List.length_cons, Hzl.out]; omega) (by have := (Hst.out (0)).1; rw [List.length_cons, Hzl.out]; exact this) (Hr4.out.kept (Hst.out (0)).2 (by simp; omega)) (by omega) (grown_new Hg4.out (Hst.out (0)).2 (by simp; omega))
          · go_wp2
            go_ret2
            exact RetNet.mk (zs := ⟨z.a, z.b, 10⟩ :: zs) ⟨hm2, hm5⟩ (by rw [List.length_cons, Hzl.out]; omega) (by have := (Hst.out (10)).1; rw [List.length_cons, Hzl.out]; exact this) (Hr4.out.kept (Hst.out (10)).2 (by simp; omega)) (by omega) (grown_new Hg4.out (Hst.out (10)).2 (by simp; omega))
        have b1 : (k3 == 1) = false := by simpa using hk31
        obtain rfl | hk32 := Classical.em (k3 = 2)
        · have hst := Hok3.out.stored 0 (.int .i64 (m : Int))
          have Hst := Lib.hid hst
          clear hst
          go_wp2
          go_ret2
          exact RetNet.mk (zs := ⟨(m : Int), z.b, z.c⟩ :: zs) ⟨hm2, hm5⟩ (by rw [List.length_cons, Hzl.out]; omega) (by have := Hst.out.1; rw [List.length_cons, Hzl.out]; exact this) (H3.out.kept Hst.out.2 (by simp; omega)) (by omega) (grown_new Hg3.out Hst.out.2 (by simp; omega))
        have b2 : (k3 == 2) = false := by simpa using hk32
        go_wp2
        go_ret2
        exact RetNet.mk (zs := z :: zs) ⟨hm2, hm5⟩ (by rw [List.length_cons, Hzl.out]; omega) (by rw [List.length_cons, Hzl.out]; exact Hok3.out) H3.out (by omega) Hg3.out
      · obtain rfl : k = 0 := by omega
        have hd0 := List.eq_nil_of_length_eq_zero Hdl.out
        subst hd0
        have Hfin := Lib.hid (RetNet.mk (zs := []) (p := p) ⟨hm2, hm5⟩ (by simp) Hok.out Hrd.out (by omega) Hgk.out)
        clear Hok Hrd Hgk
        go_wp2
        go_ret2
        exact Hfin.out

end Go.Proofs.Ytnekjhpocfdpnaa
