/-
  Drawn orders: l92Orders, l91At; the draws that hand back orders.
-/
import Derived.Test.YtodboccadccpfaaOpen
import Derived.Test.YtodboccadccpfaaStkA
import Derived.Lib.Hide
namespace Go.Proofs.Ytodboccadccpfaa
open Go.RowKit

/-- WHAT DRAWN ORDERS ARE: some list of at most 20 ints in new memory; the reader some places further; nothing else. -/
def RetList (R : Nat) (A : Option Addr) (n c p : Nat) (w : World) (e : Ending) (w' : World) : Prop :=
  ∃ B d zs q, e = .returned (.slice B (zs : List Int).length d) ∧ zs.length ≤ 20 ∧ Arg w' B d zs ∧ Ow 3 w.heap.size w'.heap.size w' (.slice B zs.length d) zs ∧ Reader w' R A n c q ∧ q ≤ p + 100 ∧ w.grownBy w' (some R)
theorem RetList.mk {R : Nat} {A : Option Addr} {n c p q : Nat} {w w' : World} {v : Value} {zs : List Int} (hl : zs.length ≤ 20) (ho : w'.ownsRow w.heap.size 3 1 v zs.length (zs.map (Value.int .i64))) (hr : Reader w' R A n c q) (hq : q ≤ p + 100) (hg : w.grownBy w' (some R)) :
    RetList R A n c p w (.returned v) w' := by
  have h := Ow.of_own ho
  obtain ⟨B, d, rfl, _, _, _⟩ := h.form
  exact ⟨B, d, zs, q, rfl, hl, h.arg (by omega) (Nat.le_refl _), h, hr, hq, hg⟩
/-- the reader stays where another own slice is written -/
theorem reader_own {W W' : World} {R : Nat} {A : Option Addr} {n c p lo m : Nat} {t : TypeId} {v : Value} {xs : List Value} (h : Reader W R A n c p) (ho : W.ownsRow lo t 1 v m xs) (hR : R < lo) (hg : W.grownBy W' v.ownBlock) : Reader W' R A n c p :=
  h.kept hg (fun r e => by have := (ho.lt r e).1; omega)
theorem own_read {W W' : World} {R lo m : Nat} {t : TypeId} {v : Value} {xs : List Value} (ho : W.ownsRow lo t 1 v m xs) (hR : R < lo) (hg : W.grownBy W' (some R)) : W'.ownsRow lo t 1 v m xs :=
  ho.kept hg (by
    cases hb : v.ownBlock with
    | none => exact .inl rfl
    | some g => exact .inr fun e => by have := (ho.lt g hb).1; simp at e; omega)

set_option maxRecDepth 100000 in
set_option maxHeartbeats 4000000 in
theorem l92Orders_c (R : Nat) (A : Option Addr) (n c p : Nat) (m : Int) (w : World) (h : Reader w R A n c p) (hRw : R < w.heap.size) (hp : p ≤ 50000) (hm0 : 0 ≤ m) (hm1 : m ≤ 16) :
    Calls Try.prog 97 #[.pointer (some ⟨R, 0, none⟩), .int .i64 m] w (RetList R A n c p w) := by
  obtain ⟨i0, hi, hz0, hz1, hz2⟩ := info_parts int_info
  have hg0 : w.grownBy (w.alloc (.cells #[] 3)) (some R) := grown_alloc (World.grownBy.refl w _) _
  have H0 := Lib.hid (h.kept (World.grownBy_alloc w (.cells #[] 3) none) (by simp))
  have hown0 : (w.alloc (.cells #[] 3)).ownsRow w.heap.size 3 1 (.slice (some ⟨w.heap.size, 0, none⟩) 0 0) 0 [] := World.ownsRow_made w #[] 0 (Nat.le_refl _) (by simp) rfl
  have Hown0 := Lib.hid hown0
  have Hg0 := Lib.hid hg0
  have q0 : IntKind.i64.wrap (m + 1) = m + 1 := IntWalk.i64_in _ (by omega)
  clear h hown0 hg0
  go_enter Try.func97, Try.ntmps97
  go_wp2_with fail
  refine (pick_c R A n c p (m + 1) _ H0.out (by omega) (by omega) (by omega)).mono ?_
  rintro e w1 ⟨N, rfl, hN0, hN1, hr1, hg1⟩
  obtain ⟨N, rfl⟩ := Int.eq_ofNat_of_zero_le hN0
  have H1 := Lib.hid hr1
  have Hg1 := Lib.hid (grown_then Hg0.out hg1)
  have Hown1 := Lib.hid (own_read Hown0.out hRw hg1)
  clear hr1 hg1 H0 Hg0 Hown0 q0
  have hN : N ≤ 16 := by omega
  go_wp2
  go_loopw [5, 7] (fun o i wr => ∃ (k : Nat) (v : Value) (ds : List Int), k ≤ N ∧ i = .int .i64 k ∧ v = o ∧ ds.length = k ∧ wr.ownsRow w.heap.size 3 1 v k (ds.map (Value.int .i64)) ∧ Reader wr R A n c (p + 1 + k) ∧ w.grownBy wr (some R)) (fun _ i _ => N - (intOf i).toNat)
  case atStart => exact ⟨0, _, [], by omega, rfl, rfl, rfl, Hown1.out, H1.out, Hg1.out⟩
  case round =>
    obtain ⟨k, v, ds, hk, rfl, rfl, hdl, hok, hrd, hgk⟩ := hrel
    have Hrd := Lib.hid hrd
    have Hgk := Lib.hid hgk
    have Hok := Lib.hid hok
    have Hdl := Lib.hid hdl
    clear hrd hgk hdl hok
    obtain hlt | hge := Nat.lt_or_ge k N
    · have g1 : (k : Int) < (N : Int) := by omega
      have q1 : IntKind.i64.wrap ((k : Int) + 1) = (k : Int) + 1 := IntWalk.i64_in _ (by omega)
      go_wp2_with fail
      refine (pick_c R A n c (p + 1 + k) ((k : Int) + 1) _ Hrd.out (by omega) (by omega) (by omega)).mono ?_
      rintro e w4 ⟨at_, rfl, ha0, ha1, hr4, hg4⟩
      have H4 := Lib.hid (show Reader w4 R A n c (p + 1 + (k + 1)) from hr4)
      have Hg4 := Lib.hid (grown_then Hgk.out hg4)
      have Hown4 := Lib.hid (own_read Hok.out hRw hg4)
      clear hr4 hg4 Hrd Hgk Hok q1
      go_wp2
      go_loopw [9] (fun i wr => ∃ (j : Nat) (es : List Int), j ≤ k ∧ i = .int .i64 j ∧ es.length = k ∧ wr.ownsRow w.heap.size 3 1 v k (es.map (Value.int .i64)) ∧ Reader wr R A n c (p + 1 + (k + 1)) ∧ w.grownBy wr (some R)) (fun i _ => k - (intOf i).toNat)
      case atStart => exact ⟨0, ds, Nat.zero_le _, rfl, Hdl.out, Hown4.out, H4.out, Hg4.out⟩
      case round =>
        obtain ⟨j, es, hj, rfl, hel, hok, hrd, hgk⟩ := hrel
        by_cases hjk : j < k
        · obtain ⟨g, cap, rfl, hck, hfk, hgb, ho', hg'⟩ := own_put (y := es) (i := j) (by rw [hel]; exact hok) (by omega) (wrap64 ((es[j]?.getD 0) + 1))
          have hx : es[j]'(by omega) = es[j]?.getD 0 := by rw [List.getElem?_eq_getElem (by omega)]; rfl
          rw [hx] at hck
          have hl2 : (es.set j (wrap64 ((es[j]?.getD 0) + 1))).length = k := by rw [List.length_set]; exact hel
          rw [hl2] at ho'
          rw [hel] at hok ⊢
          have Ho' := Lib.hid ho'
          have Hrd := Lib.hid hrd
          have Hr' := Lib.hid (reader_own hrd (v := .slice (some ⟨g, 0, none⟩) k cap) (xs := es.map (Value.int .i64)) (m := k) (t := 3) hok hRw hg')
          have Hg' := Lib.hid (grown_new hgk hg' (fun r e => by cases e; exact hgb))
          have Hgk := Lib.hid hgk
          have Hl2 := Lib.hid hl2
          have Hok := Lib.hid hok
          have Hel := Lib.hid hel
          obtain ⟨x, hxx⟩ : ∃ x, es[j]?.getD 0 = x := ⟨_, rfl⟩
          rw [hxx] at hck Ho' Hr' Hg' Hl2
          have g2 : (j : Int) < (k : Int) := by omega
          have g3 : (0 : Int) ≤ (j : Int) := by omega
          clear ho' hg' hl2 hx hxx hrd hgk hok hel
          by_cases hax : at_ ≤ x
          · go_wp2
            go_roundw
            case rel => exact ⟨j + 1, _, by omega, by go_num, Hl2.out, Ho'.out, Hr'.out, Hg'.out⟩
            case measure => simp [intOf]; omega
          · go_wp2
            go_roundw
            case rel => exact ⟨j + 1, es, by omega, by go_num, Hel.out, Hok.out, Hrd.out, Hgk.out⟩
            case measure => simp [intOf]; omega
        · obtain rfl : j = k := by omega
          have Ho := Lib.hid hok
          have Hrd := Lib.hid hrd
          have Hgk := Lib.hid hgk
          have Hel := Lib.hid hel
          clear hok hrd hgk hel
          go_wp2_with (at_builtin; refine wpList_append_own _ rfl (.tmp 43) (.tmp 45) 67 rfl w.heap.size 3 i0 (.int .i64 0) 1 8 Try.underlying67 hi hz0 hz1 hz2 rfl (by decide) v j _ rfl (Ho.out.alloc _) ⟨wr.heap.size, 0, none⟩ 1 1 [.int .i64 at_] rfl rfl (one_new _ _ _) (by simp [Value.oneCell']) (by unfold maxLen; omega) (by omega) (by have := Hgk.out.size; simp; omega) ?_; intro v' w3 hown3 hg3 _; have Hga := Lib.hid (grown_then (grown_alloc (World.grownBy.refl wr v.ownBlock) (.cells #[.int .i64 at_] 3)) hg3); have Hown3 := Lib.hid hown3; clear hown3 hg3)
          go_roundw
          case rel => exact ⟨j + 1, v', es ++ [at_], by omega, by go_num, rfl, by simp [Hel.out], by rw [List.map_append]; exact Hown3.out, reader_own Hrd.out Ho.out hRw Hga.out, grown_new Hgk.out Hga.out (fun r e => (Ho.out.lt r e).1)⟩
          case measure => simp [intOf]; omega
    · obtain rfl : k = N := by omega
      rcases Nat.eq_zero_or_pos k with h0 | hpos
      · subst h0
        go_wp2
        go_ret
        exact RetList.mk (zs := ds) (by have := Hdl.out; omega) (by rw [Hdl.out]; exact Hok.out) Hrd.out (by omega) Hgk.out
      have g1 : (0 : Int) < (k : Int) := by omega
      go_wp2_with fail
      refine (pick_c R A n c (p + 1 + k) 40 _ Hrd.out (by omega) (by omega) (by omega)).mono ?_
      rintro e w4 ⟨k3, rfl, k30, k31, hr4, hg4⟩
      have H4 := Lib.hid hr4
      have Hg4 := Lib.hid (grown_then Hgk.out hg4)
      have Hown4 := Lib.hid (own_read Hok.out hRw hg4)
      clear hr4 hg4 Hrd Hgk Hok
      have Hlen := Lib.hid (show ds.length ≤ 20 by have := Hdl.out; omega)
      rcases Int.lt_trichotomy k3 1 with hk3 | hk3 | hk3
      · obtain rfl : k3 = 0 := by omega
        obtain ⟨g, cap, rfl, hck, hfk, hgb, ho', hg'⟩ := own_put (y := ds) (i := 0) (by rw [Hdl.out]; exact Hown4.out) (by rw [Hdl.out]; exact hpos) 0
        rw [Hdl.out] at Hown4 ⊢
        clear ho' hg'
        have Hck := Lib.hid hck
        have Hfk := Lib.hid hfk
        have Hgb := Lib.hid hgb
        have hgs := (Hown4.out.lt g rfl).2
        have g2 : (0 : Int) < (k : Int) := by omega
        clear hck hfk hgb
        have H5 := Lib.hid (H4.out.kept (World.grownBy_alloc w4 (.cells #[.int .i64 (-1), .int .i64 k] 3) none) (by simp))
        have Hg5 := Lib.hid (grown_alloc Hg4.out (.cells #[.int .i64 (-1), .int .i64 k] 3))
        have Hown5 := Lib.hid (Hown4.out.alloc (.cells #[.int .i64 (-1), .int .i64 k] 3))
        have hb0 : (w4.alloc (.cells #[.int .i64 (-1), .int .i64 k] 3)).cell? ⟨w4.heap.size, 0, none⟩ = some (.int .i64 (-1)) := cell_of_row _ _ 0 _ _ _ (heap_alloc_new w4 _)
        have hb1 : (w4.alloc (.cells #[.int .i64 (-1), .int .i64 k] 3)).cell? ⟨w4.heap.size, 1, none⟩ = some (.int .i64 k) := cell_of_row _ _ 1 _ _ _ (heap_alloc_new w4 _)
        have Hb0 := Lib.hid hb0
        have Hb1 := Lib.hid hb1
        have hRs : R < w4.heap.size := by have := Hg4.out.size; omega
        clear hb0 hb1
        go_wp2_with fail
        refine (pick_c R A n c (p + 1 + k + 1) 2 _ H5.out (by omega) (by omega) (by omega)).mono ?_
        rintro e w6 ⟨k5, rfl, k50, k51, hr6, hg6⟩
        have hs6 := hg6.size
        simp at hs6
        have H6 := Lib.hid hr6
        have Hg6 := Lib.hid (grown_then Hg5.out hg6)
        have Hown6 := Lib.hid (own_read Hown5.out hRw hg6)
        have hc0 := hg6.cell Hb0.out (show some w4.heap.size ≠ some R by simp; omega)
        have hc1 := hg6.cell Hb1.out (show some w4.heap.size ≠ some R by simp; omega)
        clear hr6 hg6
        obtain ⟨u, hu⟩ : ∃ u : Int, (if k5 = 0 then (-1 : Int) else k) = u := ⟨_, rfl⟩
        obtain ⟨g', cap', hform, hck, hfk, hgb, ho', hg'⟩ := own_put (y := ds) (i := 0) (by rw [Hdl.out]; exact Hown6.out) (by rw [Hdl.out]; exact hpos) u
        injection hform with e1 e2 e3
        injection e1 with e1
        injection e1 with e1 e4
        subst e1
        subst e3
        clear e2
        have Hr8 := Lib.hid (reader_own H6.out Hown6.out hRw hg')
        have Hg8 := Lib.hid (grown_new Hg6.out hg' (fun r e => by cases e; exact hgb))
        have Ho8 := Lib.hid ho'
        clear ho' hg' hgb
        rcases (show k5 = 0 ∨ k5 = 1 by omega) with h5 | h5
        · subst h5
          rw [if_pos rfl] at hu
          subst hu
          go_wp2
          go_ret
          exact RetList.mk (zs := ds.set 0 (-1)) (by rw [List.length_set]; exact Hlen.out) (by have h := Ho8.out; rw [List.length_set, Hdl.out] at h; rw [List.length_set, Hdl.out]; exact h) Hr8.out (by omega) Hg8.out
        · subst h5
          rw [if_neg (by decide)] at hu
          subst hu
          go_wp2
          go_ret
          exact RetList.mk (zs := ds.set 0 (k : Int)) (by rw [List.length_set]; exact Hlen.out) (by have h := Ho8.out; rw [List.length_set, Hdl.out] at h; rw [List.length_set, Hdl.out]; exact h) Hr8.out (by omega) Hg8.out
      · subst hk3
        obtain ⟨g, cap, rfl, hck, hfk, hgb, ho', hg'⟩ := own_put (y := ds) (i := 0) (by rw [Hdl.out]; exact Hown4.out) (by rw [Hdl.out]; exact hpos) 0
        rw [Hdl.out] at Hown4 ⊢
        obtain ⟨x, hx⟩ : ∃ x, ds[0]'(by rw [Hdl.out]; exact hpos) = x := ⟨_, rfl⟩
        rw [hx] at hck
        have g2 : (0 : Int) < (k : Int) := by omega
        clear ho' hg' hgb hfk hx
        go_wp2_with (at_builtin; refine wpList_append_own _ rfl (.tmp 63) (.tmp 67) 67 rfl w.heap.size 3 i0 (.int .i64 0) 1 8 Try.underlying67 hi hz0 hz1 hz2 rfl (by decide) (.slice (some ⟨g, 0, none⟩) k cap) k _ rfl (Hown4.out.alloc _) ⟨w4.heap.size, 0, none⟩ 1 1 [.int .i64 x] rfl rfl (one_new _ _ _) (by simp [Value.oneCell']) (by unfold maxLen; omega) (by omega) (by have := Hg4.out.size; simp; omega) ?_; intro v' w7 hown7 hg7 _; have Hga := Lib.hid (grown_then (grown_alloc (World.grownBy.refl w4 (Value.slice (some ⟨g, 0, none⟩) k cap).ownBlock) (.cells #[.int .i64 x] 3)) hg7); have Hown7 := Lib.hid hown7; clear hown7 hg7)
        go_ret
        exact RetList.mk (zs := ds ++ [x]) (by have := Hdl.out; simp; omega) (by rw [List.length_append, List.map_append, Hdl.out]; exact Hown7.out) (reader_own H4.out Hown4.out hRw Hga.out) (by omega) (grown_new Hg4.out Hga.out (fun r e => (Hown4.out.lt r e).1))
      · have b1 : (k3 == 0) = false := beq_eq_false_iff_ne.2 (by omega)
        have b2 : (k3 == 1) = false := beq_eq_false_iff_ne.2 (by omega)
        have n1 : ¬ k3 = 0 := by omega
        have n2 : ¬ k3 = 1 := by omega
        go_wp2
        go_ret
        exact RetList.mk (zs := ds) Hlen.out (by rw [Hdl.out]; exact Hown4.out) H4.out (by omega) Hg4.out

end Go.Proofs.Ytodboccadccpfaa
