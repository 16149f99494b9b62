/-
  The drawn floors with a pay: l91Pay, DrawPayHangs.
-/
import Derived.Test.YtndpdoiomoefpaaAboard0
namespace Go.Proofs.Ytndpdoiomoefpaa
open Go.RowKit

/-- a floor and a pay of at most 20 ints each -/
def RetPay (R : Nat) (w : World) (e : Ending) (w' : World) : Prop :=
  ∃ B d zs B2 d2 ps, e = .returned (.tuple #[.slice B (zs : List Int).length d, .slice B2 (ps : List Int).length d2]) ∧ zs.length ≤ 20 ∧ ps.length ≤ 20 ∧ Arg w' B d zs ∧ Arg w' B2 d2 ps ∧ w.grownBy w' (some R)
theorem RetPay.mk {R lo hi : Nat} {w w' : World} {B B2 : Option Addr} {d d2 : Nat} {zs ps : List Int} (hl : zs.length ≤ 20) (hl2 : ps.length ≤ 20) (ho : Ow 3 lo hi w' (.slice B zs.length d) zs) (hh : hi ≤ w'.heap.size) (ha : Arg w' B2 d2 ps) (hg : w.grownBy w' (some R)) :
    RetPay R w (.returned (.tuple #[.slice B zs.length d, .slice B2 ps.length d2])) w' := ⟨B, d, zs, B2, d2, ps, rfl, hl, hl2, ho.arg (by omega) hh, ha, hg⟩
theorem arg_own {w : World} {base : Nat} {A : Option Addr} {c : Nat} {ps : List Int} (h : w.ownsRow base 3 1 (.slice A ps.length c) ps.length (ps.map (Value.int .i64))) (hl : ps.length ≤ 20) : Arg w A c ps := (Ow.of_own h).arg (by omega) (Nat.le_refl _)
theorem arg_tail {w : World} {base g cap : Nat} {z : Int} {ps : List Int} (h : w.ownsRow base 3 1 (.slice (some ⟨g, 0, none⟩) (ps.length + 1) cap) (ps.length + 1) ((z :: ps).map (Value.int .i64))) (hl : ps.length ≤ 20) : Arg w (some ⟨g, 1, none⟩) (cap - 1) ps := by
  have hg := h.lt g rfl
  rcases h.2 with ⟨h', _⟩ | ⟨g', cap', cur, h', hb, hg', hnc, hcm, hcs, ht⟩
  · simp at h'
  · simp only [Value.slice.injEq, Option.some.injEq, Addr.mk.injEq, and_true, true_and] at h'
    obtain ⟨rfl, rfl⟩ := h'
    refine ⟨by omega, by omega, by omega, fun _ => ⟨g, 1, rfl, Nat.zero_le _, hg.2, fun j hj => ?_⟩⟩
    have := h.cellAt (1 + j) (by omega)
    rw [this, Nat.add_comm 1 j]
    simp [hj]

theorem fourP {j : Nat} (h : (j : Int) < 4) : ∃ x : Int, -1 ≤ x ∧ x ≤ 61 ∧ (#[Value.int .i64 (-1), .int .i64 61, .int .i64 60, .int .i64 0])[j]? = some (.int .i64 x) := by
  obtain rfl | rfl | rfl | rfl : j = 0 ∨ j = 1 ∨ j = 2 ∨ j = 3 := by omega
  · exact ⟨-1, by omega, by omega, rfl⟩
  · exact ⟨61, by omega, by omega, rfl⟩
  · exact ⟨60, by omega, by omega, rfl⟩
  · exact ⟨0, by omega, by omega, rfl⟩

set_option maxRecDepth 100000 in
set_option maxHeartbeats 4000000 in
theorem l91Pay_c (R : Nat) (A : Option Addr) (n c p : Nat) (w : World) (h : Reader w R A n c p) (hRw : R < w.heap.size) (hp : p ≤ 40000) :
    Calls Try.prog 87 #[.pointer (some ⟨R, 0, none⟩)] w (RetPay R w) := by
  obtain ⟨i0, hi, hz0, hz1, hz2⟩ := info_parts int_info
  have H0 := Lib.hid h
  clear h
  go_enter Try.func87, Try.ntmps87
  go_wp2_with fail
  refine (l91Floor_c R A n c p 7 _ H0.out hRw (by omega) (by omega) (by omega)).mono ?_
  rintro e w1 ⟨B, d, zs, q, rfl, hzl, _, ho1, hr1, hq, hg1⟩
  have s1 := hg1.size
  have HO := Lib.hid (show Ow 3 w.heap.size w1.heap.size (w1.alloc (.cells #[] 3)) (.slice B zs.length d) zs from ho1.kept (World.grownBy_alloc w1 (.cells #[] 3) none) (by simp))
  have HR := Lib.hid (show Reader (w1.alloc (.cells #[] 3)) R A n c (q + 0) from hr1.kept (World.grownBy_alloc w1 (.cells #[] 3) none) (by simp))
  have HG := Lib.hid (grown_alloc hg1 (.cells #[] 3))
  have HV := Lib.hid (show (w1.alloc (.cells #[] 3)).ownsRow w1.heap.size 3 1 (.slice (some ⟨w1.heap.size, 0, none⟩) 0 0) 0 (([] : List Int).map (Value.int .i64)) from World.ownsRow_made w1 #[] 0 (Nat.le_refl _) (by simp) rfl)
  clear ho1 hr1 hg1 H0
  go_wp2
  go_loopw [5, 6] (fun o i wr => ∃ (j : Nat) (v : Value) (ds : List Int), (j = 0 ∨ j + 1 ≤ zs.length) ∧ i = .int .i64 ((j : Int) + 1) ∧ v = o ∧ ds.length = j ∧ wr.ownsRow w1.heap.size 3 1 v j (ds.map (Value.int .i64)) ∧ Ow 3 w.heap.size w1.heap.size wr (.slice B zs.length d) zs ∧ Reader wr R A n c (q + j) ∧ w.grownBy wr (some R) ∧ w1.heap.size ≤ wr.heap.size) (fun _ i _ => zs.length - (intOf i).toNat)
  case atStart => exact ⟨0, _, [], .inl rfl, rfl, rfl, rfl, HV.out, HO.out, HR.out, HG.out, by simp⟩
  case round =>
    obtain ⟨j, v, ds, hj, rfl, rfl, hdl, hok, hof, hrd, hgk, hsk⟩ := hrel
    have Hof := Lib.hid hof
    have Hrd := Lib.hid hrd
    have Hgk := Lib.hid hgk
    have Hok := Lib.hid hok
    have Hdl := Lib.hid hdl
    clear hok hof hrd hgk hdl HO HR HG HV
    obtain hlt | hge := Nat.lt_or_ge (j + 1) zs.length
    · have g1 : (j : Int) + 1 < (zs.length : Int) := by omega
      go_wp2_with fail
      refine (pick_c R A n c (q + j) 16 _ Hrd.out (by omega) (by omega) (by omega)).mono ?_
      rintro e w4 ⟨k4, rfl, k40, k41, hr4, hg4⟩
      have s4 := hg4.size
      have hok4 := Hok.out.kept hg4 (by
        cases hb : v.ownBlock with
        | none => exact .inl rfl
        | some g => exact .inr fun e => by have := (Hok.out.lt g hb).1; simp at e; omega)
      have Hof4 := Lib.hid (Hof.out.kept hg4 (fun r e => by cases e; exact .inl hRw))
      have Hr4 := Lib.hid hr4
      have Hg4 := Lib.hid (grown_then Hgk.out hg4)
      clear hr4 hg4 Hok Hof Hrd Hgk
      go_wp2_with (at_builtin; refine wpList_append_own _ rfl _ _ 23 rfl w1.heap.size 3 i0 (.int .i64 0) 1 8 Try.underlying23 hi hz0 hz1 hz2 rfl (by decide) v j _ rfl (hok4.alloc _) ⟨w4.heap.size, 0, none⟩ 1 1 [.int .i64 (6 + k4)] rfl rfl (one_new _ _ _) (by simp [Value.oneCell']) (by unfold maxLen; omega) (by omega) (by simp; omega) ?_; intro v' w5 hown5 hg5 _)
      have hga : w4.grownBy w5 v.ownBlock := grown_then (grown_alloc (World.grownBy.refl w4 _) _) hg5
      have hlo := fun r (e : v.ownBlock = some r) => (hok4.lt r e).1
      go_roundw
      case rel => exact ⟨j + 1, v', ds ++ [6 + k4], .inr (by omega), by go_num, rfl, by simp [Hdl.out], by rw [List.map_append]; exact hown5, Hof4.out.kept hga (fun r e => .inr (hlo r e)), Hr4.out.kept hga (fun r e => by have := hlo r e; omega), grown_new Hg4.out hga (fun r e => by have := hlo r e; omega), by have := hga.size; omega⟩
      case measure => simp [intOf]; omega
    · have g1 : ¬ ((j : Int) + 1 < (zs.length : Int)) := by omega
      obtain rfl | ⟨j', rfl⟩ : j = 0 ∨ ∃ j', j = j' + 1 := by
        cases j with
        | zero => exact .inl rfl
        | succ j' => exact .inr ⟨j', rfl⟩
      · obtain ⟨A2, c2, rfl, _⟩ := (Ow.of_own (show wr.ownsRow w1.heap.size 3 1 v ds.length (ds.map (Value.int .i64)) by rw [Hdl.out]; exact Hok.out)).form
        have hds : ds = [] := List.length_eq_zero_iff.1 Hdl.out
        subst hds
        have Ha2 := Lib.hid (arg_own Hok.out (by simp))
        go_wp2
        go_ret2
        exact RetPay.mk hzl (by simp) Hof.out hsk Ha2.out Hgk.out
      · obtain ⟨g, cap, rfl, hcap⟩ := own_ptr Hok.out rfl
        have hgl := Hok.out.lt g rfl
        obtain ⟨z, zt, rfl⟩ : ∃ z zt, ds = z :: zt := by
          have := Hdl.out
          cases ds with
          | nil => simp at this
          | cons z zt => exact ⟨z, zt, rfl⟩
        have hzt : zt.length = j' := by have := Hdl.out; simpa using this
        subst hzt
        have hj20 : zt.length ≤ 19 := by omega
        go_wp2_with fail
        refine (pick_c R A n c (q + (zt.length + 1)) 24 _ Hrd.out (by omega) (by omega) (by omega)).mono ?_
        rintro e w3 ⟨k3, rfl, k30, k31, hr3, hg3⟩
        have s3 := hg3.size
        have Hr3 := Lib.hid hr3
        have Hg3 := Lib.hid (grown_then Hgk.out hg3)
        have Hok3 := Lib.hid (Hok.out.kept hg3 (.inr (by simp [Value.ownBlock]; omega)))
        have Hof3 := Lib.hid (Hof.out.kept hg3 (fun r e => by cases e; exact .inl hRw))
        clear hr3 hg3 Hrd Hgk Hok Hof
        obtain rfl | hk0 := Classical.em (k3 = 0)
        · go_wp2_with fail
          have hga3 : w3.grownBy (w3.alloc (.cells #[.int .i64 (-1), .int .i64 61, .int .i64 60, .int .i64 0] 3)) (some R) := grown_alloc (World.grownBy.refl w3 _) _
          refine (pick_c R A n c (q + (zt.length + 1) + 1) 4 _ (Hr3.out.kept (grown_alloc (World.grownBy.refl w3 none) _) (by simp)) (by omega) (by omega) (by omega)).mono ?_
          rintro e w4 ⟨k4, rfl, k40, k41, hr4, hg4⟩
          obtain ⟨jj, rfl⟩ := Int.eq_ofNat_of_zero_le k40
          obtain ⟨x, x0, x1, hx⟩ := fourP k41
          have hcx := (cell_of_row w4 _ jj _ _ _ ((hg4.block w3.heap.size (by simp) (by simp; omega)).trans (heap_alloc_new w3 _))).trans hx
          have hga4 := grown_then hga3 hg4
          have s4 := hga4.size
          have hok4 := Hok3.out.kept hga4 (.inr (by simp [Value.ownBlock]; omega))
          have hof4 := Hof3.out.kept hga4 (fun r e => by cases e; exact .inl hRw)
          have hst := hok4.stored 0 (.int .i64 x)
          have hck := hok4.cellAt 0 (by omega)
          have hfk := hok4.frozenAt 0
          simp at hck
          have Hst := Lib.hid hst
          have Hg4 := Lib.hid (grown_then Hg3.out hga4)
          have Hof4 := Lib.hid hof4
          clear hst hr4 hga3 hga4 hg4 hok4 hof4 Hg3 Hr3 Hok3 Hof3 hx
          go_wp2
          go_ret2
          refine RetPay.mk (ps := x :: zt) hzl (by simp; omega) (Hof4.out.kept Hst.out.2 (fun r e => by cases e; exact .inr hgl.1)) (by have := Hst.out.2.size; omega) (arg_own (by have := Hst.out.1; simpa using this) (by simp; omega)) (grown_new Hg4.out Hst.out.2 (by simp; omega))
        · obtain rfl | hk1 := Classical.em (k3 = 1)
          · have hcap1 : 1 ≤ cap := by omega
            have Ht := Lib.hid (arg_tail Hok3.out (by omega))
            go_wp2
            all_goals
              go_ret2
              first
                | exact RetPay.mk (ps := zt) hzl (by omega) Hof3.out (by omega) Ht.out Hg3.out
                | exact RetPay.mk (ps := zt) hzl (by omega) Hof3.out (by omega) ⟨by omega, by omega, by simp, fun h => by omega⟩ Hg3.out
          · have b0 : (k3 == 0) = false := by simpa using hk0
            have b1 : (k3 == 1) = false := by simpa using hk1
            go_wp2
            go_ret2
            exact RetPay.mk (ps := z :: zt) hzl (by simp; omega) Hof3.out (by omega) (arg_own Hok3.out (by simp; omega)) Hg3.out
end Go.Proofs.Ytndpdoiomoefpaa
