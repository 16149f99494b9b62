/-
  The drawn cables: l91Cable.
-/
import Derived.Test.YtodboccadccpfaaOpen
import Derived.Test.YtodboccadccpfaaMemC
namespace Go.Proofs.Ytodboccadccpfaa
open Go.RowKit

theorem secInfoD : (Try.prog.info? 129).map (fun i => (i.zero, i.size, i.bytes)) = some (some (.agg #[.int .i64 0, .int .i64 0, .int .i64 0]), 3, 24) := by kernel_rfl

/-- WHAT A DRAWN CABLE IS: some list of at most 20 sections in new memory; the reader some places further; nothing else. -/
def RetCab (R : Nat) (A : Option Addr) (n c p : Nat) (w : World) (e : Ending) (w' : World) : Prop :=
  ∃ B d zs q, e = .returned (.slice B (zs : List Sec).length d) ∧ zs.length ≤ 20 ∧ ArgC w' B d zs ∧ OwC 129 w.heap.size w'.heap.size w' (.slice B zs.length d) zs ∧ Reader w' R A n c q ∧ q ≤ p + 100 ∧ w.grownBy w' (some R)
theorem RetCab.mk {R : Nat} {A : Option Addr} {n c p q : Nat} {w w' : World} {v : Value} {zs : List Sec} (hl : zs.length ≤ 20) (ho : w'.ownsRow w.heap.size 129 3 v zs.length (secCells zs)) (hr : Reader w' R A n c q) (hq : q ≤ p + 100) (hg : w.grownBy w' (some R)) :
    RetCab R A n c p w (.returned v) w' := by
  have h := OwC.of_own ho
  obtain ⟨B, d, rfl, _, _, _⟩ := h.form
  exact ⟨B, d, zs, q, rfl, hl, h.arg (by omega) (Nat.le_refl _), h, hr, hq, hg⟩
theorem own_ptr3 {W : World} {base n k : Nat} {e : TypeId} {v : Value} {xs : List Value} (h : W.ownsRow base e 3 v n xs) (hn : n = k + 1) : ∃ g cap, v = .slice (some ⟨g, 0, none⟩) n cap ∧ n ≤ cap := by
  rcases h.2 with ⟨_, h0⟩ | ⟨g, cap, cur, h1, _, _, h2, _⟩
  · omega
  · exact ⟨g, cap, h1, h2⟩
theorem own_kept_R {w w' : World} {R base : Nat} {e : TypeId} {n : Nat} {v : Value} {xs : List Value} (h : w.ownsRow base e 3 v n xs) (hg : w.grownBy w' (some R)) (hR : R < base) : w'.ownsRow base e 3 v n xs := by
  refine h.kept hg ?_
  cases hb : v.ownBlock with
  | none => exact .inl rfl
  | some g => exact .inr fun e => by have := (h.lt g hb).1; simp at e; omega

set_option maxRecDepth 100000 in
set_option maxHeartbeats 4000000 in
theorem l91Cable_c (R : Nat) (A : Option Addr) (n c p : Nat) (m : Int) (w : World) (h : Reader w R A n c p) (hRw : R < w.heap.size) (hp : p ≤ 50000) (hm0 : 1 ≤ m) (hm1 : m ≤ 16) :
    Calls Try.prog 61 #[.pointer (some ⟨R, 0, none⟩), .int .i64 m] w (RetCab R A n c p w) := by
  obtain ⟨i0, hi, hz0, hz1, hz2⟩ := info_parts secInfoD
  have hg0 : w.grownBy (w.alloc (.cells #[] 129)) (some R) := grown_alloc (World.grownBy.refl w _) _
  have H0 := Lib.hid (h.kept (World.grownBy_alloc w (.cells #[] 129) none) (by simp))
  have hown0 : (w.alloc (.cells #[] 129)).ownsRow w.heap.size 129 3 (.slice (some ⟨w.heap.size, 0, none⟩) 0 0) 0 [] := World.ownsRow_made w #[] 0 (Nat.le_refl _) (by simp) rfl
  have Hown0 := Lib.hid hown0
  have Hg0 := Lib.hid hg0
  clear h hown0 hg0
  go_enter Try.func61, Try.ntmps61
  go_wp2_with fail
  refine (pick_c R A n c p m _ H0.out (by omega) (by omega) (by omega)).mono ?_
  rintro e w1 ⟨k1, rfl, k10, k11, hr1, hg1⟩
  have H1 := Lib.hid hr1
  have Hg1 := Lib.hid (grown_then Hg0.out hg1)
  have Hown1 := Lib.hid (own_kept_R Hown0.out hg1 hRw)
  clear hr1 hg1 H0 Hg0 Hown0
  obtain ⟨N, rfl⟩ := Int.eq_ofNat_of_zero_le k10
  go_wp2
  go_loopw [5, 7] (fun o i wr => ∃ (k : Nat) (v : Value) (ds : List Sec), k ≤ 1 + N ∧ i = .int .i64 k ∧ v = o ∧ ds.length = k ∧ wr.ownsRow w.heap.size 129 3 v k (secCells ds) ∧ Reader wr R A n c (p + 1 + 3 * k) ∧ w.grownBy wr (some R)) (fun _ i _ => 1 + N - (intOf i).toNat)
  case atStart => exact ⟨0, _, [], by omega, rfl, rfl, rfl, Hown1.out, H1.out, Hg1.out⟩
  case round =>
    obtain ⟨k, v, ds, hk, rfl, rfl, hdl, hok, hrd, hgk⟩ := hrel
    have Hrd := Lib.hid hrd
    have Hgk := Lib.hid hgk
    have hszk := hgk.size
    have Hdl := Lib.hid hdl
    have Hok := Lib.hid hok
    clear hrd hgk hdl hok H1 Hg1 Hown1
    obtain hlt | hge := Nat.lt_or_ge k (1 + N)
    · go_wp2_with fail
      refine (pick_c R A n c (p + 1 + 3 * k) 9 _ Hrd.out (by omega) (by omega) (by omega)).mono ?_
      rintro e w2 ⟨a1, rfl, a10, a11, hr2, hg2⟩
      have H2 := Lib.hid hr2
      have Hg2 := Lib.hid (grown_then Hgk.out hg2)
      have Hok2 := Lib.hid (own_kept_R Hok.out hg2 hRw)
      clear hr2 hg2 Hrd Hgk Hok
      go_wp2_with fail
      refine (pick_c R A n c (p + 1 + 3 * k + 1) 3 _ H2.out (by omega) (by omega) (by omega)).mono ?_
      rintro e w3 ⟨a2, rfl, a20, a21, hr3, hg3⟩
      have H3 := Lib.hid hr3
      have Hg3 := Lib.hid (grown_then Hg2.out hg3)
      have Hok3 := Lib.hid (own_kept_R Hok2.out hg3 hRw)
      clear hr3 hg3 H2 Hg2 Hok2
      go_wp2_with fail
      refine (pick_c R A n c (p + 1 + 3 * k + 2) 4 _ H3.out (by omega) (by omega) (by omega)).mono ?_
      rintro e w4 ⟨a3, rfl, a30, a31, hr4, hg4⟩
      have H4 := Lib.hid hr4
      have Hg4 := Lib.hid (grown_then Hg3.out hg4)
      have hok := own_kept_R Hok3.out hg4 hRw
      have hsz4 := Hg4.out.size
      clear hr4 hg4 H3 Hg3 Hok3
      go_wp2_with (at_builtin; refine wpList_append_own _ rfl _ _ 34 rfl w.heap.size 129 i0 _ 3 24 Try.underlying34 hi hz0 hz1 hz2 rfl (by decide) v k _ rfl (hok.alloc _) ⟨w4.heap.size, 0, none⟩ 1 1 (secCell ⟨1 + a1, a2, 1 + a3⟩) rfl rfl (secCell_new _ ⟨1 + a1, a2, 1 + a3⟩ _) (secCell_one _) (by unfold maxLen; omega) (by omega) (by simp; omega) ?_; intro v' w5 hown5 hg5 _)
      have hga : w4.grownBy w5 v.ownBlock := grown_then (grown_alloc (World.grownBy.refl w4 _) _) hg5
      have H5 := Lib.hid (H4.out.kept hga (fun r e => by have := (hok.lt r e).1; omega))
      have Hg5 := Lib.hid (grown_new Hg4.out hga (fun r e => (hok.lt r e).1))
      have Hown5 := Lib.hid hown5
      clear hok hga hg5 hown5 H4 Hg4
      go_roundw
      case rel => exact ⟨k + 1, v', ds ++ [⟨1 + a1, a2, 1 + a3⟩], by omega, by go_num, rfl, by simp [Hdl.out], by rw [secCells_snoc]; exact Hown5.out, H5.out, Hg5.out⟩
      case measure => simp [intOf]; omega
    · obtain rfl : k = 1 + N := by omega
      obtain ⟨g, cap, rfl, hcap⟩ := own_ptr3 (k := N) Hok.out (by omega)
      have hgl := Hok.out.lt g rfl
      go_wp2_with fail
      refine (pick_c R A n c (p + 1 + 3 * (1 + N)) 40 _ Hrd.out (by omega) (by omega) (by omega)).mono ?_
      rintro e w3 ⟨k3, rfl, k30, k31, hr3, hg3⟩
      have hsz3 := hg3.size
      have H3 := Lib.hid hr3
      have Hg3 := Lib.hid (grown_then Hgk.out hg3)
      have Hok3 := Lib.hid (own_kept_R Hok.out hg3 hRw)
      clear hr3 hg3 Hrd Hgk Hok
      obtain ⟨z, zs, rfl⟩ : ∃ z zs, ds = z :: zs := by
        have := Hdl.out
        cases ds with
        | nil => simp at this; omega
        | cons z zs => exact ⟨z, zs, rfl⟩
      have hzl : zs.length = N := by have := Hdl.out; simp at this; omega
      have Hzl := Lib.hid hzl
      clear hzl
      obtain rfl | hk30 := Classical.em (k3 = 0)
      · go_wp2_with fail
        have hga3 : w3.grownBy (w3.alloc (.cells #[.int .i64 0, .int .i64 51, .int .i64 50] 3)) (some R) := grown_alloc (World.grownBy.refl w3 _) _
        refine (pick_c R A n c (p + 1 + 3 * (1 + N) + 1) 3 _ (H3.out.kept (grown_alloc (World.grownBy.refl w3 none) _) (by simp)) (by omega) (by omega) (by omega)).mono ?_
        rintro e w4 ⟨k4, rfl, k40, k41, hr4, hg4⟩
        have hrow := (hg4.block w3.heap.size (by simp) (by simp; omega)).trans (heap_alloc_new w3 _)
        have hc0 := cell_of_row _ _ 0 _ _ _ hrow
        have hc1 := cell_of_row _ _ 1 _ _ _ hrow
        have hc2 := cell_of_row _ _ 2 _ _ _ hrow
        have hga4 := grown_then hga3 hg4
        have hok4 := own_kept_R Hok3.out hga4 hRw
        have hst := fun y : Int => hok4.stored 0 (.int .i64 y)
        have hck := hok4.cellAt 0 (by omega)
        have hfk := hok4.frozenAt 0
        rw [secCells_cons] at hck
        simp at hc0 hc1 hc2 hck
        have Hst := Lib.hid hst
        have Hr4 := Lib.hid hr4
        have Hg4 := Lib.hid (grown_then Hg3.out hga4)
        have Hrow := Lib.hid hrow
        clear hst hr4 hga3 hga4 hg4 hok4 hrow Hg3 H3 Hok3
        obtain rfl | rfl | rfl : k4 = 0 ∨ k4 = 1 ∨ k4 = 2 := by omega
        · go_wp2
          go_ret
          exact RetCab.mk (zs := ⟨0, z.k, z.o⟩ :: zs) (by rw [List.length_cons, Hzl.out]; omega) (by have := (Hst.out (0)).1; rw [List.length_cons, Hzl.out, Nat.add_comm N 1]; exact this) (Hr4.out.kept (Hst.out (0)).2 (by simp; omega)) (by omega) (grown_new Hg4.out (Hst.out (0)).2 (by simp; omega))
        · go_wp2
          go_ret
          exact RetCab.mk (zs := ⟨51, z.k, z.o⟩ :: zs) (by rw [List.length_cons, Hzl.out]; omega) (by have := (Hst.out (51)).1; rw [List.length_cons, Hzl.out, Nat.add_comm N 1]; exact this) (Hr4.out.kept (Hst.out (51)).2 (by simp; omega)) (by omega) (grown_new Hg4.out (Hst.out (51)).2 (by simp; omega))
        · go_wp2
          go_ret
          exact RetCab.mk (zs := ⟨50, z.k, z.o⟩ :: zs) (by rw [List.length_cons, Hzl.out]; omega) (by have := (Hst.out (50)).1; rw [List.length_cons, Hzl.out, Nat.add_comm N 1]; exact this) (Hr4.out.kept (Hst.out (50)).2 (by simp; omega)) (by omega) (grown_new Hg4.out (Hst.out (50)).2 (by simp; omega))
      have b0 : (k3 == 0) = false := by simpa using hk30
      obtain rfl | hk31 := Classical.em (k3 = 1)
      · go_wp2_with fail
        have hga3 : w3.grownBy (w3.alloc (.cells #[.int .i64 (-1), .int .i64 4] 3)) (some R) := grown_alloc (World.grownBy.refl w3 _) _
        refine (pick_c R A n c (p + 1 + 3 * (1 + N) + 1) 2 _ (H3.out.kept (grown_alloc (World.grownBy.refl w3 none) _) (by simp)) (by omega) (by omega) (by omega)).mono ?_
        rintro e w4 ⟨k4, rfl, k40, k41, hr4, hg4⟩
        have hrow := (hg4.block w3.heap.size (by simp) (by simp; omega)).trans (heap_alloc_new w3 _)
        have hc0 := cell_of_row _ _ 0 _ _ _ hrow
        have hc1 := cell_of_row _ _ 1 _ _ _ hrow
        have hga4 := grown_then hga3 hg4
        have hok4 := own_kept_R Hok3.out hga4 hRw
        have hst := fun y : Int => hok4.stored 1 (.int .i64 y)
        have hck := hok4.cellAt 1 (by omega)
        have hfk := hok4.frozenAt 1
        rw [secCells_cons] at hck
        simp at hc0 hc1 hck
        have Hst := Lib.hid hst
        have Hr4 := Lib.hid hr4
        have Hg4 := Lib.hid (grown_then Hg3.out hga4)
        have Hrow := Lib.hid hrow
        clear hst hr4 hga3 hga4 hg4 hok4 hrow Hg3 H3 Hok3
        obtain rfl | rfl : k4 = 0 ∨ k4 = 1 := by omega
        · go_wp2
          go_ret
          exact RetCab.mk (zs := ⟨z.m, -1, z.o⟩ :: zs) (by rw [List.length_cons, Hzl.out]; omega) (by have := (Hst.out (-1)).1; rw [List.length_cons, Hzl.out, Nat.add_comm N 1]; exact this) (Hr4.out.kept (Hst.out (-1)).2 (by simp; omega)) (by omega) (grown_new Hg4.out (Hst.out (-1)).2 (by simp; omega))
        · go_wp2
          go_ret
          exact RetCab.mk (zs := ⟨z.m, 4, z.o⟩ :: zs) (by rw [List.length_cons, Hzl.out]; omega) (by have := (Hst.out (4)).1; rw [List.length_cons, Hzl.out, Nat.add_comm N 1]; exact this) (Hr4.out.kept (Hst.out (4)).2 (by simp; omega)) (by omega) (grown_new Hg4.out (Hst.out (4)).2 (by simp; omega))
      have b1 : (k3 == 1) = false := by simpa using hk31
      obtain rfl | hk32 := Classical.em (k3 = 2)
      · go_wp2_with fail
        have hga3 : w3.grownBy (w3.alloc (.cells #[.int .i64 0, .int .i64 21, .int .i64 20] 3)) (some R) := grown_alloc (World.grownBy.refl w3 _) _
        refine (pick_c R A n c (p + 1 + 3 * (1 + N) + 1) 3 _ (H3.out.kept (grown_alloc (World.grownBy.refl w3 none) _) (by simp)) (by omega) (by omega) (by omega)).mono ?_
        rintro e w4 ⟨k4, rfl, k40, k41, hr4, hg4⟩
        have hrow := (hg4.block w3.heap.size (by simp) (by simp; omega)).trans (heap_alloc_new w3 _)
        have hc0 := cell_of_row _ _ 0 _ _ _ hrow
        have hc1 := cell_of_row _ _ 1 _ _ _ hrow
        have hc2 := cell_of_row _ _ 2 _ _ _ hrow
        have hga4 := grown_then hga3 hg4
        have hok4 := own_kept_R Hok3.out hga4 hRw
        have hst := fun y : Int => hok4.stored 2 (.int .i64 y)
        have hck := hok4.cellAt 2 (by omega)
        have hfk := hok4.frozenAt 2
        rw [secCells_cons] at hck
        simp at hc0 hc1 hc2 hck
        have Hst := Lib.hid hst
        have Hr4 := Lib.hid hr4
        have Hg4 := Lib.hid (grown_then Hg3.out hga4)
        have Hrow := Lib.hid hrow
        clear hst hr4 hga3 hga4 hg4 hok4 hrow Hg3 H3 Hok3
        obtain rfl | rfl | rfl : k4 = 0 ∨ k4 = 1 ∨ k4 = 2 := by omega
        · go_wp2
          go_ret
          exact RetCab.mk (zs := ⟨z.m, z.k, 0⟩ :: zs) (by rw [List.length_cons, Hzl.out]; omega) (by have := (Hst.out (0)).1; rw [List.length_cons, Hzl.out, Nat.add_comm N 1]; exact this) (Hr4.out.kept (Hst.out (0)).2 (by simp; omega)) (by omega) (grown_new Hg4.out (Hst.out (0)).2 (by simp; omega))
        · go_wp2
          go_ret
          exact RetCab.mk (zs := ⟨z.m, z.k, 21⟩ :: zs) (by rw [List.length_cons, Hzl.out]; omega) (by have := (Hst.out (21)).1; rw [List.length_cons, Hzl.out, Nat.add_comm N 1]; exact this) (Hr4.out.kept (Hst.out (21)).2 (by simp; omega)) (by omega) (grown_new Hg4.out (Hst.out (21)).2 (by simp; omega))
        · go_wp2
          go_ret
          exact RetCab.mk (zs := ⟨z.m, z.k, 20⟩ :: zs) (by rw [List.length_cons, Hzl.out]; omega) (by have := (Hst.out (20)).1; rw [List.length_cons, Hzl.out, Nat.add_comm N 1]; exact this) (Hr4.out.kept (Hst.out (20)).2 (by simp; omega)) (by omega) (grown_new Hg4.out (Hst.out (20)).2 (by simp; omega))
      have b2 : (k3 == 2) = false := by simpa using hk32
      obtain rfl | hk33 := Classical.em (k3 = 3)
      · go_wp2
        go_ret
        exact RetCab.mk (zs := []) (by simp) (World.ownsRow_made _ #[] _ (by omega) (by simp) rfl) (H3.out.kept (grown_alloc (World.grownBy.refl _ none) _) (by simp)) (by omega) (grown_alloc Hg3.out _)
      · have b3 : (k3 == 3) = false := by simpa using hk33
        go_wp2
        go_ret
        exact RetCab.mk (zs := z :: zs) (by rw [List.length_cons, Hzl.out]; omega) (by rw [List.length_cons, Hzl.out, Nat.add_comm N 1]; exact Hok3.out) H3.out (by omega) Hg3.out

end Go.Proofs.Ytodboccadccpfaa
