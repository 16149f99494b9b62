/-
  The drawn spares: l91Spares.
-/
import Derived.Test.YtmbdggakahbciaaOpen
import Derived.Test.YtmbdggakahbciaaAppZ
import Derived.Laws.AppendOwn
namespace Go.Proofs.Ytmbdggakahbciaa
open Go.RowKit

/-- WHAT DRAWN SPARES ARE: some list of at most m spares in new memory; the reader some places further; nothing else. -/
def RetSprs (R : Nat) (A : Option Addr) (n c p : Nat) (w : World) (e : Ending) (w' : World) : Prop :=
  ∃ B d zs q, e = .returned (.slice B (zs : List Spr).length d) ∧ zs.length ≤ 12 ∧ ArgZ w' B d zs ∧ OwZ 30 w.heap.size w'.heap.size w' (.slice B zs.length d) zs ∧ Reader w' R A n c q ∧ q ≤ p + 100 ∧ w.grownBy w' (some R)
theorem RetSprs.mk {R : Nat} {A : Option Addr} {n c p q : Nat} {w w' : World} {v : Value} {zs : List Spr} (hl : zs.length ≤ 12) (ho : w'.ownsRow w.heap.size 30 2 v zs.length (sprCells zs)) (hr : Reader w' R A n c q) (hq : q ≤ p + 100) (hg : w.grownBy w' (some R)) :
    RetSprs R A n c p w (.returned v) w' := by
  have h : OwZ 30 w.heap.size w'.heap.size w' v zs := OwZ.of_own ho
  obtain ⟨B, d, rfl, _, _, _⟩ := h.form
  exact ⟨B, d, zs, q, rfl, hl, h.arg (by omega) (Nat.le_refl _), h, hr, hq, hg⟩
theorem own_ptr2 {W : World} {base n k : Nat} {e : TypeId} {v : Value} {xs : List Value} (h : W.ownsRow base e 2 v n xs) (hn : n = k + 1) : ∃ g cap, v = .slice (some ⟨g, 0, none⟩) n cap ∧ n ≤ cap := by
  rcases h.2 with ⟨_, h0⟩ | ⟨g, cap, cur, h1, _, _, h2, _⟩
  · omega
  · exact ⟨g, cap, h1, h2⟩
theorem own_kept_Z {w w' : World} {R base : Nat} {e : TypeId} {n : Nat} {v : Value} {xs : List Value} (h : w.ownsRow base e 2 v n xs) (hg : w.grownBy w' (some R)) (hR : R < base) : w'.ownsRow base e 2 v n xs := by
  refine h.kept hg ?_
  cases hb : v.ownBlock with
  | none => exact .inl rfl
  | some g => exact .inr fun e => by have := (h.lt g hb).1; simp at e; omega

set_option maxRecDepth 100000 in
set_option maxHeartbeats 4000000 in
theorem l91Spares_c (R : Nat) (A : Option Addr) (n c p : Nat) (m : Nat) (w : World) (h : Reader w R A n c p) (hRw : R < w.heap.size) (hp : p ≤ 50000) (hm1 : m ≤ 12) :
    Calls Try.prog 38 #[.pointer (some ⟨R, 0, none⟩), .int .i64 m] w (RetSprs R A n c p w) := by
  obtain ⟨i0, hi, hz0, hz1, hz2⟩ := info_parts sprInfo
  have hg0 : w.grownBy (w.alloc (.cells #[] 30)) (some R) := grown_alloc (World.grownBy.refl w _) _
  have H0 := Lib.hid (h.kept (World.grownBy_alloc w (.cells #[] 30) none) (by simp))
  have hown0 : (w.alloc (.cells #[] 30)).ownsRow w.heap.size 30 2 (.slice (some ⟨w.heap.size, 0, none⟩) 0 0) 0 [] := World.ownsRow_made w #[] 0 (Nat.le_refl _) (by simp) rfl
  have Hown0 := Lib.hid hown0
  have Hg0 := Lib.hid hg0
  clear h hown0 hg0
  go_enter Try.func38, Try.ntmps38
  go_wp2_with fail
  refine (pick_c R A n c p ((m : Int) + 1) _ H0.out (by omega) (by omega) (by omega)).mono ?_
  rintro e w1 ⟨k1, rfl, k10, k11, hr1, hg1⟩
  have H1 := Lib.hid hr1
  have Hg1 := Lib.hid (grown_then Hg0.out hg1)
  have Hown1 := Lib.hid (own_kept_Z Hown0.out hg1 hRw)
  clear hr1 hg1 H0 Hg0 Hown0
  obtain ⟨N, rfl⟩ := Int.eq_ofNat_of_zero_le k10
  go_wp2
  go_loopw [5, 7] (fun o i wr => ∃ (k : Nat) (v : Value) (ds : List Spr), k ≤ N ∧ i = .int .i64 k ∧ v = o ∧ ds.length = k ∧ wr.ownsRow w.heap.size 30 2 v k (sprCells ds) ∧ Reader wr R A n c (p + 1 + 2 * k) ∧ w.grownBy wr (some R)) (fun _ i _ => N - (intOf i).toNat)
  case atStart => exact ⟨0, _, [], by omega, rfl, rfl, rfl, Hown1.out, H1.out, Hg1.out⟩
  case round =>
    obtain ⟨k, v, ds, hk, rfl, rfl, hdl, hok, hrd, hgk⟩ := hrel
    have Hrd := Lib.hid hrd
    have Hgk := Lib.hid hgk
    have hszk := hgk.size
    have Hdl := Lib.hid hdl
    have Hok := Lib.hid hok
    clear hrd hgk hdl hok H1 Hg1 Hown1
    obtain hlt | hge := Nat.lt_or_ge k N
    · have g1 : (k : Int) < (N : Int) := by omega
      go_wp2_with fail
      refine (pick_c R A n c (p + 1 + 2 * k) 12 _ Hrd.out (by omega) (by omega) (by omega)).mono ?_
      rintro e w2 ⟨a1, rfl, a10, a11, hr2, hg2⟩
      have H2 := Lib.hid hr2
      have Hg2 := Lib.hid (grown_then Hgk.out hg2)
      have Hok2 := Lib.hid (own_kept_Z Hok.out hg2 hRw)
      clear hr2 hg2 Hrd Hgk Hok
      go_wp2_with fail
      refine (pick_c R A n c (p + 1 + 2 * k + 1) 3 _ H2.out (by omega) (by omega) (by omega)).mono ?_
      rintro e w3 ⟨a2, rfl, a20, a21, hr3, hg3⟩
      have H3 := Lib.hid hr3
      have Hg3 := Lib.hid (grown_then Hg2.out hg3)
      have hok := own_kept_Z Hok2.out hg3 hRw
      have hsz3 := Hg3.out.size
      have t0 : a2.tdiv 2 = a2 / 2 := Int.tdiv_eq_ediv_of_nonneg a20
      have q0 : IntKind.i64.wrap (a2 / 2) = a2 / 2 := IntWalk.i64_in _ (by omega)
      clear hr3 hg3 H2 Hg2 Hok2
      go_wp2_with (at_builtin; refine wpList_append_own _ rfl _ _ 23 rfl w.heap.size 30 i0 _ 2 16 Try.underlying23 hi hz0 hz1 hz2 rfl (by decide) v k _ rfl (hok.alloc _) ⟨w3.heap.size, 0, none⟩ 1 1 (sprCell ⟨1 + a1, a2 / 2⟩) rfl rfl (sprCell_new _ ⟨1 + a1, a2 / 2⟩ _) (sprCell_one _) (by unfold maxLen; omega) (by omega) (by simp; omega) ?_; intro v' w5 hown5 hg5 _)
      have hga : w3.grownBy w5 v.ownBlock := grown_then (grown_alloc (World.grownBy.refl w3 _) _) hg5
      have H5 := Lib.hid (H3.out.kept hga (fun r e => by have := (hok.lt r e).1; omega))
      have Hg5 := Lib.hid (grown_new Hg3.out hga (fun r e => (hok.lt r e).1))
      have Hown5 := Lib.hid hown5
      clear hok hga hg5 hown5 H3 Hg3
      go_roundw
      case rel => exact ⟨k + 1, v', ds ++ [⟨1 + a1, a2 / 2⟩], by omega, by go_num, rfl, by simp [Hdl.out], by rw [sprCells_snoc]; exact Hown5.out, H5.out, Hg5.out⟩
      case measure => simp [intOf]; omega
    · obtain rfl : k = N := by omega
      by_cases hk0 : 0 < k
      · have g1 : (0 : Int) < (k : Int) := by omega
        obtain ⟨g, cap, rfl, hcap⟩ := own_ptr2 (k := k - 1) Hok.out (by omega)
        have hgl := Hok.out.lt g rfl
        go_wp2_with fail
        refine (pick_c R A n c (p + 1 + 2 * k) 40 _ Hrd.out (by omega) (by omega) (by omega)).mono ?_
        rintro e w3 ⟨k3, rfl, k30, k31, hr3, hg3⟩
        have hsz3 := hg3.size
        have H3 := Lib.hid hr3
        have Hg3 := Lib.hid (grown_then Hgk.out hg3)
        have Hok3 := Lib.hid (own_kept_Z Hok.out hg3 hRw)
        clear hr3 hg3 Hrd Hgk Hok
        obtain ⟨z, zs, rfl⟩ : ∃ z zs, ds = z :: zs := by
          have := Hdl.out
          cases ds with
          | nil => simp at this; omega
          | cons z zs => exact ⟨z, zs, rfl⟩
        have Hzl := Lib.hid (show zs.length + 1 = k from Hdl.out)
        obtain rfl | hk30 := Classical.em (k3 = 0)
        · go_wp2_with fail
          have hga3 : w3.grownBy (w3.alloc (.cells #[.int .i64 0, .int .i64 51] 3)) (some R) := grown_alloc (World.grownBy.refl w3 _) _
          refine (pick_c R A n c (p + 1 + 2 * k + 1) 2 _ (H3.out.kept (grown_alloc (World.grownBy.refl w3 none) _) (by simp)) (by omega) (by omega) (by omega)).mono ?_
          rintro e w4 ⟨k4, rfl, k40, k41, hr4, hg4⟩
          have hrow := (hg4.block w3.heap.size (by simp) (by simp; omega)).trans (heap_alloc_new w3 _)
          have hc0 := cell_of_row _ _ 0 _ _ _ hrow
          have hc1 := cell_of_row _ _ 1 _ _ _ hrow
          have hga4 := grown_then hga3 hg4
          have hok4 := own_kept_Z Hok3.out hga4 hRw
          have hst := fun y : Int => hok4.stored 0 (.int .i64 y)
          have hck := hok4.cellAt 0 (by omega)
          have hfk := hok4.frozenAt 0
          rw [sprCells_cons] at hck
          simp at hc0 hc1 hck
          have Hst := Lib.hid hst
          have Hr4 := Lib.hid hr4
          have Hg4 := Lib.hid (grown_then Hg3.out hga4)
          have Hrow := Lib.hid hrow
          clear hst hr4 hga3 hga4 hg4 hok4 hrow Hg3 H3 Hok3
          obtain rfl | rfl : k4 = 0 ∨ k4 = 1 := by omega
          · go_wp2
            go_ret
            exact RetSprs.mk (zs := ⟨0, z.k⟩ :: zs) (by rw [List.length_cons, Hzl.out]; omega) (by have := (Hst.out (0)).1; rw [List.length_cons, Hzl.out]; exact this) (Hr4.out.kept (Hst.out (0)).2 (by simp; omega)) (by omega) (grown_new Hg4.out (Hst.out (0)).2 (by simp; omega))
          · go_wp2
            go_ret
            exact RetSprs.mk (zs := ⟨51, z.k⟩ :: zs) (by rw [List.length_cons, Hzl.out]; omega) (by have := (Hst.out (51)).1; rw [List.length_cons, Hzl.out]; exact this) (Hr4.out.kept (Hst.out (51)).2 (by simp; omega)) (by omega) (grown_new Hg4.out (Hst.out (51)).2 (by simp; omega))
        have b0 : (k3 == 0) = false := by simpa using hk30
        obtain rfl | hk31 := Classical.em (k3 = 1)
        · go_wp2_with fail
          have hga3 : w3.grownBy (w3.alloc (.cells #[.int .i64 (-1), .int .i64 4] 3)) (some R) := grown_alloc (World.grownBy.refl w3 _) _
          refine (pick_c R A n c (p + 1 + 2 * k + 1) 2 _ (H3.out.kept (grown_alloc (World.grownBy.refl w3 none) _) (by simp)) (by omega) (by omega) (by omega)).mono ?_
          rintro e w4 ⟨k4, rfl, k40, k41, hr4, hg4⟩
          have hrow := (hg4.block w3.heap.size (by simp) (by simp; omega)).trans (heap_alloc_new w3 _)
          have hc0 := cell_of_row _ _ 0 _ _ _ hrow
          have hc1 := cell_of_row _ _ 1 _ _ _ hrow
          have hga4 := grown_then hga3 hg4
          have hok4 := own_kept_Z Hok3.out hga4 hRw
          have hst := fun y : Int => hok4.stored 1 (.int .i64 y)
          have hck := hok4.cellAt 1 (by omega)
          have hfk := hok4.frozenAt 1
          rw [sprCells_cons] at hck
          simp at hc0 hc1 hck
          have Hst := Lib.hid hst
          have Hr4 := Lib.hid hr4
          have Hg4 := Lib.hid (grown_then Hg3.out hga4)
          have Hrow := Lib.hid hrow
          clear hst hr4 hga3 hga4 hg4 hok4 hrow Hg3 H3 Hok3
          obtain rfl | rfl : k4 = 0 ∨ k4 = 1 := by omega
          · go_wp2
            go_ret
            exact RetSprs.mk (zs := ⟨z.m, -1⟩ :: zs) (by rw [List.length_cons, Hzl.out]; omega) (by have := (Hst.out (-1)).1; rw [List.length_cons, Hzl.out]; exact this) (Hr4.out.kept (Hst.out (-1)).2 (by simp; omega)) (by omega) (grown_new Hg4.out (Hst.out (-1)).2 (by simp; omega))
          · go_wp2
            go_ret
            exact RetSprs.mk (zs := ⟨z.m, 4⟩ :: zs) (by rw [List.length_cons, Hzl.out]; omega) (by have := (Hst.out (4)).1; rw [List.length_cons, Hzl.out]; exact this) (Hr4.out.kept (Hst.out (4)).2 (by simp; omega)) (by omega) (grown_new Hg4.out (Hst.out (4)).2 (by simp; omega))
        have b1 : (k3 == 1) = false := by simpa using hk31
        go_wp2
        go_ret
        exact RetSprs.mk (zs := z :: zs) (by rw [List.length_cons, Hzl.out]; omega) (by rw [List.length_cons, Hzl.out]; exact Hok3.out) H3.out (by omega) Hg3.out
      · obtain rfl : k = 0 := by omega
        have hd0 := List.eq_nil_of_length_eq_zero Hdl.out
        subst hd0
        have Hfin := Lib.hid (RetSprs.mk (zs := []) (p := p) (by simp) Hok.out Hrd.out (by omega) Hgk.out)
        clear Hok Hrd Hgk
        go_wp2
        go_ret
        exact Hfin.out

end Go.Proofs.Ytmbdggakahbciaa
