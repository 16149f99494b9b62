/-
  The drawn floors: l91Floor.
-/
import Derived.Test.YtndpdoiomoefpaaOpen
import Derived.Test.YtndpdoiomoefpaaNeed
namespace Go.Proofs.Ytndpdoiomoefpaa
open Go.RowKit

/-- WHAT A DRAWN FLOOR IS: some list of at most 20 ints in new memory; the reader some places further; nothing else. -/
def RetFloor (R : Nat) (A : Option Addr) (n c p : Nat) (w : World) (e : Ending) (w' : World) : Prop :=
  ∃ B d zs q, e = .returned (.slice B (zs : List Int).length d) ∧ zs.length ≤ 20 ∧ Arg w' B d zs ∧ Ow 3 w.heap.size w'.heap.size w' (.slice B zs.length d) zs ∧ Reader w' R A n c q ∧ q ≤ p + 100 ∧ w.grownBy w' (some R)

theorem RetFloor.mk {R : Nat} {A : Option Addr} {n c p q : Nat} {w w' : World} {v : Value} {zs : List Int} (hl : zs.length ≤ 20) (ho : w'.ownsRow w.heap.size 3 1 v zs.length (zs.map (Value.int .i64))) (hr : Reader w' R A n c q) (hq : q ≤ p + 100) (hg : w.grownBy w' (some R)) :
    RetFloor R A n c p w (.returned v) w' := by
  have h := Ow.of_own ho
  obtain ⟨B, d, rfl, _, _, _⟩ := h.form
  exact ⟨B, d, zs, q, rfl, hl, h.arg (by omega) (Nat.le_refl _), h, hr, hq, hg⟩

theorem own_ptr {W : World} {base n k : Nat} {e : TypeId} {v : Value} {xs : List Value} (h : W.ownsRow base e 1 v n xs) (hn : n = k + 1) : ∃ g cap, v = .slice (some ⟨g, 0, none⟩) n cap ∧ n ≤ cap := by
  rcases h.2 with ⟨_, h0⟩ | ⟨g, cap, cur, h1, _, _, h2, _⟩
  · omega
  · exact ⟨g, cap, h1, h2⟩
theorem own_take {W : World} {base n g cap : Nat} {e : TypeId} {xs : List Value} (h : W.ownsRow base e 1 (.slice (some ⟨g, 0, none⟩) n cap) n xs) (m : Nat) (hm : m ≤ n) : W.ownsRow base e 1 (.slice (some ⟨g, 0, none⟩) m cap) m (xs.take m) := by
  rcases h.2 with ⟨h', _⟩ | ⟨g', cap', cur, h', hb, hg, hnc, hcm, hcs, ht⟩
  · simp at h'
  · simp only [Value.slice.injEq, Option.some.injEq, Addr.mk.injEq, and_true, true_and] at h'
    obtain ⟨rfl, rfl⟩ := h'
    have hl := h.1
    refine ⟨by simp; omega, .inr ⟨g, cap, cur, rfl, hb, hg, by omega, hcm, hcs, ?_⟩⟩
    rw [← ht, List.take_take]
    congr 1
    omega

set_option maxRecDepth 100000 in
set_option maxHeartbeats 4000000 in
theorem l91Floor_c (R : Nat) (A : Option Addr) (n c p : Nat) (m : Int) (w : World) (h : Reader w R A n c p) (hRw : R < w.heap.size) (hp : p ≤ 50000) (hm0 : 2 ≤ m) (hm1 : m ≤ 16) :
    Calls Try.prog 82 #[.pointer (some ⟨R, 0, none⟩), .int .i64 m] w (RetFloor R A n c p w) := by
  obtain ⟨i0, hi, hz0, hz1, hz2⟩ := info_parts int_info
  have hg0 : w.grownBy (w.alloc (.cells #[] 3)) (some R) := grown_alloc (World.grownBy.refl w _) _
  have H0 := Lib.hid (h.kept (World.grownBy_alloc w (.cells #[] 3) none) (by simp))
  have hown0 : (w.alloc (.cells #[] 3)).ownsRow w.heap.size 3 1 (.slice (some ⟨w.heap.size, 0, none⟩) 0 0) 0 [] := World.ownsRow_made w #[] 0 (Nat.le_refl _) (by simp) rfl
  have Hown0 := Lib.hid hown0
  have Hg0 := Lib.hid hg0
  clear h hown0 hg0
  go_enter Try.func82, Try.ntmps82
  go_wp2_with fail
  refine (pick_c R A n c p (m - 1) _ H0.out (by omega) (by omega) (by omega)).mono ?_
  rintro e w1 ⟨k1, rfl, k10, k11, hr1, hg1⟩
  have H1 := Lib.hid hr1
  have Hg1 := Lib.hid (grown_then Hg0.out hg1)
  have Hown1 := Lib.hid (Hown0.out.kept hg1 (.inr (by simp [Value.ownBlock]; omega)))
  clear hr1 hg1 H0 Hg0 Hown0
  go_wp2_with fail
  refine (pick_c R A n c (p + 1) 30 _ H1.out (by omega) (by omega) (by omega)).mono ?_
  rintro e w2 ⟨k2, rfl, k20, k21, hr2, hg2⟩
  have H2 := Lib.hid hr2
  have Hg2 := Lib.hid (grown_then Hg1.out hg2)
  have Hown2 := Lib.hid (Hown1.out.kept hg2 (.inr (by simp [Value.ownBlock]; omega)))
  clear hr2 hg2 H1 Hg1 Hown1
  obtain ⟨N, rfl⟩ := Int.eq_ofNat_of_zero_le k10
  go_wp2
  go_loopw [5, 7, 8] (fun o dd i wr => ∃ (k : Nat) (v : Value) (ds : List Int) (x : Int), k ≤ 2 + N ∧ i = .int .i64 k ∧ v = o ∧ dd = .int .i64 x ∧ 0 ≤ x ∧ x ≤ 40 ∧ ds.length = k ∧ wr.ownsRow w.heap.size 3 1 v k (ds.map (Value.int .i64)) ∧ Reader wr R A n c (p + 2 + k) ∧ w.grownBy wr (some R)) (fun _ _ i _ => 2 + N - (intOf i).toNat)
  case atStart => exact ⟨0, _, [], k2, by omega, rfl, rfl, rfl, by omega, by omega, rfl, Hown2.out, H2.out, Hg2.out⟩
  case round =>
    obtain ⟨k, v, ds, x, hk, rfl, rfl, rfl, hx0, hx1, hdl, hok, hrd, hgk⟩ := hrel
    have Hrd := Lib.hid hrd
    have Hgk := Lib.hid hgk
    have hszk := hgk.size
    have Hdl := Lib.hid hdl
    clear hrd hgk hdl
    obtain hlt | hge := Nat.lt_or_ge k (2 + N)
    · go_wp2_with (at_builtin; refine wpList_append_own _ rfl _ _ 23 rfl w.heap.size 3 i0 (.int .i64 0) 1 8 Try.underlying23 hi hz0 hz1 hz2 rfl (by decide) v k _ rfl (hok.alloc _) ⟨wr.heap.size, 0, none⟩ 1 1 [.int .i64 x] rfl rfl (one_new _ _ _) (by simp [Value.oneCell']) (by unfold maxLen; omega) (by omega) (by simp; omega) ?_; intro v' w3 hown3 hg3 _)
      have hga : wr.grownBy w3 v.ownBlock := grown_then (grown_alloc (World.grownBy.refl wr _) _) hg3
      have H3 := Lib.hid (Hrd.out.kept hga (fun r e => by have := (hok.lt r e).1; omega))
      have Hg3 := Lib.hid (grown_new Hgk.out hga (fun r e => (hok.lt r e).1))
      have Hown3 := Lib.hid hown3
      clear hok hga hg3 hown3 Hrd Hgk
      refine (pick_c R A n c (p + 2 + k) 17 _ H3.out (by omega) (by omega) (by omega)).mono ?_
      rintro e w4 ⟨k3, rfl, k30, k31, hr4, hg4⟩
      have H4 := Lib.hid (show Reader w4 R A n c (p + 2 + (k + 1)) from hr4)
      have Hg4 := Lib.hid (grown_then Hg3.out hg4)
      have Hown4 := Lib.hid (Hown3.out.kept hg4 (by
        cases hb : v'.ownBlock with
        | none => exact .inl rfl
        | some g => exact .inr fun e => by have := (Hown3.out.lt g hb).1; simp at e; omega))
      clear hr4 hg4 H3 Hg3 Hown3
      have q1 : IntKind.i64.wrap (x + k3) = x + k3 := IntWalk.i64_in _ (by omega)
      have q2 : IntKind.i64.wrap (x + k3 - 8) = x + k3 - 8 := IntWalk.i64_in _ (by omega)
      by_cases c1 : 40 ≤ x + k3 - 8
      · go_wp2
        go_roundw
        case rel => exact ⟨k + 1, v', ds ++ [x], 40, by omega, by go_num, rfl, rfl, by omega, by omega, by simp [Hdl.out], by rw [List.map_append]; exact Hown4.out, H4.out, Hg4.out⟩
        case measure => simp [intOf]; omega
      · go_wp2
        go_roundw
        case rel => exact ⟨k + 1, v', ds ++ [x], if 8 < x + k3 then x + k3 - 8 else 0, by omega, by go_num, rfl, rfl, by split <;> omega, by split <;> omega, by simp [Hdl.out], by rw [List.map_append]; exact Hown4.out, H4.out, Hg4.out⟩
        case measure => simp [intOf]; omega
    · obtain rfl : k = 2 + N := by omega
      obtain ⟨g, cap, rfl, hcap⟩ := own_ptr (k := 1 + N) hok (by omega)
      have hgl := hok.lt g rfl
      have Hok := Lib.hid hok
      clear hok
      go_wp2_with fail
      refine (pick_c R A n c (p + 2 + (2 + N)) 40 _ Hrd.out (by omega) (by omega) (by omega)).mono ?_
      rintro e w3 ⟨k3, rfl, k30, k31, hr3, hg3⟩
      have hsz3 := hg3.size
      have H3 := Lib.hid hr3
      have Hg3 := Lib.hid (grown_then Hgk.out hg3)
      have Hok3 := Lib.hid (Hok.out.kept hg3 (.inr (by simp [Value.ownBlock]; omega)))
      clear hr3 hg3 Hrd Hgk Hok
      obtain rfl | hk30 := Classical.em (k3 = 0)
      · go_wp2_with fail
        have hga3 : w3.grownBy (w3.alloc (.cells #[.int .i64 (-1), .int .i64 41] 3)) (some R) := grown_alloc (World.grownBy.refl w3 _) _
        refine (pick_c R A n c (p + 2 + (2 + N) + 1) 2 _ (H3.out.kept (grown_alloc (World.grownBy.refl w3 none) _) (by simp)) (by omega) (by omega) (by omega)).mono ?_
        rintro e w4 ⟨k4, rfl, k40, k41, hr4, hg4⟩
        have hrow := (hg4.block w3.heap.size (by simp) (by simp; omega)).trans (heap_alloc_new w3 _)
        have hc0 := cell_of_row _ _ 0 _ _ _ hrow
        have hc1 := cell_of_row _ _ 1 _ _ _ hrow
        have hga4 := grown_then hga3 hg4
        have hok4 := Hok3.out.kept hga4 (.inr (by simp [Value.ownBlock]; omega))
        have hst := fun y : Int => hok4.stored 0 (.int .i64 y)
        have hck := hok4.cellAt 0 (by omega)
        have hfk := hok4.frozenAt 0
        obtain ⟨z, zs, rfl⟩ : ∃ z zs, ds = z :: zs := by
          have := Hdl.out
          cases ds with
          | nil => simp at this; omega
          | cons z zs => exact ⟨z, zs, rfl⟩
        simp at hc0 hc1 hck
        have Hst := Lib.hid hst
        have Hr4 := Lib.hid hr4
        have Hg4 := Lib.hid (grown_then Hg3.out hga4)
        have Hrow := Lib.hid hrow
        clear hst hr4 hga3 hga4 hg4 hok4 hrow Hg3 H3 Hok3
        obtain rfl | rfl : k4 = 0 ∨ k4 = 1 := by omega
        · go_wp2
          go_ret
          exact RetFloor.mk (zs := -1 :: zs) (by have := Hdl.out; simp at this ⊢; omega) (by have := (Hst.out (-1)).1; have e := Hdl.out; simp at e this ⊢; rw [e]; exact this) (Hr4.out.kept (Hst.out (-1)).2 (by simp; omega)) (by omega) (grown_new Hg4.out (Hst.out (-1)).2 (by simp; omega))
        · go_wp2
          go_ret
          exact RetFloor.mk (zs := 41 :: zs) (by have := Hdl.out; simp at this ⊢; omega) (by have := (Hst.out 41).1; have e := Hdl.out; simp at e this ⊢; rw [e]; exact this) (Hr4.out.kept (Hst.out 41).2 (by simp; omega)) (by omega) (grown_new Hg4.out (Hst.out 41).2 (by simp; omega))
      · obtain rfl | hk31 := Classical.em (k3 = 1)
        · have hcap1 : 1 ≤ cap := by omega
          go_wp2
          go_ret
          exact RetFloor.mk (zs := ds.take 1) (by simp; omega) (by have := own_take Hok3.out 1 (by omega); have e := Hdl.out; simpa [e, List.map_take, show min 1 (2 + N) = 1 by omega] using this) H3.out (by omega) Hg3.out
        · obtain rfl | hk32 := Classical.em (k3 = 2)
          · go_wp2
            go_ret
            exact RetFloor.mk (zs := []) (by simp) (World.ownsRow_made _ #[] _ (by omega) (by simp) rfl) (H3.out.kept (grown_alloc (World.grownBy.refl _ none) _) (by simp)) (by omega) (grown_alloc Hg3.out _)
          · have b0 : (k3 == 0) = false := by simpa using hk30
            have b1 : (k3 == 1) = false := by simpa using hk31
            have b2 : (k3 == 2) = false := by simpa using hk32
            go_wp2
            go_ret
            exact RetFloor.mk (zs := ds) (by rw [Hdl.out]; omega) (by rw [Hdl.out]; exact Hok3.out) H3.out (by omega) Hg3.out

end Go.Proofs.Ytndpdoiomoefpaa
