/-
  The drawn charts: l92Chart. (Written by a program of mine, gen9d.py.)
-/
import Derived.Test.YtjboamhjfncgdaaOpen
import Derived.Test.YtjboamhjfncgdaaAppK
import Derived.Laws.AppendOwn
import Derived.Deep.RegionHeld3
namespace Go.Proofs.Ytjboamhjfncgdaa
open Go.RowKit

/-- WHAT A DRAWN CHART IS: some list of a few routes in new memory; the reader some places further; nothing else. -/
def RetCh (R : Nat) (A : Option Addr) (n c p : Nat) (most : Nat) (w : World) (e : Ending) (w' : World) : Prop :=
  ∃ B d zs q, e = .returned (.slice B (zs : List Rot).length d) ∧ zs.length ≤ most ∧ OwK 37 w.heap.size w'.heap.size w' (.slice B zs.length d) zs ∧ Reader w' R A n c q ∧ q ≤ p + 100 ∧ w.grownBy w' (some R)
theorem RetCh.mk {R : Nat} {A : Option Addr} {n c p q most : Nat} {w w' : World} {v : Value} {zs : List Rot} (hl : zs.length ≤ most) (ho : w'.ownsRow w.heap.size 37 4 v zs.length (rotCells zs)) (hr : Reader w' R A n c q) (hq : q ≤ p + 100) (hg : w.grownBy w' (some R)) :
    RetCh R A n c p most w (.returned v) w' := by
  have h : OwK 37 w.heap.size w'.heap.size w' v zs := OwK.of_own ho
  obtain ⟨B, d, rfl, _, _, _⟩ := h.form
  exact ⟨B, d, zs, q, rfl, hl, h, hr, hq, hg⟩
theorem own_ptrR {W : World} {base n k size : Nat} {e : TypeId} {v : Value} {xs : List Value} (h : W.ownsRow base e size v n xs) (hn : n = k + 1) : ∃ g cap, v = .slice (some ⟨g, 0, none⟩) n cap ∧ n ≤ cap := by
  rcases h.2 with ⟨_, h0⟩ | ⟨g, cap, cur, h1, _, _, h2, _⟩
  · omega
  · exact ⟨g, cap, h1, h2⟩
theorem own_keptR {w w' : World} {R base size : Nat} {e : TypeId} {n : Nat} {v : Value} {xs : List Value} (h : w.ownsRow base e size v n xs) (hg : w.grownBy w' (some R)) (hR : R < base) : w'.ownsRow base e size v n xs := by
  refine h.kept hg ?_
  cases hb : v.ownBlock with
  | none => exact .inl rfl
  | some g => exact .inr fun e => by have := (h.lt g hb).1; simp at e; omega

theorem argK_one3 (w : World) (o : Obj) (s : Rot) (t : TypeId) : ArgK ((w.alloc o).alloc (.cells #[.int .i64 s.a, .int .i64 s.b, .int .i64 s.c, .int .i64 s.d] t)) (some ⟨w.heap.size + 1, 0, none⟩) 1 [s] := by
  have h := argK_one (w.alloc o) s t
  have e : (w.alloc o).heap.size = w.heap.size + 1 := by simp
  rw [e] at h
  exact h
set_option maxRecDepth 100000 in
set_option maxHeartbeats 8000000 in
theorem l92Chart_c (R : Nat) (A : Option Addr) (n c p : Nat) (most : Nat) (w : World) (h : Reader w R A n c p) (hRw : R < w.heap.size) (hp : p ≤ 50000) (hm1 : 1 ≤ most) (hm2 : most ≤ 10) :
    Calls Try.prog 73 #[.pointer (some ⟨R, 0, none⟩), .int .i64 (most : Int)] w (RetCh R A n c p most w) := by
  obtain ⟨i0, hi, hz0, hz1, hz2⟩ := info_parts rotInf
  have hs1 : w.heap.size ≤ w.heap.size := Nat.le_refl _
  have Ho0 : Hid ((w.alloc (.cells #[] 37)).ownsRow w.heap.size 37 4 (.slice (some ⟨w.heap.size, 0, none⟩) 0 0) 0 []) := Lib.hid (OwnsRow.more (World.ownsRow_made w #[] 0 (Nat.le_refl _) (by simp) rfl) hs1)
  have H0 := Lib.hid (h.kept (World.grownBy_alloc w (.cells #[] 37) none) (by simp))
  have Hg0 := Lib.hid (grown_alloc (World.grownBy.refl w (some R)) (.cells #[] 37))
  clear h
  have q1 : IntKind.i64.wrap ((most : Int) + 1) = (most : Int) + 1 := IntWalk.i64_in _ (by omega)
  go_enter Try.func73, Try.ntmps73
  go_wp2_with fail
  refine (pick_c R A n c (p) ((most : Int) + 1) _ H0.out (by omega) (by omega) (by omega)).mono ?_
  rintro e w2 ⟨a2, rfl, a20, a21, hr2, hg2⟩
  have H2 := Lib.hid hr2
  have Hg2 := Lib.hid (grown_then Hg0.out hg2)
  have Ho2 := Lib.hid (own_keptR Ho0.out hg2 hRw)
  clear hr2 hg2 H0 Hg0 Ho0
  obtain ⟨N, rfl⟩ := Int.eq_ofNat_of_zero_le a20
  have hN : N ≤ most := by omega
  clear q1
  go_wp2
  go_loopw [5, 7] (fun o i wr => ∃ (k : Nat) (v : Value) (ds : List Rot) (q : Nat), k ≤ N ∧ i = .int .i64 k ∧ v = o ∧ ds.length ≤ k ∧ wr.ownsRow w.heap.size 37 4 v ds.length (rotCells ds) ∧ Reader wr R A n c q ∧ q ≤ p + 1 + 4 * k ∧ w.grownBy wr (some R)) (fun _ i _ => N - (intOf i).toNat)
  case atStart => exact ⟨0, _, [], p + 1, by omega, rfl, rfl, Nat.le_refl _, Ho2.out, H2.out, by omega, Hg2.out⟩
  case round =>
    obtain ⟨k, v, ds, q, hk, rfl, rfl, hdl, hok, hrd, hq, hgk⟩ := hrel
    have H2 := Lib.hid hrd
    have Hg2 := Lib.hid hgk
    have hszk := hgk.size
    have Ho2 := Lib.hid hok
    have Hdl := Lib.hid hdl
    clear hrd hgk hok
    obtain hlt | hge := Nat.lt_or_ge k N
    · have g1 : (k : Int) < (N : Int) := by omega
      go_wp2_with fail
      refine (pick_c R A n c (q) 7 _ H2.out (by omega) (by omega) (by omega)).mono ?_
      rintro e w3 ⟨a3, rfl, a30, a31, hr3, hg3⟩
      have H3 := Lib.hid hr3
      have Hg3 := Lib.hid (grown_then Hg2.out hg3)
      have Ho3 := Lib.hid (own_keptR Ho2.out hg3 hRw)
      clear hr3 hg3 H2 Hg2 Ho2
      go_wp2_with fail
      refine (pick_c R A n c (q + 1) 7 _ H3.out (by omega) (by omega) (by omega)).mono ?_
      rintro e w4 ⟨a4, rfl, a40, a41, hr4, hg4⟩
      have H4 := Lib.hid hr4
      have Hg4 := Lib.hid (grown_then Hg3.out hg4)
      have Ho4 := Lib.hid (own_keptR Ho3.out hg4 hRw)
      clear hr4 hg4 H3 Hg3 Ho3
      go_wp2_with fail
      refine (pick_c R A n c (q + 1 + 1) 7 _ H4.out (by omega) (by omega) (by omega)).mono ?_
      rintro e w5 ⟨a5, rfl, a50, a51, hr5, hg5⟩
      have H5 := Lib.hid hr5
      have Hg5 := Lib.hid (grown_then Hg4.out hg5)
      have Ho5 := Lib.hid (own_keptR Ho4.out hg5 hRw)
      clear hr5 hg5 H4 Hg4 Ho4
      go_wp2_with fail
      refine (pick_c R A n c (q + 1 + 1 + 1) 7 _ H5.out (by omega) (by omega) (by omega)).mono ?_
      rintro e w6 ⟨a6, rfl, a60, a61, hr6, hg6⟩
      have H6 := Lib.hid hr6
      have Hg6 := Lib.hid (grown_then Hg5.out hg6)
      have Ho6 := Lib.hid (own_keptR Ho5.out hg6 hRw)
      clear hr6 hg6 H5 Hg5 Ho5
      have hdl2 : ds.length ≤ 10 := by have := Hdl.out; omega
      obtain ⟨box, hbox⟩ : ∃ o : Obj, o = .cells #[.int .i64 a3, .int .i64 a4, .int .i64 a5, .int .i64 a6] 37 := ⟨_, rfl⟩
      have hsk : (w6.alloc box).ownsRow w.heap.size 37 4 v ds.length (rotCells ds) ∧ Reader (w6.alloc box) R A n c (q + 1 + 1 + 1 + 1) ∧ w.grownBy (w6.alloc box) (some R) := ⟨Ho6.out.alloc _, H6.out.kept (World.grownBy_alloc w6 box none) (by simp), grown_alloc Hg6.out box⟩
      have hsz : w.heap.size ≤ (w6.alloc box).heap.size := hsk.2.2.size
      have hgr : ∀ (v' : Value) (w9 : World) o2, (((w6.alloc box).alloc o2).grownBy w9 v.ownBlock) → Reader w9 R A n c (q + 1 + 1 + 1 + 1) ∧ w.grownBy w9 (some R) := fun v' w9 o2 hg => by
        have hga : w6.grownBy w9 v.ownBlock := grown_then (grown_alloc (grown_alloc (World.grownBy.refl w6 _) box) o2) hg
        exact ⟨H6.out.kept hga (fun r e => by have := (Ho6.out.lt r e).1; omega), grown_new Hg6.out hga (fun r e => (Ho6.out.lt r e).1)⟩
      subst hbox
      have Hsk := Lib.hid hsk
      have Hgr := Lib.hid hgr
      have Hsz := Lib.hid (show w.heap.size ≤ w6.heap.size from Hg6.out.size)
      clear hsk hgr H6 Hg6 Ho6 hsz
      by_cases hs1 : a3 = a5
      · by_cases hs2 : a4 = a6
        · have b1 : (a3 != a5) = false := by simp [hs1]
          have b2 : (a4 != a6) = false := by simp [hs2]
          clear hs1 hs2
          go_wp2
          go_roundw
          case rel => exact ⟨k + 1, v, ds, _, by omega, by go_num, rfl, by have := Hdl.out; omega, Hsk.out.1, Hsk.out.2.1, by omega, Hsk.out.2.2⟩
          case measure => simp [intOf]; omega
        · have b1 : (a3 != a5) = false := by simp [hs1]
          have b2 : (a4 != a6) = true := by simp [hs2]
          clear hs1 hs2
          go_wp2_with (at_builtin; refine wpList_append_rots rfl (.tmp 40) (.tmp 42) 23 rfl w.heap.size 37 i0 (.agg #[.int .i64 0, .int .i64 0, .int .i64 0, .int .i64 0]) Try.underlying23 hi hz0 hz1 hz2 rfl v ds rfl (Hsk.out.1.alloc _) (some ⟨w6.heap.size + 1, 0, none⟩) 1 [⟨a3, a4, a5, a6⟩] rfl (argK_one3 w6 _ ⟨a3, a4, a5, a6⟩ _) (by simp only [List.length_singleton]; omega) (by have := Hsz.out; simp; omega) ?_; intro v' w9 hown9 hg9; have H9 := Lib.hid hown9; have HG9 := Lib.hid (Hgr.out v' w9 _ hg9); clear hown9 hg9)
          go_roundw
          case rel => exact ⟨k + 1, v', ds ++ [⟨a3, a4, a5, a6⟩], _, by omega, by go_num, rfl, by have := Hdl.out; simp; omega, H9.out, HG9.out.1, by omega, HG9.out.2⟩
          case measure => simp [intOf]; omega
      · have b1 : (a3 != a5) = true := by simp [hs1]
        clear hs1
        go_wp2_with (at_builtin; refine wpList_append_rots rfl (.tmp 40) (.tmp 42) 23 rfl w.heap.size 37 i0 (.agg #[.int .i64 0, .int .i64 0, .int .i64 0, .int .i64 0]) Try.underlying23 hi hz0 hz1 hz2 rfl v ds rfl (Hsk.out.1.alloc _) (some ⟨w6.heap.size + 1, 0, none⟩) 1 [⟨a3, a4, a5, a6⟩] rfl (argK_one3 w6 _ ⟨a3, a4, a5, a6⟩ _) (by simp only [List.length_singleton]; omega) (by have := Hsz.out; simp; omega) ?_; intro v' w9 hown9 hg9; have H9 := Lib.hid hown9; have HG9 := Lib.hid (Hgr.out v' w9 _ hg9); clear hown9 hg9)
        go_roundw
        case rel => exact ⟨k + 1, v', ds ++ [⟨a3, a4, a5, a6⟩], _, by omega, by go_num, rfl, by have := Hdl.out; simp; omega, H9.out, HG9.out.1, by omega, HG9.out.2⟩
        case measure => simp [intOf]; omega
    · obtain rfl : k = N := by omega
      have hdl := Hdl.out
      by_cases hk0 : 0 < ds.length
      · have g1 : (0 : Int) < (ds.length : Int) := by omega
        obtain ⟨z, zs, rfl⟩ : ∃ z zs, ds = z :: zs := by
          cases ds with
          | nil => simp at hk0
          | cons z zs => exact ⟨z, zs, rfl⟩
        obtain ⟨g, cap, rfl, hcap⟩ := own_ptrR (k := zs.length) Ho2.out rfl
        have hgl := Ho2.out.lt g rfl
        have Hzl := Lib.hid (show zs.length + 1 ≤ most from by have := hdl; rw [List.length_cons] at this; omega)
        obtain ⟨nz, hnz⟩ : ∃ m, (z :: zs).length = m := ⟨_, rfl⟩
        have Hnz := Lib.hid (show zs.length + 1 = nz from hnz)
        rw [hnz] at Ho2 hcap g1 ⊢
        have hnz1 : 1 ≤ nz := by have := Hnz.out; omega
        clear hdl hnz hk0 Hdl
        go_wp2_with fail
        refine (pick_c R A n c q 40 _ H2.out (by omega) (by omega) (by omega)).mono ?_
        rintro e w3 ⟨k3, rfl, k30, k31, hr3, hg3⟩
        have hsz3 := hg3.size
        have H3 := Lib.hid hr3
        have Hg3 := Lib.hid (grown_then Hg2.out hg3)
        have Hok3 := Lib.hid (own_keptR Ho2.out hg3 hRw)
        clear hr3 hg3 H2 Hg2 Ho2
        have hck := fun j (hj : j < 4) => Hok3.out.cellAt j (by omega)
        have hc0 := hck 0 (by omega)
        have hc1 := hck 1 (by omega)
        have hc2 := hck 2 (by omega)
        have hc3 := hck 3 (by omega)
        have hf0 := Hok3.out.frozenAt 0
        have hf1 := Hok3.out.frozenAt 1
        have hf2 := Hok3.out.frozenAt 2
        have hf3 := Hok3.out.frozenAt 3
        rw [rotCells_cons] at hc0 hc1 hc2 hc3
        simp at hc0 hc1 hc2 hc3
        clear hck
        obtain rfl | hk30 := Classical.em (k3 = 0)
        · clear hc1 hc2 hc3 hf1 hf2 hf3
          go_wp2_with fail
          have hga3 : w3.grownBy (w3.alloc (.cells #[.int .i64 (-1), .int .i64 21, .int .i64 20] 3)) (some R) := grown_alloc (World.grownBy.refl w3 _) _
          refine (pick_c R A n c (q + 1) 3 _ (H3.out.kept (grown_alloc (World.grownBy.refl w3 none) _) (by simp)) (by omega) (by omega) (by omega)).mono ?_
          rintro e w4 ⟨k4, rfl, k40, k41, hr4, hg4⟩
          have hrow := (hg4.block w3.heap.size (by simp) (by simp; omega)).trans (heap_alloc_new w3 _)
          have hx0 := cell_of_row _ _ 0 _ _ _ hrow
          have hx1 := cell_of_row _ _ 1 _ _ _ hrow
          have hx2 := cell_of_row _ _ 2 _ _ _ hrow
          have hga4 := grown_then hga3 hg4
          have hok4 := own_keptR Hok3.out hga4 hRw
          have hst := fun y : Int => hok4.stored 0 (.int .i64 y)
          have hck := hok4.cellAt 0 (by omega)
          have hfk := hok4.frozenAt 0
          rw [rotCells_cons] at hck
          simp at hx0 hx1 hx2 hck
          have Hst := Lib.hid hst
          have Hr4 := Lib.hid hr4
          have Hg4 := Lib.hid (grown_then Hg3.out hga4)
          clear hst hr4 hga3 hga4 hg4 hok4 hrow Hg3 H3 Hok3 hc0 hf0
          obtain rfl | rfl | rfl : k4 = 0 ∨ k4 = 1 ∨ k4 = 2 := by omega
          · go_wp2
            go_ret
            exact RetCh.mk (zs := ⟨-1, z.b, z.c, z.d⟩ :: zs) (by rw [List.length_cons]; exact Hzl.out) (by have := (Hst.out (-1)).1; rw [List.length_cons, Hnz.out]; exact this) (Hr4.out.kept (Hst.out (-1)).2 (by simp; omega)) (by omega) (grown_new Hg4.out (Hst.out (-1)).2 (by simp; omega))
          · go_wp2
            go_ret
            exact RetCh.mk (zs := ⟨21, z.b, z.c, z.d⟩ :: zs) (by rw [List.length_cons]; exact Hzl.out) (by have := (Hst.out (21)).1; rw [List.length_cons, Hnz.out]; exact this) (Hr4.out.kept (Hst.out (21)).2 (by simp; omega)) (by omega) (grown_new Hg4.out (Hst.out (21)).2 (by simp; omega))
          · go_wp2
            go_ret
            exact RetCh.mk (zs := ⟨20, z.b, z.c, z.d⟩ :: zs) (by rw [List.length_cons]; exact Hzl.out) (by have := (Hst.out (20)).1; rw [List.length_cons, Hnz.out]; exact this) (Hr4.out.kept (Hst.out (20)).2 (by simp; omega)) (by omega) (grown_new Hg4.out (Hst.out (20)).2 (by simp; omega))
        have b0 : (k3 == 0) = false := by simpa using hk30
        obtain rfl | hk31 := Classical.em (k3 = 1)
        · have hst := (Hok3.out.stored 2 (.int .i64 z.a))
          have hst2 := hst.1.stored 3 (.int .i64 z.b)
          have Hst := Lib.hid (And.intro hst2.1 (grown_then hst.2 hst2.2))
          have y1 := hst.1.cellAt 1 (by omega)
          have y3 := hst.1.cellAt 3 (by omega)
          have y5 := hst.1.frozenAt 3
          rw [rotCells_cons] at y1 y3
          simp at y1 y3
          clear hst hst2
          go_wp2
          go_ret
          exact RetCh.mk (zs := ⟨z.a, z.b, z.a, z.b⟩ :: zs) (by rw [List.length_cons]; exact Hzl.out) (by have := Hst.out.1; rw [List.length_cons, Hnz.out]; exact this) (H3.out.kept Hst.out.2 (by simp; omega)) (by omega) (grown_new Hg3.out Hst.out.2 (by simp; omega))
        have b1 : (k3 == 1) = false := by simpa using hk31
        go_wp2
        go_ret
        exact RetCh.mk (zs := z :: zs) (by rw [List.length_cons]; exact Hzl.out) (by rw [List.length_cons, Hnz.out]; exact Hok3.out) H3.out (by omega) Hg3.out
      · have hd0 : ds = [] := List.eq_nil_of_length_eq_zero (by omega)
        subst hd0
        have how : OwK 37 w.heap.size wr.heap.size wr v [] := OwK.of_own Ho2.out
        obtain ⟨B, d, rfl, _, _, _⟩ := how.form
        have Hfin := Lib.hid (RetCh.mk (zs := []) (most := most) (p := p) (by simp) Ho2.out H2.out (by omega) Hg2.out)
        clear Ho2 H2 Hg2 how
        go_wp2
        go_ret
        exact Hfin.out

end Go.Proofs.Ytjboamhjfncgdaa
