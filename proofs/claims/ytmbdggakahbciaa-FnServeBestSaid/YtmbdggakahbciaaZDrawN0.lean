/-
  The drawn needs: l91Needs, DrawServeMany.
-/
import Derived.Test.YtmbdggakahbciaaZDrawJ0
import Derived.Deep.RegionHeld3
import Derived.Deep.AppendLies
namespace Go.Proofs.Ytmbdggakahbciaa
open Go.RowKit

theorem own_kept_none {w w' : World} {base : Nat} {e : TypeId} {n : Nat} {v : Value} {xs : List Value} (h : w.ownsRow base e 2 v n xs) (hg : w.grownBy w' none) : w'.ownsRow base e 2 v n xs := by
  refine h.kept hg ?_
  cases hb : v.ownBlock with
  | none => exact .inl rfl
  | some g => exact .inr fun e => by cases e
/-- spares and needs -/
def RetNd (R : Nat) (A : Option Addr) (n c p : Nat) (w : World) (e : Ending) (w' : World) : Prop :=
  ∃ B d zs B2 d2 ys q, e = .returned (.tuple #[.slice B (zs : List Spr).length d, .slice B2 (ys : List Spr).length d2]) ∧ zs.length ≤ 12 ∧ ys.length ≤ 3 ∧ OwZ 30 w.heap.size w'.heap.size w' (.slice B zs.length d) zs ∧ OwZ 30 w.heap.size w'.heap.size w' (.slice B2 ys.length d2) ys ∧ Reader w' R A n c q ∧ q ≤ p + 200 ∧ w.grownBy w' (some R)

theorem ret_needs {R : Nat} {A : Option Addr} {n c p q : Nat} {w wb w' : World} {B : Option Addr} {d : Nat} {zs ys : List Spr} {A9 : Option Addr} {c9 : Nat} (hzl : zs.length ≤ 12) (hyl : ys.length ≤ 3) (hwb : w.heap.size ≤ wb.heap.size) (ho : OwZ 30 w.heap.size wb.heap.size w' (.slice B zs.length d) zs)
    (hown : w'.ownsRow wb.heap.size 30 2 (.slice A9 ys.length c9) ys.length (sprCells ys)) (hr : Reader w' R A n c q) (hq : q ≤ p + 200) (hg : w.grownBy w' (some R)) (hs : wb.heap.size ≤ w'.heap.size) :
    RetNd R A n c p w (.returned (.tuple #[.slice B zs.length d, .slice A9 ys.length c9])) w' :=
  ⟨B, d, zs, A9, c9, ys, q, rfl, hzl, hyl, ho.more (Nat.le_refl _) hs, (OwZ.of_own hown).more hwb (Nat.le_refl _), hr, hq, hg⟩

set_option maxRecDepth 100000 in
set_option maxHeartbeats 8000000 in
theorem l91Needs_c (R : Nat) (A : Option Addr) (n c p : Nat) (w : World) (h : Reader w R A n c p) (hRw : R < w.heap.size) (hp : p ≤ 40000) :
    Calls Try.prog 51 #[.pointer (some ⟨R, 0, none⟩)] w (RetNd R A n c p w) := by
  obtain ⟨i0, hi, hz0, hz1, hz2⟩ := info_parts sprInfo
  have H0 := Lib.hid h
  clear h
  go_enter Try.func51, Try.ntmps51
  go_wp2_with fail
  refine (l91Spares_c R A n c p 6 _ H0.out hRw (by omega) (by omega)).mono ?_
  rintro e w1 ⟨B, d, zs, q, rfl, hzl, _, ho1, hr1, hq, hg1⟩
  have s1 := hg1.size
  have HO1 := Lib.hid (ho1.kept (World.grownBy_alloc w1 (.cells #[] 30) none) (by simp))
  have HR1 := Lib.hid (hr1.kept (World.grownBy_alloc w1 (.cells #[] 30) none) (by simp))
  have HG1 := Lib.hid (grown_alloc hg1 (.cells #[] 30))
  have Hown1 := Lib.hid (show (w1.alloc (.cells #[] 30)).ownsRow w1.heap.size 30 2 (.slice (some ⟨w1.heap.size, 0, none⟩) 0 0) 0 [] from World.ownsRow_made w1 #[] 0 (Nat.le_refl _) (by simp) rfl)
  clear ho1 hr1 hg1 H0
  go_wp2_with fail
  refine (pick_c R A n c q 4 _ HR1.out (by omega) (by omega) (by omega)).mono ?_
  rintro e w2 ⟨k2, rfl, k20, k21, hr2, hg2⟩
  have s2 := hg2.size
  have HO2 := Lib.hid (HO1.out.kept hg2 (fun r e => by cases e; exact .inl hRw))
  have HR2 := Lib.hid hr2
  have HG2 := Lib.hid (grown_then HG1.out hg2)
  have Hown2 := Lib.hid (own_kept_Z Hown1.out hg2 (by omega))
  clear hr2 hg2 HO1 HR1 HG1 Hown1
  obtain ⟨N, rfl⟩ := Int.eq_ofNat_of_zero_le k20
  go_wp2
  go_loopw [5, 7] (fun o iv wr => ∃ (i : Nat) (v : Value) (ds : List Spr) (qr : Nat), i ≤ N ∧ iv = .int .i64 i ∧ v = o ∧ ds.length = i ∧ wr.ownsRow w1.heap.size 30 2 v i (sprCells ds) ∧ Reader wr R A n c qr ∧ qr ≤ p + 101 + 2 * i ∧ OwZ 30 w.heap.size w1.heap.size wr (.slice B zs.length d) zs ∧ w.grownBy wr (some R) ∧ w1.heap.size ≤ wr.heap.size) (fun _ iv _ => N - (intOf iv).toNat)
  case atStart => exact ⟨0, _, [], q + 1, by omega, rfl, rfl, rfl, Hown2.out, HR2.out, by omega, HO2.out, HG2.out, by simp at s2; omega⟩
  case round =>
    obtain ⟨i, v, ds, qr, hiN, rfl, rfl, hdl, hok, hrd, hqr, hoz, hgk, hsw⟩ := hrel
    have Hrd := Lib.hid hrd
    have Hgk := Lib.hid hgk
    have Hdl := Lib.hid hdl
    have Hok := Lib.hid hok
    have Hoz := Lib.hid hoz
    clear hrd hgk hdl hok hoz HO2 HR2 HG2 Hown2
    by_cases hgo : i < N ∧ 0 < zs.length
    · obtain ⟨hlt, hz0'⟩ := hgo
      have g1 : (i : Int) < (N : Int) := by omega
      have g2 : (0 : Int) < (zs.length : Int) := by omega
      go_wp2_with fail
      refine (pick_c R A n c qr (zs.length : Int) _ Hrd.out (by omega) (by omega) (by omega)).mono ?_
      rintro e w3 ⟨a3, rfl, a30, a31, hr3, hg3⟩
      have s3 := hg3.size
      have HR3 := Lib.hid hr3
      have HG3 := Lib.hid (grown_then Hgk.out hg3)
      have Hown3 := Lib.hid (own_kept_Z Hok.out hg3 (by omega))
      have HO3 := Lib.hid (Hoz.out.kept hg3 (fun r e => by cases e; exact .inl hRw))
      clear hr3 hg3 Hrd Hgk Hok Hoz
      obtain ⟨y, rfl⟩ := Int.eq_ofNat_of_zero_le a30
      have hy : y < zs.length := by omega
      have harg := HO3.out.arg (by omega) (by omega)
      obtain ⟨b, off, rfl, _, hbw, c0, c1⟩ := harg.rd.at_ hy
      obtain ⟨s, hs⟩ : ∃ s, sprAt zs y = s := ⟨_, rfl⟩
      rw [hs] at c0 c1
      have g3 : (y : Int) < (zs.length : Int) := by omega
      obtain ⟨w8, hw8⟩ : ∃ w8, w3.alloc (.cells #[.int .i64 s.m, .int .i64 s.k] 30) = w8 := ⟨_, rfl⟩
      have hg8 : w3.grownBy w8 none := by rw [← hw8]; exact World.grownBy_alloc w3 _ none
      have hg8d : w3.grownBy w8.drew none := grown_drew hg8
      have hs8 : w8.heap.size = w3.heap.size + 1 := by rw [← hw8]; simp
      have e0 : w8.cell? ⟨w3.heap.size, 0, none⟩ = some (.int .i64 s.m) := by rw [← hw8]; exact cell_of_row _ _ 0 _ _ _ (heap_alloc_new w3 _)
      have e1 : w8.cell? ⟨w3.heap.size, 1, none⟩ = some (.int .i64 s.k) := by rw [← hw8]; exact cell_of_row _ _ 1 _ _ _ (heap_alloc_new w3 _)
      have HR8 := Lib.hid (show Reader w8.drew R A n c (qr + 1) from HR3.out.kept hg8d (by simp))
      have HG8 := Lib.hid (show w.grownBy w8.drew (some R) from grown_drew (grown_new HG3.out hg8 (by simp)))
      have Hown8 := Lib.hid (show w8.drew.ownsRow w1.heap.size 30 2 v i (sprCells ds) from own_kept_none Hown3.out hg8d)
      have HO8 := Lib.hid (show OwZ 30 w.heap.size w1.heap.size w8.drew (.slice (some ⟨b, off, none⟩) zs.length d) zs from HO3.out.kept hg8d (by simp))
      have Hne9 := Lib.hid (fun (e : some w3.heap.size = v.ownBlock) => (show False by have := (Hown3.out.lt w3.heap.size e.symm).2; omega))
      have hdrs : w8.drew.heap.size = w8.heap.size := rfl
      obtain ⟨N8, hN8e⟩ : ∃ N8, w3.heap.size = N8 := ⟨_, rfl⟩
      rw [hN8e] at e0 e1 Hne9 hs8
      have hN8 : N8 < w8.drew.heap.size := by omega
      have pk1 := And.intro e0 e1
      have Hw8 := Lib.hid hw8
      clear hs hw8 hg8 hg8d harg
      go_wp2
      rw [Hw8.out]
      refine wp_region_held_drew (S := (fun w9 => w9.cell? ⟨N8, 0, none⟩ = some (.int .i64 s.m) ∧ w9.cell? ⟨N8, 1, none⟩ = some (.int .i64 s.k))) (by kernel_rfl) (pk1) (fun hHeld => ?_)
      refine wpAnyH_take (i := 0) (oi := { dst := some 31, op := _, type := _, pos := _, after := _, guard := _ }) (v := ?v0) rfl (by kernel_rfl) (by kernel_rfl) (by kernel_rfl) (fun _ _ _ h => h) (Or.inl ⟨by kernel_rfl, ?y0⟩) (by assumption) ?r0
      case y0 => intro w hSw; (try dsimp only at hSw); go_simp; try with_reducible rfl
      try simp only [Act.put, List.setIfInBounds_toArray, List.set_cons_zero, List.set_cons_succ]
      refine wpAnyH_take (i := 1) (oi := { dst := some 32, op := _, type := _, pos := _, after := _, guard := _ }) (v := ?v1) rfl (by kernel_rfl) (by kernel_rfl) (by kernel_rfl) (fun _ _ _ h => h) (Or.inl ⟨by kernel_rfl, ?y1⟩) (by assumption) ?r1
      case y1 => intro w hSw; (try dsimp only at hSw); go_simp; try with_reducible rfl
      try simp only [Act.put, List.setIfInBounds_toArray, List.set_cons_zero, List.set_cons_succ]
      refine wpAnyH_take (i := 2) (oi := { dst := some 33, op := _, type := _, pos := _, after := _, guard := _ }) (v := ?v2) rfl (by kernel_rfl) (by kernel_rfl) (by kernel_rfl) (fun _ _ _ h => h) (Or.inl ⟨by kernel_rfl, ?y2⟩) (by assumption) ?r2
      case y2 => intro w hSw; (try dsimp only at hSw); go_simp; try with_reducible rfl
      try simp only [Act.put, List.setIfInBounds_toArray, List.set_cons_zero, List.set_cons_succ]
      refine wpAnyH_take (i := 3) (oi := { dst := some 34, op := _, type := _, pos := _, after := _, guard := _ }) (v := ?v3) rfl (by kernel_rfl) (by kernel_rfl) (by kernel_rfl) (fun _ _ _ h => h) (Or.inl ⟨by kernel_rfl, ?y3⟩) (by assumption) ?r3
      case y3 => intro w hSw; (try dsimp only at hSw); go_simp; try with_reducible rfl
      try simp only [Act.put, List.setIfInBounds_toArray, List.set_cons_zero, List.set_cons_succ]
      refine wpAnyH_take (i := 7) (oi := { dst := some 38, op := _, type := _, pos := _, after := _, guard := _ }) (v := ?v4) rfl (by kernel_rfl) (by kernel_rfl) (by kernel_rfl) (fun _ _ _ h => h) (Or.inl ⟨by kernel_rfl, ?y4⟩) (by assumption) ?r4
      case y4 => intro w hSw; (try dsimp only at hSw); go_simp; try with_reducible rfl
      try simp only [Act.put, List.setIfInBounds_toArray, List.set_cons_zero, List.set_cons_succ]
      refine wpAnyH_take (i := 8) (oi := { dst := some 39, op := _, type := _, pos := _, after := _, guard := _ }) (v := ?v5) rfl (by kernel_rfl) (by kernel_rfl) (by kernel_rfl) (fun _ _ _ h => h) (Or.inl ⟨by kernel_rfl, ?y5⟩) (by assumption) ?r5
      case y5 => intro w hSw; (try dsimp only at hSw); go_simp; try with_reducible rfl
      try simp only [Act.put, List.setIfInBounds_toArray, List.set_cons_zero, List.set_cons_succ]
      refine wpAnyH_ready (rs := [4]) (by kernel_rfl) (by simp) ?_
      refine AllReadyH.cons (o := { dst := some 35, op := _, type := _, pos := _, after := _, guard := _ }) rfl (fun K hK => ?_) AllReadyH.nil
      go_simp
      refine (pick_c R A n c (qr + 1) 5 _ HR8.out (by omega) (by omega) (by omega)).mono ?_
      rintro e w9 ⟨a9, rfl, a90, a91, hr9, hg9⟩
      have s9 := hg9.size
      have HR9 := Lib.hid hr9
      have HG9 := Lib.hid (grown_then HG8.out hg9)
      have hown9 := own_kept_Z Hown8.out hg9 (by omega)
      have HO9 := Lib.hid (HO8.out.kept hg9 (fun r e => by cases e; exact .inl hRw))
      have pk9 := And.intro ((World.cell?_of_block (hg9.block N8 hN8 (by simp; omega))).trans pk1.1) ((World.cell?_of_block (hg9.block N8 hN8 (by simp; omega))).trans pk1.2)
      obtain ⟨u, hu⟩ : ∃ u, IntKind.i64.wrap (s.m - a9) = u := ⟨_, rfl⟩
      obtain ⟨mx, hmx⟩ : ∃ mx, (if (1 : Int) < u then u else 1) = mx := ⟨_, rfl⟩
      clear hr9 hg9
      go_wp2_with fail
      refine hK.out _ _ (pk9) (fun hHeld2 => ?_)
      clear hK K
      try simp only [Act.put, List.setIfInBounds_toArray, List.set_cons_zero, List.set_cons_succ]
      refine wpAnyH_take (i := 5) (oi := { dst := some 36, op := _, type := _, pos := _, after := _, guard := _ }) (v := ?v7) rfl (by kernel_rfl) (by kernel_rfl) (by kernel_rfl) (fun _ _ _ h => h) (Or.inl ⟨by kernel_rfl, ?y7⟩) (by assumption) ?r7
      case y7 => intro w hSw; (try dsimp only at hSw); go_simp; try with_reducible rfl
      try simp only [Act.put, List.setIfInBounds_toArray, List.set_cons_zero, List.set_cons_succ]
      refine wpAnyH_take (i := 6) (oi := { dst := some 37, op := _, type := _, pos := _, after := _, guard := _ }) (v := ?v8) rfl (by kernel_rfl) (by kernel_rfl) (by kernel_rfl) (fun _ _ _ h => h) (Or.inl ⟨by kernel_rfl, ?y8⟩) (by assumption) ?r8
      case y8 => intro w hSw; (try dsimp only at hSw); go_simp; try with_reducible rfl
      try simp only [Act.put, List.setIfInBounds_toArray, List.set_cons_zero, List.set_cons_succ]
      refine wpAnyH_take (i := 9) (oi := { dst := some 40, op := _, type := _, pos := _, after := _, guard := _ }) (v := ?v9) rfl (by kernel_rfl) (by kernel_rfl) (by kernel_rfl) (fun _ _ _ h => h) (Or.inl ⟨by kernel_rfl, ?y9⟩) (by assumption) ?r9
      case y9 => intro w hSw; (try dsimp only at hSw); go_simp; try with_reducible rfl
      try simp only [Act.put, List.setIfInBounds_toArray, List.set_cons_zero, List.set_cons_succ]
      refine wpAnyH_ready (rs := [10]) (by kernel_rfl) (by simp) ?_
      refine AllReadyH.cons (o := { dst := some 41, op := _, type := _, pos := _, after := _, guard := _ }) rfl (fun K hK => ?_) AllReadyH.nil
      go_simp
      refine hK.out _ _ (⟨(World.cell?_alloc_lt _ _ _ (by show N8 < _; omega)).trans pk9.1, (World.cell?_alloc_lt _ _ _ (by show N8 < _; omega)).trans pk9.2⟩) (fun hHeld2 => ?_)
      clear hK K
      try simp only [Act.put, List.setIfInBounds_toArray, List.set_cons_zero, List.set_cons_succ]
      refine wpAnyH_ready (rs := [11]) (by kernel_rfl) (by simp) ?_
      refine AllReadyH.cons (o := { dst := some 42, op := _, type := _, pos := _, after := _, guard := _ }) rfl (fun K hK => ?_) AllReadyH.nil
      refine step_append_lies _ rfl (.tmp 31) (.tmp 41) 23 rfl w1.heap.size 30 i0 (.agg #[.int .i64 0, .int .i64 0]) 2 16 Try.underlying23 hi hz0 hz1 hz2 rfl (by decide) v i (sprCells ds) (by simp [Act.eval]) (hown9.alloc _) ⟨w9.heap.size, 0, none⟩ 1 1 (sprCell ⟨mx, s.k⟩) (by simp [Act.eval]) rfl (sprCell_new w9 ⟨mx, s.k⟩ _) (sprCell_one _) (by omega) (by unfold maxLen; omega) (by omega) (by simp; omega) _ rfl ?_
      intro g5 cap5 w5 hown5 hg5 _ _
      have hga : w9.grownBy w5 v.ownBlock := grown_then (grown_alloc (World.grownBy.refl w9 _) _) hg5
      have hgl := fun r e => (hown9.lt r e).1
      have s5 := hga.size
      have H5 := Lib.hid (HR9.out.kept hga (fun r e => by have := hgl r e; omega))
      have HG5 := Lib.hid (grown_new HG9.out hga (fun r e => by have := hgl r e; omega))
      have HO5 := Lib.hid (HO9.out.kept hga (fun r e => .inr (hgl r e)))
      have Hown5 := Lib.hid hown5
      have pk5 := And.intro ((World.cell?_of_block (hga.block N8 (by omega) (fun e => Hne9.out e))).trans pk9.1) ((World.cell?_of_block (hga.block N8 (by omega) (fun e => Hne9.out e))).trans pk9.2)
      clear hown9 hga hg5 hown5 hgl
      refine hK.out _ _ (pk5) (fun hHeld2 => ?_)
      clear hK K
      try simp only [Act.put, List.setIfInBounds_toArray, List.set_cons_zero, List.set_cons_succ]
      refine wpAnyH_take (i := 12) (oi := { dst := some 5, op := _, type := _, pos := _, after := _, guard := _ }) (v := ?v12) rfl (by kernel_rfl) (by kernel_rfl) (by kernel_rfl) (fun _ _ _ h => h) (Or.inl ⟨by kernel_rfl, ?y12⟩) (by assumption) ?r12
      case y12 => intro w hSw; (try dsimp only at hSw); go_simp; try with_reducible rfl
      try simp only [Act.put, List.setIfInBounds_toArray, List.set_cons_zero, List.set_cons_succ]
      refine wpAnyH_done (by kernel_rfl) ?_ _
      go_wp2
      go_roundw
      case rel => exact ⟨i + 1, _, ds ++ [⟨mx, s.k⟩], qr + 1 + 1, by omega, by go_num, rfl, by simp [Hdl.out], by rw [sprCells_snoc]; exact Hown5.out, H5.out, by omega, HO5.out, HG5.out, by omega⟩
      case measure => simp [intOf]; omega
    · have hN3 : N ≤ 3 := by omega
      have gx : ¬ ((i : Int) < (N : Int)) ∨ ((i : Int) < (N : Int) ∧ ¬ (0 : Int) < (zs.length : Int)) := by omega
      clear hgo
      rcases gx with gx | ⟨gx, gx2⟩
      · have gxd : decide ((i : Int) < (N : Int)) = false := decide_eq_false gx
        by_cases hpos : 0 < N ∧ 0 < i
        · obtain ⟨hN0, hi0⟩ := hpos
          have gN : (0 : Int) < (N : Int) := by omega
          have gi : (0 : Int) < (i : Int) := by omega
          obtain ⟨g, cap, rfl, hcap⟩ := own_ptr2 (k := i - 1) Hok.out (by omega)
          have hgl := Hok.out.lt g rfl
          go_wp2_with fail
          refine (pick_c R A n c qr 20 _ Hrd.out (by omega) (by omega) (by omega)).mono ?_
          rintro e w3 ⟨k3, rfl, k30, k31, hr3, hg3⟩
          have s3 := hg3.size
          have HR3 := Lib.hid hr3
          have HG3 := Lib.hid (grown_then Hgk.out hg3)
          have hown3 := own_kept_Z Hok.out hg3 (by omega)
          have HO3 := Lib.hid (Hoz.out.kept hg3 (fun r e => by cases e; exact .inl hRw))
          clear hr3 hg3 Hrd Hgk Hok Hoz
          by_cases hk0 : k3 = 0
          · subst hk0
            obtain ⟨z, zs', rfl⟩ : ∃ z zs', ds = z :: zs' := by
              have := Hdl.out
              cases ds with
              | nil => simp at this; omega
              | cons z zs' => exact ⟨z, zs', rfl⟩
            obtain ⟨hst1, hst2⟩ := hown3.stored 0 (.int .i64 0)
            have hck := hown3.cellAt 0 (by omega)
            have hfk := hown3.frozenAt 0
            rw [sprCells_cons] at hck
            simp at hck
            have hi1 : (⟨0, z.k⟩ :: zs' : List Spr).length = i := Hdl.out
            have hs1 : (sprCells (z :: zs')).set 0 (.int .i64 0) = sprCells (⟨0, z.k⟩ :: zs') := rfl
            rw [hs1] at hst1
            have Hfin := Lib.hid (ret_needs (R := R) (A := A) (n := n) (c := c) (p := p) (q := qr + 1) (w := w) (wb := w1) (ys := ⟨0, z.k⟩ :: zs') hzl (by omega) s1 (HO3.out.kept hst2 (fun r e => by cases e; exact .inr hgl.1)) (by rw [hi1]; exact hst1) (HR3.out.kept hst2 (fun r e => by cases e; omega)) (by omega) (grown_new HG3.out hst2 (fun r e => by cases e; omega)) (by simp [World.setCell]; omega))
            rw [hi1] at Hfin
            clear hst1 hst2 hown3 hs1
            go_wp2
            go_ret2
            exact Hfin.out
          · have hkb : (k3 == 0) = false := by simpa using hk0
            have hi1 := Hdl.out
            have Hfin := Lib.hid (ret_needs (R := R) (A := A) (n := n) (c := c) (p := p) (q := qr + 1) (w := w) (wb := w1) (ys := ds) hzl (by omega) s1 HO3.out (by rw [hi1]; exact hown3) HR3.out (by omega) HG3.out (by omega))
            rw [hi1] at Hfin
            clear hown3 hk0
            go_wp2
            go_ret2
            exact Hfin.out
        · have hi1 := Hdl.out
          obtain ⟨A9, c9, hv9, _, _, _⟩ := (OwZ.of_own (zs := ds) (by rw [hi1]; exact Hok.out)).form
          rw [hi1] at hv9
          subst hv9
          have Hfin := Lib.hid (ret_needs (R := R) (A := A) (n := n) (c := c) (p := p) (q := qr) (w := w) (wb := w1) (ys := ds) hzl (by omega) s1 Hoz.out (by rw [hi1]; exact Hok.out) Hrd.out (by omega) Hgk.out hsw)
          rw [hi1] at Hfin
          clear Hok Hoz Hrd Hgk
          by_cases hN0 : 0 < N
          · have gN : (0 : Int) < (N : Int) := by omega
            obtain rfl : i = 0 := by omega
            go_wp2
            all_goals
              go_ret2
              exact Hfin.out
          · obtain rfl : N = 0 := by omega
            go_wp2
            all_goals
              go_ret2
              exact Hfin.out
      · have gxd : decide ((i : Int) < (N : Int)) = true := decide_eq_true gx
        have gxd2 : decide ((0 : Int) < (zs.length : Int)) = false := decide_eq_false gx2
        by_cases hpos : 0 < N ∧ 0 < i
        · obtain ⟨hN0, hi0⟩ := hpos
          have gN : (0 : Int) < (N : Int) := by omega
          have gi : (0 : Int) < (i : Int) := by omega
          obtain ⟨g, cap, rfl, hcap⟩ := own_ptr2 (k := i - 1) Hok.out (by omega)
          have hgl := Hok.out.lt g rfl
          go_wp2_with fail
          refine (pick_c R A n c qr 20 _ Hrd.out (by omega) (by omega) (by omega)).mono ?_
          rintro e w3 ⟨k3, rfl, k30, k31, hr3, hg3⟩
          have s3 := hg3.size
          have HR3 := Lib.hid hr3
          have HG3 := Lib.hid (grown_then Hgk.out hg3)
          have hown3 := own_kept_Z Hok.out hg3 (by omega)
          have HO3 := Lib.hid (Hoz.out.kept hg3 (fun r e => by cases e; exact .inl hRw))
          clear hr3 hg3 Hrd Hgk Hok Hoz
          by_cases hk0 : k3 = 0
          · subst hk0
            obtain ⟨z, zs', rfl⟩ : ∃ z zs', ds = z :: zs' := by
              have := Hdl.out
              cases ds with
              | nil => simp at this; omega
              | cons z zs' => exact ⟨z, zs', rfl⟩
            obtain ⟨hst1, hst2⟩ := hown3.stored 0 (.int .i64 0)
            have hck := hown3.cellAt 0 (by omega)
            have hfk := hown3.frozenAt 0
            rw [sprCells_cons] at hck
            simp at hck
            have hi1 : (⟨0, z.k⟩ :: zs' : List Spr).length = i := Hdl.out
            have hs1 : (sprCells (z :: zs')).set 0 (.int .i64 0) = sprCells (⟨0, z.k⟩ :: zs') := rfl
            rw [hs1] at hst1
            have Hfin := Lib.hid (ret_needs (R := R) (A := A) (n := n) (c := c) (p := p) (q := qr + 1) (w := w) (wb := w1) (ys := ⟨0, z.k⟩ :: zs') hzl (by omega) s1 (HO3.out.kept hst2 (fun r e => by cases e; exact .inr hgl.1)) (by rw [hi1]; exact hst1) (HR3.out.kept hst2 (fun r e => by cases e; omega)) (by omega) (grown_new HG3.out hst2 (fun r e => by cases e; omega)) (by simp [World.setCell]; omega))
            rw [hi1] at Hfin
            clear hst1 hst2 hown3 hs1
            go_wp2
            go_ret2
            exact Hfin.out
          · have hkb : (k3 == 0) = false := by simpa using hk0
            have hi1 := Hdl.out
            have Hfin := Lib.hid (ret_needs (R := R) (A := A) (n := n) (c := c) (p := p) (q := qr + 1) (w := w) (wb := w1) (ys := ds) hzl (by omega) s1 HO3.out (by rw [hi1]; exact hown3) HR3.out (by omega) HG3.out (by omega))
            rw [hi1] at Hfin
            clear hown3 hk0
            go_wp2
            go_ret2
            exact Hfin.out
        · have hi1 := Hdl.out
          obtain ⟨A9, c9, hv9, _, _, _⟩ := (OwZ.of_own (zs := ds) (by rw [hi1]; exact Hok.out)).form
          rw [hi1] at hv9
          subst hv9
          have Hfin := Lib.hid (ret_needs (R := R) (A := A) (n := n) (c := c) (p := p) (q := qr) (w := w) (wb := w1) (ys := ds) hzl (by omega) s1 Hoz.out (by rw [hi1]; exact Hok.out) Hrd.out (by omega) Hgk.out hsw)
          rw [hi1] at Hfin
          clear Hok Hoz Hrd Hgk
          by_cases hN0 : 0 < N
          · have gN : (0 : Int) < (N : Int) := by omega
            obtain rfl : i = 0 := by omega
            go_wp2
            all_goals
              go_ret2
              exact Hfin.out
          · obtain rfl : N = 0 := by omega
            go_wp2
            all_goals
              go_ret2
              exact Hfin.out

/-- spares and needs, drawn -/
def RetNeeds (w : World) (e : Ending) (w' : World) : Prop :=
  ∃ B d zs B2 d2 ys, e = .returned (.tuple #[.slice B (zs : List Spr).length d, .slice B2 (ys : List Spr).length d2]) ∧ zs.length ≤ 12 ∧ ys.length ≤ 3 ∧ ArgZ w' B d zs ∧ ArgZ w' B2 d2 ys ∧ Below w.heap.size w w'

end Go.Proofs.Ytmbdggakahbciaa
