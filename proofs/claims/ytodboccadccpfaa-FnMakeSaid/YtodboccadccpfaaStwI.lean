/-
  stowFirst of the program.
-/
import Derived.Test.YtodboccadccpfaaStkF
import Derived.Test.YtodboccadccpfaaTkO
import Derived.StillTailTactics
namespace Go.Proofs.Ytodboccadccpfaa
open Go.RowKit

theorem stk_info : (Try.prog.info? 157).map (fun i => (i.zero, i.size, i.bytes)) = some (some (.agg #[.slice none 0 0]), 1, 24) := by kernel_rfl

set_option maxRecDepth 100000 in
theorem stow1_c (x out : Int) (p : Nat) (w : World) (hc : w.cell? ⟨p, 0, none⟩ = some (.int .i64 out)) :
    Calls Try.prog 129 #[.int .i64 x, .pointer (some ⟨p, 0, none⟩)] w (RetB (.bool (decide (out < x))) w) := by
  go_enter Try.func129, Try.ntmps129
  go_wp2
  go_ret
  exact ⟨rfl, Below.refl _ _⟩

section
variable {t u : TypeId} {lo : Nat} {ow : Nat → Nat} {W W' : World} {sv tv tv' : Value} {Q : List (List Int)}
/-- a new stack -/
theorem Hold.open_ (h : Hold t u lo ow W sv Q) : ∃ svs, W.ownsRow lo u 1 sv Q.length svs ∧ ∀ W1 sv', W.grownBy W1 sv.ownBlock → W1.ownsRow lo u 1 sv' (Q.length + 1) (svs ++ [.slice none 0 0]) → (∀ g, sv'.ownBlock = some g → sv.ownBlock = some g ∨ W.heap.size ≤ g) →
    Hold t u lo (owAt ow W.heap.size 0) W1 sv' (Q ++ [[]]) := by
  obtain ⟨svs, hls, ho, h0, hp⟩ := h
  refine ⟨svs, ho, fun W1 sv' hg ho' hn => ⟨svs ++ [.slice none 0 0], by simp [hls], by simpa using ho', h0.at_new hn, fun k z hz => ?_⟩⟩
  rcases Nat.lt_or_ge k Q.length with h1 | h1
  · rw [List.getElem?_append_left h1] at hz
    obtain ⟨x, hx, hxo, hxl⟩ := hp k z hz
    exact ⟨x, by rw [List.getElem?_append_left (by omega)]; exact hx, hxo.kept hg (hxl.far h0 (by omega)), hxl.at_old fun g2 hg2 => (hxo.lt g2 hg2).2⟩
  · rw [List.getElem?_append_right h1] at hz
    have hk : k - Q.length = 0 := by
      have := (List.getElem?_eq_some_iff.1 hz).1
      simp at this
      omega
    rw [hk] at hz
    simp at hz
    subst hz
    refine ⟨.slice none 0 0, ?_, W1.ownsRow_nil _ _ _, Lab.nil _ _⟩
    rw [List.getElem?_append_right (by omega), hls, hk]
    rfl
/-- the other slice grows -/
theorem Hold.tail {o : Obj} {n : Nat} {e : TypeId} {xs : List Value} (h : Hold t u lo ow W sv Q) (ht : W.ownsRow lo e 1 tv n xs) (hl : Lab ow 1 tv) (hg : (W.alloc o).grownBy W' tv.ownBlock)
    (hn : ∀ g, tv'.ownBlock = some g → tv.ownBlock = some g ∨ (W.alloc o).heap.size ≤ g) : ∃ ow', Hold t u lo ow' W' sv Q ∧ Lab ow' 1 tv' := by
  have h1 : Hold t u lo ow (W.alloc o) sv Q := h.go ((Below.refl _ _).alloc (Nat.le_refl _) _)
  have h2 : Lab (owAt ow (W.alloc o).heap.size 1) 1 tv := hl.at_old fun g hgg => by
    have := (ht.lt g hgg).2
    simp
    omega
  exact ⟨owAt ow (W.alloc o).heap.size 1, (h1.label (j := 1)).kept h2 (.inl rfl) hg, hl.at_new hn⟩
end

/-- a box that belongs to nobody here -/
theorem box_kept {ow : Nat → Nat} {W W1 : World} {g k n c B : Nat} {v v' y : Value} (hB : ow B = 1) (h0 : Lab ow 0 (.slice (some ⟨g, 0, none⟩) n c)) (hvl : Lab ow (k + 2) v) (hg : W.grownBy W1 v.ownBlock) (hc : W.cell? ⟨B, 0, none⟩ = some y) :
    (W1.setCell ⟨g, k, none⟩ v').cell? ⟨B, 0, none⟩ = some y := by
  have h1 : B ≠ g := fun e => by
    have := h0 g rfl
    rw [← e] at this
    omega
  have h2 : some B ≠ v.ownBlock := fun e => by
    have := hvl B e.symm
    omega
  exact (World.cell?_of_block (Below.heap_setCell W1 ⟨g, k, none⟩ v' B h1)).trans (hg.cell (a := ⟨B, 0, none⟩) hc h2)

/-- the tank that the program finds -/
theorem first_pick {L : List Int} {k : Nat} {i : Int} (h : IsFirst (stP L k) (fun y => decide (L[k]?.getD 0 < y)) i) :
    (i = (stN L k : Nat) ∧ stN L k < (stP L k).length) ∨ (i = -1 ∧ stN L k = (stP L k).length) := by
  rcases h with ⟨j, rfl, hj, h1, h2⟩ | ⟨rfl, h2⟩
  · left
    rw [accP_ne (pile_ne L k j hj)] at h1
    have e : stN L k = j := pick_is hj (by simpa using h1) fun m hm => by
      have h3 := h2 m hm
      rw [accP_ne (pile_ne L k m (by omega))] at h3
      simp at h3
      omega
    exact ⟨by rw [e], by omega⟩
  · exact .inr ⟨rfl, pick_none fun m hm => by
      have h3 := h2 m hm
      rw [accP_ne (pile_ne L k m hm)] at h3
      simp at h3
      omega⟩

set_option maxRecDepth 100000 in
set_option maxHeartbeats 2000000 in
theorem stowFirst_b (A0 : Option Addr) (c0 : Nat) (z0 : List Int) (w : World) (h0 : Arg w A0 c0 z0) (hv : ordB z0 = true) :
    Calls Try.prog 98 #[.slice A0 z0.length c0] w (RetS 3 (fun v => .tuple #[v, .int .i64 (cntN z0)]) (stT z0 z0.length) w) := by
  have hl0 := h0.len
  have h10 := ord_len hv
  have H0 := Lib.hid h0
  have Hv := Lib.hid hv
  obtain ⟨i0, hi, hz0, hz1, hz2⟩ := info_parts int_info
  obtain ⟨j0, hj, hj0, hj1, hj2⟩ := info_parts stk_info
  clear h0 hv
  go_enter Try.func98, Try.ntmps98
  go_wp2_with (at_make; refine wpList_make_own _ rfl _ _ 67 rfl w.heap.size 3 i0 (.int .i64 0) 1 Try.underlying67 hi hz0 hz1 .i64 .i64 _ z0.length rfl rfl (by omega) (by rw [hz2]; omega) (by unfold maxLen; omega) (Nat.le_refl _) ?_; intro w1 hown hg1)
  go_loopw [4, 5, 14] (fun sv tp i wr => ∃ (k : Nat) (ow : Nat → Nat) (tv : Value), k ≤ z0.length ∧ i = .int .i64 k ∧ tv = tp ∧ Hold 3 157 w.heap.size ow wr sv (stP z0 k) ∧ wr.ownsRow w.heap.size 3 1 tv k ((stT z0 k).map (Value.int .i64)) ∧ Lab ow 1 tv ∧ Below w.heap.size w wr) (fun _ _ i _ => z0.length - (intOf i).toNat)
  case atStart => exact ⟨0, fun _ => 1, _, Nat.zero_le _, rfl, rfl, Hold.nil _ _ _ _ _, hown, fun _ _ => rfl, (Below.refl _ _).grown hg1 (Nat.le_refl _) (by simp)⟩
  case round =>
    obtain ⟨k, ow, tv, hk, rfl, rfl, hH, hT, hL, hb⟩ := hrel
    have HH := Lib.hid (hH.label (j := 1))
    have HT := Lib.hid hT
    have HL := Lib.hid (show Lab (owAt ow wr.heap.size 1) 1 tv from fun g hg => by unfold owAt; split; rfl; exact hL g hg)
    have How := Lib.hid (show owAt ow wr.heap.size 1 wr.heap.size = 1 by unfold owAt; rw [if_pos (Nat.le_refl _)])
    have Hb := Lib.hid hb
    obtain ⟨A, c, rfl, hac, hcm⟩ := hH.form
    clear hH hT hL hb
    obtain ⟨ow1, how1⟩ : ∃ ow1, owAt ow wr.heap.size 1 = ow1 := ⟨_, rfl⟩
    rw [how1] at HH HL How
    clear how1
    by_cases hlt : k < z0.length
    · obtain ⟨b, off, rfl, _, hbw, hc0⟩ := (H0.out.go Hb.out).rd.at_ hlt
      have Hpick := Lib.hid (fun i => first_pick (L := z0) (k := k) (i := i))
      have Hnext := Lib.hid (stP_succ z0 k)
      have Hts := Lib.hid (stT_succ z0 k)
      have hq10 := st_len_le z0 k
      have hp10 := pile_small z0 k
      have Hout := Lib.hid (pile_out (stP z0 k) (Nat.le_refl _))
      obtain ⟨x, hx⟩ : ∃ x, z0[k]?.getD 0 = x := ⟨_, rfl⟩
      obtain ⟨t, ht⟩ : ∃ t, stN z0 k = t := ⟨_, rfl⟩
      obtain ⟨Q, hQ⟩ : ∃ Q, stP z0 k = Q := ⟨_, rfl⟩
      rw [hx, hQ, ht] at Hpick
      rw [hx, hQ, ht] at Hnext
      rw [ht] at Hts
      rw [hQ] at HH hac hq10 hp10 Hout
      rw [hx] at hc0
      have g1 : (k : Int) < (z0.length : Int) := by omega
      have b1 : Below wr.heap.size wr (wr.alloc (.cells #[.int .i64 x] 3)) := (Below.refl _ _).alloc (Nat.le_refl _) _
      have HB := Lib.hid b1
      rw [hQ]
      have hb0 := Hb.out.size
      have hbox : (wr.alloc (.cells #[.int .i64 x] 3)).cell? ⟨wr.heap.size, 0, none⟩ = some (.int .i64 x) := cell_of_row _ _ 0 _ _ _ (heap_alloc_new wr _)
      have Hbox := Lib.hid hbox
      clear b1 hx ht hQ hbox
      go_wp2_with fail
      refine (firstTop_c 129 #[.pointer (some ⟨wr.heap.size, 0, none⟩)] (fun y => decide (x < y)) A c Q _ (fun args w => enters_of Try.func129 (by kernel_rfl) rfl args w) (HH.out.rd.go HB.out) (by omega) (fun j => by have := hp10 j; omega)
        (fun y W h => stow1_c y x wr.heap.size W ((h.cell (p := ⟨wr.heap.size, 0, none⟩) (by simp)).trans Hbox.out))).mono ?_
      rintro e w3 ⟨⟨i, rfl, hi3⟩, hb3⟩
      replace HH := Lib.hid ((HH.out.go HB.out).go hb3)
      replace HT := Lib.hid (own_below (own_below HT.out HB.out) hb3)
      replace Hb := Lib.hid (below_step (below_step Hb.out HB.out) hb3)
      have hbx : w3.cell? ⟨wr.heap.size, 0, none⟩ = some (.int .i64 x) := (hb3.cell (p := ⟨wr.heap.size, 0, none⟩) (by simp)).trans Hbox.out
      have Hs3 := Lib.hid (show wr.heap.size < w3.heap.size by have := hb3.size; simp at this; omega)
      clear hb3
      rcases Hpick.out i hi3 with ⟨rfl, hlt2⟩ | ⟨rfl, hlen2⟩
      · clear hi3
        have hz : Q[t]? = some (pileAt Q t) := pileAt_some hlt2
        have hset : Q.set t (pileAt Q t ++ [x]) = stP z0 (k + 1) := by rw [Hnext.out]; unfold putP; rw [if_pos hlt2]
        have hz10 := hp10 t
        obtain ⟨z, hzz⟩ : ∃ z, pileAt Q t = z := ⟨_, rfl⟩
        rw [hzz] at hz hset hz10
        have Hset := Lib.hid hset
        clear hzz hset
        obtain ⟨n2, hn2⟩ : ∃ n2, Q.length = n2 := ⟨_, rfl⟩
        rw [hn2] at HH hlt2 ⊢
        clear hn2 hac hq10
        have gneg : ((t : Int) < 0) = False := eq_false (by omega)
        obtain ⟨g, v, hA, hc2, hf2, ho2, hne2, hlg, hgw, hvl⟩ := HH.out.at_ hz
        cases hA
        have hcD : w3.drew.cell? ⟨g, t, none⟩ = some v := hc2
        have hfD : w3.drew.frozen? ⟨g, t, none⟩ = false := hf2
        have hoD : w3.drew.ownsRow w.heap.size 3 1 v z.length (z.map (Value.int .i64)) := own_below ho2 (below_drewN (Below.refl _ _) 1)
        have hbxD : w3.drew.cell? ⟨wr.heap.size, 0, none⟩ = some (.int .i64 x) := hbx
        have HbxD := Lib.hid hbxD
        have HD := Lib.hid (HH.out.go (below_drewN (Below.refl w3.heap.size w3) 1))
        have TD := Lib.hid (own_below HT.out (below_drewN (Below.refl w3.heap.size w3) 1))
        have BD := Lib.hid (below_drewN Hb.out 1)
        have h0D := Lib.hid (show Lab ow1 0 (.slice (some ⟨g, 0, none⟩) n2 c) from by obtain ⟨_, _, _, h, _⟩ := HH.out; exact h)
        have Hpush := Lib.hid (push_c g t v z x w.heap.size w3.drew hcD hfD hoD hne2 (by omega) (by have := Hb.out.size; exact this) hgw)
        have Hz := Lib.hid hz
        have Hvl := Lib.hid hvl
        have Hlg := Lib.hid hlg
        have HoD := Lib.hid hoD
        have g2 : (0 : Int) ≤ (t : Int) := by omega
        have g3 : (t : Int) < (n2 : Int) := by omega
        clear hc2 hf2 ho2 hne2 hlg hgw hvl hcD hfD hoD hbxD hz
        go_wp2
        go_region_held3 (fun w9 => w9.cell? ⟨wr.heap.size, 0, none⟩ = some (.int .i64 x)) (first | exact hbx | exact hbx2)
          (first | (go_at_call 130; refine Hpush.out.mono ?_; rintro e w4 ⟨⟨r, rfl⟩, w5, v', rfl, hgr, hown', hnew⟩; have H3 := Lib.hid (HD.out.pushed Hz.out Hvl.out hgr hown' hnew); have T3 := Lib.hid (push_far (v' := v') rfl h0D.out Hvl.out hgr TD.out HL.out rfl); have B3 := Lib.hid ((BD.out.grown hgr (by have := BD.out.size; exact this) (fun r e => (HoD.out.lt r e).1)).setCell (p := ⟨g, t, none⟩) Hlg.out v'); have hbx2 := box_kept (v' := v') How.out h0D.out Hvl.out hgr HbxD.out; clear hgr hown' hnew) | fail)
        rw [Hset.out] at H3
        obtain ⟨W6, hW6⟩ : ∃ W6, w5.setCell ⟨g, t, none⟩ v' = W6 := ⟨_, rfl⟩
        rw [hW6] at H3 T3 B3 ⊢
        clear hW6 hbx2
        go_wp2_with (at_builtin; refine wpList_append_new _ rfl _ _ 67 rfl w.heap.size 3 i0 (.int .i64 0) 1 8 Try.underlying67 hi hz0 hz1 hz2 rfl (by decide) tv k _ rfl (T3.out.1.alloc _) ⟨W6.heap.size, 0, none⟩ 1 1 [.int .i64 t] rfl rfl (one_new _ _ _) (by simp [Value.oneCell']) (by unfold maxLen; omega) (by omega) (by have := B3.out.size; simp; omega) ?_; intro tv2 w7 hown7 hgr7 hnew7; have H7 := Lib.hid (H3.out.tail T3.out.1 T3.out.2 hgr7 hnew7); have O7 := Lib.hid hown7; have B7 := Lib.hid ((B3.out.alloc (by have := B3.out.size; exact this) _).grown hgr7 (by have := B3.out.size; simp; omega) (fun r e => (T3.out.1.lt r e).1)); clear hown7 hgr7 hnew7)
        go_roundw
        case rel =>
          obtain ⟨ow7, h7, l7⟩ := H7.out
          exact ⟨k + 1, ow7, tv2, by omega, by go_num, rfl, h7, by rw [Hts.out, List.map_append]; exact O7.out, l7, B7.out⟩
        case measure => simp [intOf]; omega
      · clear hi3
        obtain ⟨z, hzz⟩ : ∃ z : List Int, z = [] := ⟨_, rfl⟩
        have hz10 : z.length ≤ 10 := by rw [hzz]; simp
        have Hset := Lib.hid (show (Q ++ [[]]).set t (z ++ [x]) = stP z0 (k + 1) by rw [Hnext.out, hlen2, hzz]; unfold putP; rw [if_neg (by omega)]; simp)
        have hz : (Q ++ [[]])[t]? = some z := by rw [hlen2, hzz]; simp
        have Hzk := Lib.hid hz
        have hL0 : Lab ow1 0 (.slice A t c) := by rw [hlen2]; obtain ⟨_, _, _, h, _⟩ := HH.out; exact h
        have HL0 := Lib.hid hL0
        rw [← hlen2] at hac hq10 ⊢
        obtain ⟨svs, hsv, hgrow⟩ := HH.out.open_
        rw [← hlen2] at hsv hgrow
        have HG := Lib.hid (fun W1 sv' => (fun (hg : (w3.alloc (.cells #[.slice none 0 0] 157)).grownBy W1 (Value.slice A t c).ownBlock) ho hn => hgrow W1 sv' (grown_then (World.grownBy_alloc w3 _ _) hg) ho hn))
        have Hsv := Lib.hid hsv
        have Hlen2 := Lib.hid hlen2
        clear hsv hgrow hz hzz hlen2 hL0
        go_wp2_with (at_builtin; refine wpList_append_new _ rfl _ _ 151 rfl w.heap.size 157 j0 (.agg #[.slice none 0 0]) 1 24 Try.underlying151 hj hj0 hj1 hj2 rfl (by decide) (.slice A t c) t _ rfl (Hsv.out.alloc _) ⟨w3.heap.size, 0, none⟩ 1 1 [.slice none 0 0] rfl rfl (one_new _ _ _) (by simp [Value.oneCell']) (by unfold maxLen; omega) (by omega) (by have := Hb.out.size; simp; omega) ?_; intro sv9 w9 hown9 hgr9 hnew9; obtain ⟨g9, c9, rfl⟩ := own_succ hown9; have Hown9 := Lib.hid hown9; have Hgr9 := Lib.hid hgr9; have Hnew9 := Lib.hid hnew9; clear hown9 hgr9 hnew9)
        have HH9 := Lib.hid (HG.out w9 _ Hgr9.out Hown9.out (fun g2 h2 => (Hnew9.out g2 h2).imp id (fun h3 => by simp at h3; omega)))
        have HT9 := Lib.hid ((HT.out.alloc (.cells #[.slice none 0 0] 157)).kept Hgr9.out (HL.out.far HL0.out (by omega)))
        have HL9 := Lib.hid (HL.out.at_old (B := w3.heap.size) (j := 0) (fun g2 h2 => (HT.out.lt g2 h2).2))
        have How9 := Lib.hid (show owAt ow1 w3.heap.size 0 wr.heap.size = 1 by unfold owAt; rw [if_neg (by have := Hs3.out; omega)]; exact How.out)
        have Hb9 := Lib.hid ((Hb.out.alloc (by have := Hb.out.size; exact this) (.cells #[.slice none 0 0] 157)).grown Hgr9.out (by have := Hb.out.size; simp; omega) (fun r e => (Hsv.out.lt r e).1))
        have hbx9 : w9.cell? ⟨wr.heap.size, 0, none⟩ = some (.int .i64 x) := Hgr9.out.cell ((World.grownBy_alloc w3 _ none).cell hbx (by simp)) (fun e => by
          have h1 : ow1 wr.heap.size = 0 := HL0.out wr.heap.size e.symm
          have h2 : ow1 wr.heap.size = 1 := How.out
          omega)
        obtain ⟨ow2, how2⟩ : ∃ o, owAt ow1 w3.heap.size 0 = o := ⟨_, rfl⟩
        rw [how2] at HH9 HL9 How9
        obtain ⟨n2, hn2⟩ : ∃ n2, t + 1 = n2 := ⟨_, rfl⟩
        have hn2t : t < n2 := by omega
        rw [hn2] at HH9 ⊢
        clear hn2
        clear HH HT HL How Hb hbx how2 HL0 HG Hsv Hown9 Hgr9 Hnew9 Hs3
        have HH := Lib.hid HH9.out
        have HT := Lib.hid HT9.out
        have HL := Lib.hid HL9.out
        have How := Lib.hid How9.out
        have Hb := Lib.hid Hb9.out
        have hbx := hbx9
        have hz := Hzk.out
        clear HH9 HT9 HL9 How9 Hb9 hbx9
        obtain ⟨g, v, hA, hc2, hf2, ho2, hne2, hlg, hgw, hvl⟩ := HH.out.at_ hz
        obtain rfl : g = g9 := by injection hA with e; injection e with e; exact e.symm
        clear hA
        have hcD : w9.drew.cell? ⟨g, t, none⟩ = some v := hc2
        have hfD : w9.drew.frozen? ⟨g, t, none⟩ = false := hf2
        have hoD : w9.drew.ownsRow w.heap.size 3 1 v z.length (z.map (Value.int .i64)) := own_below ho2 (below_drewN (Below.refl _ _) 1)
        have hbxD : w9.drew.cell? ⟨wr.heap.size, 0, none⟩ = some (.int .i64 x) := hbx
        have HbxD := Lib.hid hbxD
        have HD := Lib.hid (HH.out.go (below_drewN (Below.refl w9.heap.size w9) 1))
        have TD := Lib.hid (own_below HT.out (below_drewN (Below.refl w9.heap.size w9) 1))
        have BD := Lib.hid (below_drewN Hb.out 1)
        have h0D := Lib.hid (show Lab ow2 0 (.slice (some ⟨g, 0, none⟩) n2 c9) from by obtain ⟨_, _, _, h, _⟩ := HH.out; exact h)
        have Hpush := Lib.hid (push_c g t v z x w.heap.size w9.drew hcD hfD hoD hne2 (by omega) (by have := Hb.out.size; exact this) hgw)
        have Hz := Lib.hid hz
        have Hvl := Lib.hid hvl
        have Hlg := Lib.hid hlg
        have HoD := Lib.hid hoD
        have g2 : (0 : Int) ≤ (t : Int) := by omega
        have g3 : (t : Int) < (n2 : Int) := by omega
        clear hc2 hf2 ho2 hne2 hlg hgw hvl hcD hfD hoD hbxD hz
        go_wp2
        go_region_held3 (fun w9 => w9.cell? ⟨wr.heap.size, 0, none⟩ = some (.int .i64 x)) (first | exact hbx | exact hbx2)
          (first | (go_at_call 130; refine Hpush.out.mono ?_; rintro e w4 ⟨⟨r, rfl⟩, w5, v', rfl, hgr, hown', hnew⟩; have H3 := Lib.hid (HD.out.pushed Hz.out Hvl.out hgr hown' hnew); have T3 := Lib.hid (push_far (v' := v') rfl h0D.out Hvl.out hgr TD.out HL.out rfl); have B3 := Lib.hid ((BD.out.grown hgr (by have := BD.out.size; exact this) (fun r e => (HoD.out.lt r e).1)).setCell (p := ⟨g, t, none⟩) Hlg.out v'); have hbx2 := box_kept (v' := v') How.out h0D.out Hvl.out hgr HbxD.out; clear hgr hown' hnew) | fail)
        rw [Hset.out] at H3
        obtain ⟨W6, hW6⟩ : ∃ W6, w5.setCell ⟨g, t, none⟩ v' = W6 := ⟨_, rfl⟩
        rw [hW6] at H3 T3 B3 ⊢
        clear hW6 hbx2
        go_wp2_with (at_builtin; refine wpList_append_new _ rfl _ _ 67 rfl w.heap.size 3 i0 (.int .i64 0) 1 8 Try.underlying67 hi hz0 hz1 hz2 rfl (by decide) tv k _ rfl (T3.out.1.alloc _) ⟨W6.heap.size, 0, none⟩ 1 1 [.int .i64 t] rfl rfl (one_new _ _ _) (by simp [Value.oneCell']) (by unfold maxLen; omega) (by omega) (by have := B3.out.size; simp; omega) ?_; intro tv2 w7 hown7 hgr7 hnew7; have H7 := Lib.hid (H3.out.tail T3.out.1 T3.out.2 hgr7 hnew7); have O7 := Lib.hid hown7; have B7 := Lib.hid ((B3.out.alloc (by have := B3.out.size; exact this) _).grown hgr7 (by have := B3.out.size; simp; omega) (fun r e => (T3.out.1.lt r e).1)); clear hown7 hgr7 hnew7)
        go_roundw
        case rel =>
          obtain ⟨ow7, h7, l7⟩ := H7.out
          exact ⟨k + 1, ow7, tv2, by omega, by go_num, rfl, h7, by rw [Hts.out, List.map_append]; exact O7.out, l7, B7.out⟩
        case measure => simp [intOf]; omega
    · obtain rfl : k = z0.length := by omega
      have Hc := Lib.hid (show (stP z0 z0.length).length = cntN z0 from rfl)
      rw [Hc.out] at hac ⊢
      go_wp2
      go_ret2
      exact RetS.mk (f := fun v => .tuple #[v, .int .i64 (cntN z0)]) (by rw [stT_len]; omega) (by rw [stT_len]; exact HT.out) Hb.out

end Go.Proofs.Ytodboccadccpfaa
