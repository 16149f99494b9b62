/-
  The model's l5Make, TanksLeast and StowageMake.
-/
import Derived.Test.YtodboccadccpfaaStwM
namespace Go.Proofs.Ytodboccadccpfaa
open Go.RowKit

/-- what lies on top of each pile -/
def topL (Q : List (List Int)) : List Int := Q.map topI
theorem topL_len (Q : List (List Int)) : (topL Q).length = Q.length := by simp [topL]
theorem topL_at {Q : List (List Int)} {k : Nat} (h : k < Q.length) : (topL Q)[k]?.getD 0 = topI (pileAt Q k) := by
  unfold topL pileAt
  rw [List.getElem?_map, List.getElem?_eq_getElem h]
  rfl
theorem topL_put {Q : List (List Int)} {x : Int} {t : Nat} (ht : t < Q.length) : topL (putP Q x t) = (topL Q).set t x := by
  unfold topL putP
  rw [if_pos ht, List.map_set, topI_snoc]
theorem topL_new {Q : List (List Int)} {x : Int} {t : Nat} (ht : t = Q.length) : topL (putP Q x t) = ((topL Q) ++ [0]).set t x := by
  unfold topL putP
  rw [if_neg (by omega), List.map_append, ht]
  simp [topI]
/-- the model's search -/
theorem topS_stop {L : List Int} (h : ordB L = true) {k j : Nat} (hk : k < L.length) (hj : j < (stP L k).length) (h1 : ¬ topI (pileAt (stP L k) j) < L[k]?.getD 0) (h2 : ∀ m, m < j → topI (pileAt (stP L k) m) < L[k]?.getD 0) : stN L k = j := by
  have h3 : topI (pileAt (stP L k) j) ≠ L[k]?.getD 0 := tp_ne h hk hj
  exact pick_is hj (by omega) fun m hm => by have := h2 m hm; omega
theorem topS_end {L : List Int} {k : Nat} (h2 : ∀ m, m < (stP L k).length → topI (pileAt (stP L k) m) < L[k]?.getD 0) : stN L k = (stP L k).length :=
  pick_none fun m hm => by have := h2 m hm; omega

section
variable {t : TypeId} {lo n m : Nat} {ow : Nat → Nat} {W W' : World} {u v v' : Value} {xs ys : List Value} {a b : Nat}
/-- one of two own slices grows, the other stays -/
theorem two_grow {o : Obj} (hu : W.ownsRow lo t 1 u m ys) (lv : Lab ow a v) (lu : Lab ow b u) (hab : a ≠ b) (hg : (W.alloc o).grownBy W' v.ownBlock) (hn : ∀ g, v'.ownBlock = some g → v.ownBlock = some g ∨ (W.alloc o).heap.size ≤ g) :
    W'.ownsRow lo t 1 u m ys ∧ Lab (owAt ow (W.alloc o).heap.size a) a v' ∧ Lab (owAt ow (W.alloc o).heap.size a) b u := by
  refine ⟨(hu.alloc o).kept hg (lu.far lv (Ne.symm hab)), lv.at_new hn, lu.at_old fun g h => ?_⟩
  have := (hu.lt g h).2
  simp
  omega
theorem two_put {g i n c : Nat} {x : Value} (hu : W.ownsRow lo t 1 u m ys) (lv : Lab ow a (.slice (some ⟨g, 0, none⟩) n c)) (lu : Lab ow b u) (hab : a ≠ b) (hg : W.grownBy (W.setCell ⟨g, i, none⟩ x) (some g)) : (W.setCell ⟨g, i, none⟩ x).ownsRow lo t 1 u m ys :=
  hu.kept hg (lu.far lv (Ne.symm hab))
end

set_option maxRecDepth 100000 in
set_option maxHeartbeats 2000000 in
theorem l5Make_b (A0 : Option Addr) (c0 : Nat) (z0 : List Int) (w : World) (h0 : Arg w A0 c0 z0) (hv : ordB z0 = true) :
    Calls Try.prog 99 #[.slice A0 z0.length c0] w (RetS 3 (fun v => .tuple #[v, .int .i64 (cntN z0)]) (stT z0 z0.length) w) := by
  have hl0 := h0.len
  have h10 := ord_len hv
  have H0 := Lib.hid h0
  have Hv := Lib.hid hv
  obtain ⟨i0, hi, hz0, hz1, hz2⟩ := info_parts int_info
  have hs1 : ((w.alloc (.cells #[] 3)).alloc (.cells #[] 3)).ownsRow w.heap.size 3 1 (.slice (some ⟨w.heap.size, 0, none⟩) 0 0) 0 [] := (World.ownsRow_made w #[] 0 (Nat.le_refl _) (by simp [maxLen]) rfl).alloc _
  have hs2 : ((w.alloc (.cells #[] 3)).alloc (.cells #[] 3)).ownsRow w.heap.size 3 1 (.slice (some ⟨w.heap.size + 1, 0, none⟩) 0 0) 0 [] := by
    have := World.ownsRow_made (base := w.heap.size) (e := 3) (size := 1) (w.alloc (.cells #[] 3)) #[] 0 (by simp) (by simp [maxLen]) rfl
    rwa [World.size_alloc] at this
  have hs3 : Below w.heap.size w ((w.alloc (.cells #[] 3)).alloc (.cells #[] 3)) := ((Below.refl _ _).alloc (Nat.le_refl _) _).alloc (by simp) _
  have Hs1 := Lib.hid hs1
  have Hs2 := Lib.hid hs2
  have Hs3 := Lib.hid hs3
  clear h0 hv hs1 hs2 hs3
  go_enter Try.func99, Try.ntmps99
  go_wp2
  go_loopw [4, 5, 6] (fun op tp i wr => ∃ (k : Nat) (ow : Nat → Nat) (ov tv : Value), k ≤ z0.length ∧ i = .int .i64 k ∧ ov = op ∧ tv = tp ∧ wr.ownsRow w.heap.size 3 1 ov k ((stT z0 k).map (Value.int .i64)) ∧ Lab ow 1 ov ∧
    wr.ownsRow w.heap.size 3 1 tv (topL (stP z0 k)).length ((topL (stP z0 k)).map (Value.int .i64)) ∧ Lab ow 0 tv ∧ Below w.heap.size w wr) (fun _ _ i _ => z0.length - (intOf i).toNat)
  case atStart => exact ⟨0, fun g => if g = w.heap.size then 1 else 0, _, _, Nat.zero_le _, rfl, rfl, rfl, Hs1.out, fun g hg => by simp [Value.ownBlock] at hg; simp [hg], Hs2.out, fun g hg => by simp [Value.ownBlock] at hg; show (if g = w.heap.size then 1 else 0) = 0; rw [if_neg (by omega)], Hs3.out⟩
  case round =>
    obtain ⟨k, ow, ov, tv, hk, rfl, rfl, rfl, hO, lO, hT, lT, hb⟩ := hrel
    obtain ⟨W0, hW0⟩ : ∃ W0, W0 = wr := ⟨_, rfl⟩
    subst hW0
    have HO := Lib.hid hO
    have HT := Lib.hid hT
    have LO := Lib.hid lO
    have LT := Lib.hid lT
    have Hb := Lib.hid hb
    clear hO hT lO lT hb
    by_cases hlt : k < z0.length
    · obtain ⟨A, c, rfl, hac, hcm, hrd⟩ := (Ow.of_own HT.out).form
      have Hrd := Lib.hid hrd
      clear hrd
      obtain ⟨b, off, rfl, _, hbw0, hc00⟩ := H0.out.rd.at_ hlt
      have hc0 := (Hb.out.cell (p := ⟨b, off + k, none⟩) hbw0).trans hc00
      have hbw := Nat.lt_of_lt_of_le hbw0 Hb.out.size
      clear hc00
      have Hstop := Lib.hid (fun j => topS_stop (L := z0) Hv.out (k := k) (j := j) hlt)
      have Hend := Lib.hid (topS_end (L := z0) (k := k))
      have Hts := Lib.hid (stT_succ z0 k)
      have Hput := Lib.hid (fun t => topL_put (Q := stP z0 k) (x := z0[k]?.getD 0) (t := t))
      have Hput2 := Lib.hid (fun t => topL_new (Q := stP z0 k) (x := z0[k]?.getD 0) (t := t))
      have Hnext := Lib.hid (stP_succ z0 k)
      have hq10 := st_len_le z0 k
      have Hat := Lib.hid (fun j => topL_at (Q := stP z0 k) (k := j))
      have hQl := topL_len (stP z0 k)
      obtain ⟨x, hx⟩ : ∃ x, z0[k]?.getD 0 = x := ⟨_, rfl⟩
      obtain ⟨Q, hQ⟩ : ∃ Q, stP z0 k = Q := ⟨_, rfl⟩
      rw [hx, hQ] at Hstop Hend Hput Hput2 Hnext
      rw [hQ] at HT LT Hrd hac hq10 Hat hQl ⊢
      rw [hx] at hc0
      obtain ⟨T, hTT⟩ : ∃ T, topL Q = T := ⟨_, rfl⟩
      rw [hTT] at HT LT Hrd hac hQl Hat Hput Hput2 ⊢
      rw [← hQl] at Hstop Hend Hat hq10
      have g1 : (k : Int) < (z0.length : Int) := by omega
      have g0 : (0 : Int) ≤ (k : Int) := by omega
      have HQl := Lib.hid hQl
      clear hx hQ hTT hQl
      go_wp2
      go_loopw [7] (fun i wr => ∃ j : Nat, j ≤ T.length ∧ i = .int .i64 j ∧ (∀ m, m < j → topI (pileAt Q m) < x) ∧ ∃ m, wr = W0.drewN m) (fun i _ => T.length - (intOf i).toNat)
      case atStart => exact ⟨0, Nat.zero_le _, rfl, fun m hm => absurd hm (by omega), 0, rfl⟩
      case round =>
        obtain ⟨j, hj, rfl, ho, hw⟩ := hrel
        have Ho := Lib.hid ho
        have hbq : Below W0.heap.size W0 wr := by obtain ⟨m, rfl⟩ := hw; exact below_drewN (Below.refl _ _) m
        have Hw := Lib.hid (fun (n : Nat) => (show ∃ m, wr.drewN n = W0.drewN m by obtain ⟨m, rfl⟩ := hw; exact ⟨m + n, World.drewN_drewN _ _ _⟩))
        have Hq := Lib.hid hbq
        have hc1 := (hbq.cell (p := ⟨b, off + k, none⟩) hbw).trans hc0
        have hbw1 := Nat.lt_of_lt_of_le hbw hbq.size
        have Hwq := Lib.hid (fun (n : Nat) => And.intro (own_below HO.out (below_drewN hbq n)) (And.intro (own_below HT.out (below_drewN hbq n)) (And.intro (below_step Hb.out (below_drewN hbq n)) (show (wr.drewN n).cell? ⟨b, off + k, none⟩ = some (.int .i64 x) from hc1))))
        clear ho hw hbq hc0 hbw
        by_cases hjl : j < T.length
        · obtain ⟨b2, off2, rfl, _, _, hd0⟩ := (Hrd.out.below Hq.out).at_ hjl
          have hjt := Hat.out j hjl
          obtain ⟨y, hy⟩ : ∃ y, T[j]?.getD 0 = y := ⟨_, rfl⟩
          rw [hy] at hd0 hjt
          have g2 : (j : Int) < (T.length : Int) := by omega
          have g3 : (0 : Int) ≤ (j : Int) := by omega
          clear hy
          by_cases hyx : y < x
          · have Hn := Lib.hid (fun m (hm : m < j + 1) => (show topI (pileAt Q m) < x from by
              rcases Nat.lt_or_ge m j with h1 | h1
              · exact Ho.out m h1
              · obtain rfl : m = j := by omega
                rw [← hjt]; exact hyx))
            have hd : decide (y < x) = true := decide_eq_true hyx
            clear hjt hyx
            go_wp2
            go_quiet (fail)
            all_goals
              go_wp2
              go_roundw
              case rel => exact ⟨j + 1, by omega, by go_num, Hn.out, Hw.out nq⟩
              case measure => simp [intOf]; omega
          · have Ht := Lib.hid (Hstop.out j hjl (by rw [← hjt]; omega) Ho.out)
            have hd : decide (y < x) = false := decide_eq_false hyx
            clear hjt hyx
            go_wp2
            go_quiet (fail)
            obtain ⟨hO8, hT8, hb8, hc8⟩ := Hwq.out nq
            obtain ⟨W8, hW8⟩ : ∃ W8, wr.drewN nq = W8 := ⟨_, rfl⟩
            rw [hW8] at hO8 hT8 hb8 hc8 ⊢
            obtain ⟨g, cap, hform, hck, hfk, hgb, ho', hg'⟩ := own_put hT8 hjl x
            injection hform with e1 e2 e3
            injection e1 with e1
            injection e1 with e1 e4
            obtain rfl : g = b2 := e1.symm
            obtain rfl : off2 = 0 := e4
            subst e3
            have hl2 : (T.set j x).length = T.length := List.length_set
            rw [hl2] at ho'
            have HO8 := Lib.hid (two_put (x := .int .i64 x) hO8 LT.out LO.out (by omega) hg')
            have HT8 := Lib.hid ho'
            have HB8 := Lib.hid (hb8.grown hg' hb8.size (fun r e => by cases e; exact hgb))
            have hgn : ((j : Int) = (T.length : Int)) = False := eq_false (by omega)
            have Hone := Lib.hid (one_new (W8.setCell ⟨g, j, none⟩ (.int .i64 x)) 3 (.int .i64 j))
            rw [show (W8.setCell ⟨g, j, none⟩ (.int .i64 x)).heap.size = W8.heap.size by simp] at Hone
            clear hO8 hT8 hb8 hW8 ho' hg' hl2 hgb
            go_wp2_with (at_builtin; refine wpList_append_new _ rfl (.tmp 47) (.tmp 49) 67 rfl w.heap.size 3 i0 (.int .i64 0) 1 8 Try.underlying67 hi hz0 hz1 hz2 rfl (by decide) ov k _ rfl (HO8.out.alloc _) ⟨W8.heap.size, 0, none⟩ 1 1 [.int .i64 j] rfl rfl Hone.out (by simp [Value.oneCell']) (by unfold maxLen; omega) (by omega) (by have := HB8.out.size; simp at this ⊢; omega) ?_; intro ov2 w7 hown7 hgr7 hnew7; have H7 := Lib.hid (two_grow HT8.out LO.out LT.out (by omega) hgr7 hnew7); have O7 := Lib.hid hown7; have B7 := Lib.hid ((HB8.out.alloc (by have := HB8.out.size; exact this) _).grown hgr7 (by have := HB8.out.size; simp at this ⊢; omega) (fun r e => (HO8.out.lt r e).1)); clear hown7 hgr7 hnew7)
            go_roundw
            case rel =>
              refine ⟨k + 1, _, ov2, _, by omega, by go_num, rfl, rfl, by rw [Hts.out, Ht.out, List.map_append]; exact O7.out, H7.out.2.1, ?_, H7.out.2.2, B7.out⟩
              rw [Hnext.out, Ht.out, Hput.out j (by have := HQl.out; omega)]
              have h9 := H7.out.1
              rw [show (T.set j x).length = T.length from List.length_set]
              exact h9
            case measure => simp [intOf]; omega
        · obtain rfl : j = T.length := by omega
          have Ht := Lib.hid (Hend.out Ho.out)
          have hnl : ¬ (T.length : Int) < (T.length : Int) := by omega
          go_wp2
          go_quiet (fail)
          obtain ⟨hO8, hT8, hb8, hc8⟩ := Hwq.out nq
          obtain ⟨W8, hW8⟩ : ∃ W8, wr.drewN nq = W8 := ⟨_, rfl⟩
          obtain ⟨Y, hY⟩ : ∃ Y, T ++ [0] = Y := ⟨_, rfl⟩
          have hYm : T.map (Value.int .i64) ++ [Value.int .i64 0] = Y.map (Value.int .i64) := by rw [← hY]; simp
          have hYl : T.length + 1 = Y.length := by rw [← hY]; simp
          have Hput3 := Lib.hid (Hput2.out T.length HQl.out)
          rw [hY] at Hput3
          obtain ⟨n, hn⟩ : ∃ n, T.length = n := ⟨_, rfl⟩
          rw [hn] at hT8 LT hYl Ht Hput3 hac hq10 HQl ⊢
          rw [hW8] at hO8 hT8 hb8 hc8 ⊢
          have HO8 := Lib.hid hO8
          have HT8 := Lib.hid hT8
          have HB8 := Lib.hid hb8
          have HYm := Lib.hid hYm
          have HYl := Lib.hid hYl
          have g2 : (0 : Int) ≤ (n : Int) := by omega
          have g3 : (n : Int) < (Y.length : Int) := by omega
          clear hO8 hT8 hb8 hW8 hY hn hYm hYl hnl
          go_wp2_with (first
            | (at_builtin; refine wpList_append_new _ rfl (.tmp 37) (.tmp 38) 67 rfl w.heap.size 3 i0 (.int .i64 0) 1 8 Try.underlying67 hi hz0 hz1 hz2 rfl (by decide) (.slice A n c) n _ rfl (HT8.out.alloc _) ⟨W8.heap.size, 0, none⟩ 1 1 [.int .i64 0] rfl rfl (one_new _ _ _) (by simp [Value.oneCell']) (by unfold maxLen; omega) (by omega) (by have := HB8.out.size; simp; omega) ?_; intro tv2 w6 hown6 hgr6 hnew6; rw [HYm.out, HYl.out] at hown6; obtain ⟨g, cap, rfl, hck, hfk, hgb, ho', hg'⟩ := own_put hown6 (i := n) (by have := HYl.out; omega) x; have H6 := Lib.hid (two_grow HO8.out LT.out LO.out (by omega) hgr6 hnew6); have hl2 : (Y.set n x).length = Y.length := List.length_set; rw [hl2] at ho'; have HO9 := Lib.hid (two_put (x := .int .i64 x) H6.out.1 H6.out.2.1 H6.out.2.2 (by omega) hg'); have HT9 := Lib.hid ho'; have hc9 := hgr6.cell ((World.grownBy_alloc W8 _ none).cell hc8 (by simp)) (fun e => by have := (HT8.out.lt b e.symm).1; omega); have HB6 := Lib.hid ((HB8.out.alloc (by have := HB8.out.size; exact this) (.cells #[.int .i64 0] 3)).grown hgr6 (by have := HB8.out.size; simp; omega) (fun r e => (HT8.out.lt r e).1)); have HB9 := Lib.hid (HB6.out.grown hg' HB6.out.size (fun r e => by cases e; exact hgb)); have Hone := Lib.hid (one_new (w6.setCell ⟨g, n, none⟩ (.int .i64 x)) 3 (.int .i64 n)); rw [show (w6.setCell ⟨g, n, none⟩ (.int .i64 x)).heap.size = w6.heap.size by simp] at Hone; clear hown6 hgr6 hnew6 ho' hg' hl2 hgb)
            | (at_builtin; refine wpList_append_new _ rfl (.tmp 47) (.tmp 49) 67 rfl w.heap.size 3 i0 (.int .i64 0) 1 8 Try.underlying67 hi hz0 hz1 hz2 rfl (by decide) ov k _ rfl (HO9.out.alloc _) ⟨w6.heap.size, 0, none⟩ 1 1 [.int .i64 n] rfl rfl Hone.out (by simp [Value.oneCell']) (by unfold maxLen; omega) (by omega) (by have := HB9.out.size; simp at this ⊢; omega) ?_; intro ov2 w7 hown7 hgr7 hnew7; have H7 := Lib.hid (two_grow HT9.out H6.out.2.2 H6.out.2.1 (by omega) hgr7 hnew7); have O7 := Lib.hid hown7; have B7 := Lib.hid ((HB9.out.alloc (by have := HB9.out.size; exact this) _).grown hgr7 (by have := HB9.out.size; simp at this ⊢; omega) (fun r e => (HO9.out.lt r e).1)); clear hown7 hgr7 hnew7))
          go_roundw
          case rel =>
            refine ⟨k + 1, _, ov2, _, by omega, by go_num, rfl, rfl, by rw [Hts.out, Ht.out, List.map_append]; exact O7.out, H7.out.2.1, ?_, H7.out.2.2, B7.out⟩
            rw [Hnext.out, Ht.out, Hput3.out]
            have h9 := H7.out.1
            rw [show (Y.set n x).length = Y.length from List.length_set]
            exact h9
          case measure => simp [intOf]; omega
    · obtain rfl : k = z0.length := by omega
      have Hc := Lib.hid (show (stP z0 z0.length).length = cntN z0 from rfl)
      obtain ⟨A, c, rfl, hac, hcm, hrd⟩ := (Ow.of_own HT.out).form
      rw [topL_len, Hc.out] at hac ⊢
      clear hrd
      go_wp2
      go_ret2
      exact RetS.mk (f := fun v => .tuple #[v, .int .i64 (cntN z0)]) (by rw [stT_len]; omega) (by rw [stT_len]; exact HO.out) Hb.out

/-- a new slice without any number -/
theorem RetS.empty {t : TypeId} {f : Value → Value} {w w1 : World} (hb : Below w.heap.size w w1) : RetS t f [] w (.returned (f (.slice (some ⟨w1.heap.size, 0, none⟩) 0 0))) (w1.alloc (.cells #[] t)) :=
  RetS.mk (by simp) (World.ownsRow_made w1 #[] 0 hb.size (by simp [maxLen]) rfl) (hb.alloc hb.size _)

set_option maxRecDepth 100000 in
set_option maxHeartbeats 1000000 in
theorem specStowageMake_b (A0 : Option Addr) (c0 : Nat) (z0 : List Int) (w : World) (h0 : Arg w A0 c0 z0) :
    Calls Try.prog 47 #[.slice A0 z0.length c0] w (RetS 3 (fun v => .tuple #[v, .bool (mkB z0)]) (mkL z0) w) := by
  have hl0 := h0.len
  have H0 := Lib.hid h0
  clear h0
  go_enter Try.func47, Try.ntmps47
  go_wp2_with fail
  refine (specOrdersValid_b A0 c0 z0 _ H0.out).mono ?_
  rintro e w1 ⟨rfl, hb1⟩
  have Hb1 := Lib.hid hb1
  replace H0 := Lib.hid (H0.out.go hb1)
  clear hb1
  cases hv : ordB z0
  · have Hm := Lib.hid (mk_no hv)
    clear hv
    go_wp2
    go_ret2
    rw [Hm.out.1, Hm.out.2]
    exact RetS.empty (f := fun v => .tuple #[v, .bool false]) Hb1.out
  have Hv := Lib.hid hv
  clear hv
  go_wp2_with fail
  refine (l5Make_b A0 c0 z0 _ H0.out Hv.out).mono ?_
  rintro e w2 ⟨B, d, rfl, ha2, ho2, hb2⟩
  dsimp only
  have Ha2 := Lib.hid ha2
  have Ho2 := Lib.hid ho2
  have Hb2 := Lib.hid hb2
  have Hyes := Lib.hid (mk_yes Hv.out)
  have Hmany := Lib.hid (mk_many (L := z0))
  clear ha2 ho2 hb2
  obtain ⟨q, hq⟩ : ∃ q, stT z0 z0.length = q := ⟨_, rfl⟩
  obtain ⟨u, hu⟩ : ∃ u, cntN z0 = u := ⟨_, rfl⟩
  rw [hq] at Ha2 Ho2 Hyes ⊢
  rw [hu] at Hyes Hmany ⊢
  clear hq hu
  by_cases h5 : u ≤ 5
  · have Hm := Lib.hid (Hyes.out h5)
    have g5 : ¬ (5 : Int) < (u : Int) := by omega
    clear h5
    go_wp2
    go_ret2
    rw [Hm.out.1, Hm.out.2]
    exact RetS.behind (f := fun v => .tuple #[v, .bool true]) Hb1.out Ha2.out Ho2.out Hb2.out
  · have Hm := Lib.hid (Hmany.out h5)
    have g5 : (5 : Int) < (u : Int) := by omega
    clear h5 Ha2 Ho2
    go_wp2
    go_ret2
    rw [Hm.out.1, Hm.out.2]
    exact RetS.empty (f := fun v => .tuple #[v, .bool false]) (below_step Hb1.out Hb2.out)

end Go.Proofs.Ytodboccadccpfaa
