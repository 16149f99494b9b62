/-
  The model's OrdersLongest.
-/
import Derived.Test.YtciahmccafcllaaLonS
namespace Go.Proofs.Ytciahmccafcllaa
open Go.RowKit

theorem lgA_some {L : List Int} {k j : Nat} (h : (lgO L k).getLast? = some j) : lgA L k = L[j]?.getD 0 := by unfold lgA; rw [h]
theorem lgA_none {L : List Int} {k : Nat} (h : lgO L k = []) : lgA L k = -1 := by unfold lgA; rw [h]; rfl
/-- the last coil of the row -/
theorem lg_last {L : List Int} {k m : Nat} (h : (lgO L k).length = m + 1) : ∃ j, (lgO L k).getLast? = some j ∧ j < k ∧ (lgI L k)[m]? = some (j : Int) := by
  have hne : lgO L k ≠ [] := fun e => by rw [e] at h; simp at h
  refine ⟨(lgO L k).getLast hne, List.getLast?_eq_some_getLast hne, lgO_lt L k _ (List.getLast_mem hne), ?_⟩
  unfold lgI
  rw [List.getElem?_map, List.getElem?_eq_getElem (by omega), List.getLast_eq_getElem]
  simp [h]

theorem own_form {W : World} {base : Nat} {e : TypeId} {v : Value} {n : Nat} {xs : List Value} (h : W.ownsRow base e 1 v n xs) : ∃ A c, v = .slice A n c := by
  rcases h.2 with ⟨rfl, h0⟩ | ⟨g, cap, cur, rfl, _⟩
  · exact ⟨none, 0, by rw [h0]⟩
  · exact ⟨_, cap, rfl⟩

set_option maxHeartbeats 4000000 in
theorem specOrdersLongest_b (A0 : Option Addr) (c0 : Nat) (z0 : List Int) (w : World) (h0 : Arg w A0 c0 z0) :
    Calls Try.prog 30 #[.slice A0 z0.length c0] w (RetS 3 (fun v => .tuple #[v, .bool (ordB z0)]) (lonR z0) w) := by
  have hl0 := h0.len
  have b0 : Below w.heap.size w (w.alloc (.cells #[] 3)) := (Below.refl _ _).alloc (Nat.le_refl _) _
  have H0 := Lib.hid (h0.go b0)
  have HW0 := Lib.hid h0
  obtain ⟨i0, hi, hz0, hz1, hz2⟩ := info_parts int_info
  have HO0 := Lib.hid (World.ownsRow_made (base := w.heap.size) (e := 3) (size := 1) w #[] 0 (Nat.le_refl _) (by simp [maxLen]) rfl)
  have Hb0 := Lib.hid b0
  clear h0 b0
  go_enter Try.func30, Try.ntmps30
  go_wp2_with fail
  refine (specOrdersValid_b A0 c0 z0 _ H0.out).mono ?_
  rintro e w1 ⟨rfl, hb1⟩
  replace HO0 := Lib.hid (own_below HO0.out hb1)
  have Hb1 := Lib.hid (below_step Hb0.out hb1)
  replace H0 := Lib.hid (H0.out.go hb1)
  have hs1 : w.heap.size + 1 ≤ w1.heap.size := by have := hb1.size; simp at this; omega
  clear hb1
  cases hs : ordB z0
  · have Hn := Lib.hid (lon_no hs)
    have Hss := Lib.hid hs
    clear hs
    go_wp2
    go_ret2
    rw [Hss.out, Hn.out]
    exact RetS.mk (f := fun v => .tuple #[v, .bool false]) (by simp) HO0.out Hb1.out
  have Hy := Lib.hid (lon_yes hs)
  have Hord := Lib.hid hs
  have h10 := ord_len hs
  have hcn := cnt_le z0
  have Hmx := Lib.hid (mxA_cnt hs)
  have Hmle := Lib.hid (fun k => mxA_le hs k)
  clear hs
  go_wp2_with fail
  refine (l5Longest_b A0 c0 z0 _ H0.out Hord.out).mono ?_
  rintro e w2 ⟨B, d, rfl, ha2, ho2, hb2⟩
  dsimp only [id]
  have hrl := rowsL_len z0
  have hrat := fun i => rowsL_at z0 (i := i)
  have Hb2 := Lib.hid (below_step Hb1.out hb2)
  replace HO0 := Lib.hid (own_below HO0.out hb2)
  obtain ⟨R, hR⟩ : ∃ R, rowsL z0 = R := ⟨_, rfl⟩
  rw [hR] at ha2 ho2 hrl hrat ⊢
  have HR := Lib.hid ha2
  have HRo := Lib.hid (OwnsRow.more ho2.own (show w.heap.size ≤ w1.heap.size by omega))
  have HRlt := Lib.hid (fun g (e : (Value.slice B R.length d).ownBlock = some g) => (ho2.own.lt g e).1)
  have HRat := Lib.hid hrat
  have HRl := Lib.hid hrl
  clear ha2 ho2 hb2 hR hrat hrl
  go_wp2
  go_loopw [6, 7] (fun m i wr => ∃ k : Nat, k ≤ z0.length ∧ i = .int .i64 k ∧ m = .int .i64 (mxA z0 k) ∧ w2 = wr) (fun _ i _ => z0.length - (intOf i).toNat)
  case atStart => exact ⟨0, Nat.zero_le _, rfl, rfl, rfl⟩
  case round =>
    obtain ⟨k, hk, rfl, rfl, rfl⟩ := hrel
    have hmk := Hmle.out k hk
    by_cases hlt : k < z0.length
    · have hk2 : k < R.length := by have := HRl.out; omega
      obtain ⟨b1, off1, hB, _, _, hd0⟩ := HR.out.rd.at_ hk2
      have hra := HRat.out k hlt
      rw [hra] at hd0
      have Hs := Lib.hid (show mxA z0 (k + 1) = max (mxA z0 k) (rowL z0 k) from rfl)
      obtain ⟨u, hu⟩ : ∃ u, mxA z0 k = u := ⟨_, rfl⟩
      obtain ⟨r, hr⟩ : ∃ r, rowL z0 k = r := ⟨_, rfl⟩
      rw [hr] at hd0 Hs
      rw [hu] at Hs hmk ⊢
      rw [hB]
      have g1 : (k : Int) < (z0.length : Int) := by omega
      have g2 : (k : Int) < (R.length : Int) := by omega
      clear hu hr hra
      by_cases hur : u < r
      · have gm : ((u : Int) < (r : Int)) = True := eq_true (by omega)
        go_wp2
        go_roundw
        case rel => exact ⟨k + 1, by omega, by go_num, by rw [Hs.out, show max u r = r by omega], trivial⟩
        case measure => simp [intOf]; omega
      · have gm : ((u : Int) < (r : Int)) = False := eq_false (by omega)
        go_wp2
        go_roundw
        case rel => exact ⟨k + 1, by omega, by go_num, by rw [Hs.out, show max u r = u by omega], trivial⟩
        case measure => simp [intOf]; omega
    · obtain rfl : k = z0.length := by omega
      rw [Hmx.out]
      go_wp2
      go_loopw [4, 6, 8] (fun tp ms i wr => ∃ (k : Nat) (ow : Nat → Nat) (tv : Value), k ≤ z0.length ∧ i = .int .i64 k ∧ tv = tp ∧ ms = .int .i64 ((cntN z0 : Int) - (lgO z0 k).length) ∧ wr.ownsRow w.heap.size 3 1 tv (lgO z0 k).length ((lgI z0 k).map (Value.int .i64)) ∧ Lab ow 1 tv ∧
        wr.ownsRow w.heap.size 3 1 (.slice B R.length d) R.length (R.map (Value.int .i64)) ∧ Lab ow 0 (.slice B R.length d) ∧ Below w.heap.size w wr) (fun _ _ i _ => z0.length - (intOf i).toNat)
      case atStart => exact ⟨0, fun g => if g = w.heap.size then 1 else 0, _, Nat.zero_le _, rfl, rfl, by simp [lgO], HO0.out, fun g hg => by simp [Value.ownBlock] at hg; simp [hg], HRo.out, fun g hg => by have := HRlt.out g hg; show (if g = w.heap.size then 1 else 0) = 0; rw [if_neg (by omega)], Hb2.out⟩
      case round =>
        obtain ⟨k, ow, tv, hk, rfl, rfl, rfl, ho, lo, hr0, lr, hb⟩ := hrel
        have Ho := Lib.hid ho
        have Lo := Lib.hid lo
        have Hr0 := Lib.hid hr0
        have Lr := Lib.hid lr
        have Hb := Lib.hid hb
        have hll := lgO_len z0 k
        clear lo hr0 lr hb
        by_cases hlt : k < z0.length
        · obtain ⟨b, off, rfl, _, hbw, hc0⟩ := (HW0.out.go Hb.out).rd.at_ hlt
          have hk2 : k < R.length := by have := HRl.out; omega
          obtain ⟨g1', cR, hB, hRc⟩ : ∃ g cap, B = some ⟨g, 0, none⟩ ∧ wr.cell? ⟨g, k, none⟩ = some (.int .i64 (rowL z0 k)) := by
            have h9 := Hr0.out
            rcases h9.2 with ⟨_, h8⟩ | ⟨g, cap, cur, e, _⟩
            · omega
            · injection e with e1 e2 e3
              subst e1
              have h7 := h9.cellAt k (by omega)
              rw [List.getElem?_map, List.getElem?_eq_getElem hk2] at h7
              simp only [Option.map_some] at h7
              have h6 := HRat.out k hlt
              rw [getD_at hk2] at h6
              rw [h6] at h7
              exact ⟨g, cap, rfl, h7⟩
          subst hB
          have hr1 := row_le Hord.out hlt
          have Hyes := Lib.hid (lgO_yes (L := z0) (k := k))
          have Hno := Lib.hid (lgO_no Hord.out hlt)
          have hx0 := ord_at Hord.out hlt
          have Hlast := Lib.hid (fun m => lg_last (L := z0) (k := k) (m := m))
          have HlA := Lib.hid (fun j => lgA_some (L := z0) (k := k) (j := j))
          have HlN := Lib.hid (lgA_none (L := z0) (k := k))
          obtain ⟨x, hx⟩ : ∃ x, z0[k]?.getD 0 = x := ⟨_, rfl⟩
          obtain ⟨r, hr⟩ : ∃ r, rowL z0 k = r := ⟨_, rfl⟩
          obtain ⟨q, hq⟩ : ∃ q : Int, (cntN z0 : Int) - (lgO z0 k).length = q := ⟨_, rfl⟩
          rw [hx] at hc0 hx0
          rw [hr] at hRc hr1
          rw [hx, hr, hq] at Hyes Hno
          rw [hq]
          have Hq := Lib.hid hq
          have g1 : (k : Int) < (z0.length : Int) := by omega
          have g2 : (0 : Int) ≤ (k : Int) := by omega
          have g3 : (k : Int) < (R.length : Int) := by omega
          have q1 : IntKind.i64.wrap (q - 1) = q - 1 := IntWalk.i64_in _ (by omega)
          have Hgo := Lib.hid (fun (n : Nat) => And.intro (own_below Ho.out (below_drewN (Below.refl _ wr) n)) (And.intro (own_below Hr0.out (below_drewN (Below.refl _ wr) n)) (below_drewN Hb.out n)))
          clear hx hr hq ho
          by_cases hrq : (r : Int) = q
          · have hd : ((r : Int) == q) = true := beq_iff_eq.2 hrq
            obtain ⟨m, hm⟩ : ∃ m, (lgO z0 k).length = m := ⟨_, rfl⟩
            obtain ⟨At, ct, rfl⟩ := own_form Ho.out
            have Hm := Lib.hid hm
            cases m with
            | zero =>
              have hnil : lgO z0 k = [] := List.length_eq_zero_iff.1 hm
              have Hn := Lib.hid (Hyes.out hrq (by rw [HlN.out hnil]; omega))
              rw [hm] at Hgo Lo hll ⊢
              clear hm hnil hrq
              go_wp2
              go_quiet (fail)
              obtain ⟨ho8, hr8, hb8⟩ := Hgo.out nq
              obtain ⟨W8, hW8⟩ : ∃ W8, wr.drewN nq = W8 := ⟨_, rfl⟩
              rw [hW8] at ho8 hr8 hb8 ⊢
              have Ho8 := Lib.hid ho8
              have Hr8 := Lib.hid hr8
              have Hb8 := Lib.hid hb8
              clear hW8 ho8 hr8 hb8
              go_wp2_with (at_builtin; refine wpList_append_new _ rfl (.tmp 61) (.tmp 63) 23 rfl w.heap.size 3 i0 (.int .i64 0) 1 8 Try.underlying23 hi hz0 hz1 hz2 rfl (by decide) (.slice At 0 ct) 0 _ rfl (Ho8.out.alloc _) ⟨W8.heap.size, 0, none⟩ 1 1 [.int .i64 k] rfl rfl (one_new _ _ _) (by simp [Value.oneCell']) (by unfold maxLen; omega) (by omega) (by have := Hb8.out.size; simp; omega) ?_; intro v' w7 hown7 hgr7 hnew7; have O7 := Lib.hid hown7; have T7 := Lib.hid (two_grow Hr8.out Lo.out Lr.out (by omega) hgr7 hnew7); have B7 := Lib.hid ((Hb8.out.alloc (by have := Hb8.out.size; exact this) _).grown hgr7 (by have := Hb8.out.size; simp; omega) (fun r e => (Ho8.out.lt r e).1)); clear hown7 hgr7 hnew7)
              go_roundw
              case rel => exact ⟨k + 1, _, _, by omega, by go_num, rfl, by rw [Hn.out.1, ← Hq.out]; simp; omega, by rw [lgI_snoc Hn.out.1, Hn.out.1, List.length_append, List.map_append, Hm.out]; exact O7.out, T7.out.2.1, T7.out.1, T7.out.2.2, B7.out⟩
              case measure => simp [intOf]; omega
            | succ m =>
              obtain ⟨j, hj1, hj2, hj3⟩ := Hlast.out m hm
              have hja := HlA.out j hj1
              obtain ⟨b', off', e, _, hbw3, he0⟩ := (HW0.out.go Hb.out).rd.at_ (show j < z0.length by omega)
              injection e with e
              injection e with e1 e2
              subst e1
              subst e2
              obtain ⟨p, hp⟩ : ∃ p, z0[j]?.getD 0 = p := ⟨_, rfl⟩
              rw [hp] at he0 hja
              rw [hm] at Hgo Lo Ho hll ⊢
              obtain ⟨g2', rfl, hcj⟩ : ∃ g, At = some ⟨g, 0, none⟩ ∧ wr.cell? ⟨g, m, none⟩ = some (.int .i64 j) := by
                have h9 := Ho.out
                rcases h9.2 with ⟨_, h8⟩ | ⟨g, cap, cur, e, _⟩
                · omega
                · injection e with e1 e2 e3
                  subst e1
                  subst e3
                  have h7 := h9.cellAt m (by omega)
                  rw [List.getElem?_map, hj3] at h7
                  exact ⟨g, rfl, h7⟩
              have q2 : IntKind.i64.wrap (((m + 1 : Nat) : Int) - 1) = (m : Int) := by rw [show ((m + 1 : Nat) : Int) - 1 = (m : Int) by omega]; exact IntWalk.i64_in _ (by omega)
              have gne : ¬ ((m + 1 : Nat) : Int) = 0 := by omega
              have hdz : ((((m + 1 : Nat) : Int)) == 0) = false := beq_eq_false_iff_ne.2 gne
              obtain ⟨n9, hn9⟩ : ∃ n9, m + 1 = n9 := ⟨_, rfl⟩
              have g5 : (m : Int) < (n9 : Int) := by omega
              have g6 : (0 : Int) ≤ (m : Int) := by omega
              have g7 : (j : Int) < (z0.length : Int) := by omega
              have g8 : (0 : Int) ≤ (j : Int) := by omega
              rw [hn9] at q2 gne hdz Hgo Lo Hm hll ⊢
              clear hm hj1 hj3 hp hn9
              by_cases hpx : p < x
              · have hd2 : decide (p < x) = true := decide_eq_true hpx
                have Hn := Lib.hid (Hyes.out hrq (by rw [hja]; exact hpx))
                clear hrq hpx hja
                go_wp2
                go_quiet (fail)
                obtain ⟨ho8, hr8, hb8⟩ := Hgo.out nq
                obtain ⟨W8, hW8⟩ : ∃ W8, wr.drewN nq = W8 := ⟨_, rfl⟩
                rw [hW8] at ho8 hr8 hb8 ⊢
                have Ho8 := Lib.hid ho8
                have Hr8 := Lib.hid hr8
                have Hb8 := Lib.hid hb8
                clear hW8 ho8 hr8 hb8
                go_wp2_with (at_builtin; refine wpList_append_new _ rfl (.tmp 61) (.tmp 63) 23 rfl w.heap.size 3 i0 (.int .i64 0) 1 8 Try.underlying23 hi hz0 hz1 hz2 rfl (by decide) (.slice (some ⟨g2', 0, none⟩) n9 ct) n9 _ rfl (Ho8.out.alloc _) ⟨W8.heap.size, 0, none⟩ 1 1 [.int .i64 k] rfl rfl (one_new _ _ _) (by simp [Value.oneCell']) (by unfold maxLen; omega) (by omega) (by have := Hb8.out.size; simp; omega) ?_; intro v' w7 hown7 hgr7 hnew7; have O7 := Lib.hid hown7; have T7 := Lib.hid (two_grow Hr8.out Lo.out Lr.out (by omega) hgr7 hnew7); have B7 := Lib.hid ((Hb8.out.alloc (by have := Hb8.out.size; exact this) _).grown hgr7 (by have := Hb8.out.size; simp; omega) (fun r e => (Ho8.out.lt r e).1)); clear hown7 hgr7 hnew7)
                go_roundw
                case rel => exact ⟨k + 1, _, _, by omega, by go_num, rfl, by rw [Hn.out.1, ← Hq.out]; simp; omega, by rw [lgI_snoc Hn.out.1, Hn.out.1, List.length_append, List.map_append, Hm.out]; exact O7.out, T7.out.2.1, T7.out.1, T7.out.2.2, B7.out⟩
                case measure => simp [intOf]; omega
              · have hd2 : decide (p < x) = false := decide_eq_false hpx
                have Hn := Lib.hid (Hno.out (fun h => hpx (by rw [← hja]; exact h.2)))
                clear hrq hpx hja
                go_wp2
                go_quiet (fail)
                all_goals
                  go_wp2
                  go_roundw
                  case rel => exact ⟨k + 1, ow, _, by omega, by go_num, rfl, by rw [Hn.out.1, Hq.out], by rw [lgI_same Hn.out.1, Hn.out.1, Hm.out]; exact (Hgo.out nq).1, Lo.out, (Hgo.out nq).2.1, Lr.out, (Hgo.out nq).2.2⟩
                  case measure => simp [intOf]; omega
          · have hd : ((r : Int) == q) = false := beq_eq_false_iff_ne.2 hrq
            have Hn := Lib.hid (Hno.out (fun h => hrq h.1))
            clear hrq
            go_wp2
            go_quiet (fail)
            all_goals
              go_wp2
              go_roundw
              case rel => exact ⟨k + 1, ow, tv, by omega, by go_num, rfl, by rw [Hn.out.1, Hq.out], by rw [lgI_same Hn.out.1, Hn.out.1]; exact (Hgo.out nq).1, Lo.out, (Hgo.out nq).2.1, Lr.out, (Hgo.out nq).2.2⟩
              case measure => simp [intOf]; omega
        · obtain rfl : k = z0.length := by omega
          have hlg := lgI_len z0 z0.length
          go_wp2
          go_ret2
          rw [Hord.out, Hy.out]
          exact RetS.mk (f := fun v => .tuple #[v, .bool true]) (by rw [lgI_len]; omega) (by rw [lgI_len]; exact Ho.out) Hb.out

end Go.Proofs.Ytciahmccafcllaa
