/-
  PlanBest of the model. Written by genplt2.py.
-/
import Derived.Test.YtbcgglkgdjafiaaDoorPlT0
import Derived.Test.YtbcgglkgdjafiaaDoorPlE
namespace Go.Proofs.YtbcgglkgdjafiaaDoor
open Go.RowKit

def slLen : Value → Nat
  | .slice _ n _ => n
  | _ => 0
theorem bsP_no {L : List UInt8} {J : List Jbs} (h : timeB L J = false) : bsP L J = [] := by unfold bsP; rw [h]; rfl

set_option maxRecDepth 100000 in
set_option maxHeartbeats 4000000 in
theorem specPlanBest_b (s : ByteArray) (A : Option Addr) (c : Nat) (J : List Jbs) (w : World) (hs : s.size ≤ 2097152) (ha : ArgJ w A c J) :
    Calls Tryd.prog 34 #[.string s, .slice A J.length c] w (RetS 3 (fun v => .tuple #[v, .bool (timeB (byL s) J)]) (bsP (byL s) J) w) := by
  obtain ⟨i0, hi, hz0, hz1, hz2⟩ := info_parts intInf
  have hbn := below_none w 3
  have hown := own_none w 3
  have HA := Lib.hid (ha.go hbn)
  have Hok := Lib.hid (l6rOk_c s hs A c J _ (ha.go hbn))
  have Hbn := Lib.hid hbn
  have Hown := Lib.hid hown
  have hjl := ha.len
  clear ha hbn hown
  cases ht : timeB (byL s) J
  · have Hn := Lib.hid (bsP_no ht)
    have Ht := Lib.hid ht
    clear ht
    go_enter Tryd.func34, Tryd.ntmps34
    go_wp2_with fail
    refine Hok.out.mono ?_
    rintro e w1 ⟨rfl, rfl⟩
    rw [Ht.out]
    go_wp2
    go_ret2
    rw [Hn.out]
    exact RetS.mk (f := fun v => .tuple #[v, .bool false]) (by simp) Hown.out Hbn.out
  obtain ⟨hbL, hbJ, _⟩ := timeB_true.1 ht
  have hj6 := (jbB_true.1 hbJ).1
  obtain ⟨x, hx⟩ := bp_some (byL s) J
  have hxv := bp_val ht hx
  rw [allP_from] at hx
  have Ht := Lib.hid ht
  have HbL := Lib.hid hbL
  have HbJ := Lib.hid hbJ
  have Hx := Lib.hid hx
  have Hxv := Lib.hid hxv
  have hop := opT_all (byL s)
  have hl30 := fc_l30 hbL
  have hwb := fun (r : List Int) (h : rwP J.length r) (hl : r.length ≤ J.length) => (show 0 ≤ wkP J r ∧ wkP J r ≤ 30 by have := wk_room ht h hl; omega)
  have Hwb := Lib.hid hwb
  clear ht hbL hbJ hx hxv hop hl30 hwb
  go_enter Tryd.func34, Tryd.ntmps34
  go_wp2_with fail
  refine Hok.out.mono ?_
  rintro e w1 ⟨rfl, rfl⟩
  rw [Ht.out]
  go_wp2
  obtain ⟨w1, hw1⟩ : ∃ w1, w.alloc (.cells #[] 3) = w1 := ⟨_, rfl⟩
  rw [hw1] at HA Hown Hbn
  rw [hw1]
  clear Hok hw1
  go_loopw [6, 7] (fun ov kv wr => ∃ (r : List Int), r.length ≤ J.length ∧ rwP J.length r ∧ bst (costP (byL s) J) (fromP J.length r) = some x ∧ kv = .int .i64 (wkP J r) ∧ Ow 3 w.heap.size wr.heap.size wr ov r ∧ Below w.heap.size w wr ∧ Below w1.heap.size w1 wr) (fun ov _ _ => J.length - slLen ov)
  case atStart => exact ⟨[], Nat.zero_le _, rwP_nil _, Hx.out, rfl, Ow.of_own Hown.out, Hbn.out, Below.refl _ _⟩
  case round =>
    obtain ⟨r, hrn, hxr, hbx, rfl, ho, hb, hbw⟩ := hrel
    obtain ⟨W0, hW0⟩ : ∃ W0, W0 = wr := ⟨_, rfl⟩
    subst hW0
    obtain ⟨A2, c2, rfl, _, _, _⟩ := ho.form
    have harg := ho.arg (by omega) (Nat.le_refl _)
    by_cases hr : r.length < J.length
    case neg =>
      have hrx : r = x := pickP_end (by omega) hbx
      have g00 : ¬ (r.length : Int) < (J.length : Int) := by omega
      have Hfin := Lib.hid (show RetS 3 (fun v => .tuple #[v, .bool true]) (bsP (byL s) J) w (.returned (.tuple #[.slice A2 r.length c2, .bool true])) W0 from ⟨A2, c2, by rw [Hxv.out, ← hrx], by rw [Hxv.out, ← hrx]; exact harg, by rw [Hxv.out, ← hrx]; exact ho, hb⟩)
      clear hbx ho hb hbw harg hrx hxr
      go_wp2
      go_ret2
      exact Hfin.out
    case pos =>
      have g00 : (r.length : Int) < (J.length : Int) := by omega
      have hlw := lstP_bd HbL.out HbJ.out hrn
      have hpy := fun (k : Nat) hk hp hm => pickP_yes (k := k) hr hbx hk hp hm
      have hpn := fun (k : Nat) hk hp => pickP_no (k := k) hr hbx hk hp
      have Hps := Lib.hid (fun h => pickP_some hr hbx h)
      have hca := l6rLeast_c s hs A c J Ht.out (J.length - r.length) r A2 c2 W0 (by omega) hxr (HA.out.go hbw) harg
      have Hdy := Lib.hid (fun (k : Nat) hk hm => dy_room Ht.out hxr hr (k := k) hk hm)
      have Hwk := Lib.hid (fun (k : Nat) => wkP_snoc J r (k : Int))
      have hnd := fun (k : Nat) => (show nxtP (byL s) J r k = (jbsAt J k).g * dyI (byL s) (wkP J r + (jbsAt J k).d) from rfl)
      obtain ⟨hw0, hw30⟩ := Hwb.out r hxr hrn
      obtain ⟨W, hW⟩ : ∃ W, wkP J r = W := ⟨_, rfl⟩
      rw [hW] at hca Hdy Hwk hnd hw0 hw30 ⊢
      obtain ⟨l, hl⟩ : ∃ l, lstP (byL s) J r = l := ⟨_, rfl⟩
      rw [hl] at hca hlw hpy hpn
      obtain ⟨l1, l2⟩ := hlw
      have Hnd := Lib.hid hnd
      have Hpy := Lib.hid hpy
      have Hpn := Lib.hid hpn
      have Hca := Lib.hid hca
      have Ho := Lib.hid ho
      have Hb := Lib.hid hb
      have Hbw := Lib.hid hbw
      have Hxr := Lib.hid hxr
      have Harg := Lib.hid harg
      clear hca hbx ho hb hbw hl hxr harg hW hpy hpn hnd
      go_wp2_with fail
      refine Hca.out.mono ?_
      rintro e W1 ⟨rfl, hbA⟩
      have HbA := Lib.hid hbA
      replace Ho := Lib.hid (Ho.out.below hbA (Nat.le_refl _))
      clear hbA Hca
      go_wp2
      go_loopw [6, 7, 9] (fun ov uv kv wr => ∃ k : Nat, k ≤ J.length ∧ kv = .int .i64 k ∧ ov = .slice A2 r.length c2 ∧ uv = .int .i64 W ∧ (∀ z ∈ preP J.length r k, costP (byL s) J x < costP (byL s) J z) ∧ Below W1.heap.size W1 wr) (fun _ _ kv _ => J.length - (intOf kv).toNat)
      case atStart => exact ⟨0, Nat.zero_le _, rfl, rfl, rfl, (by rw [preP_zero]; simp), Below.refl _ _⟩
      case round =>
        obtain ⟨k, hk, rfl, rfl, rfl, hp, hb⟩ := hrel
        have Hp := Lib.hid hp
        have Hbk := Lib.hid hb
        clear hp hb
        by_cases hlt : k < J.length
        case neg =>
          obtain rfl : k = J.length := by omega
          exact (Hps.out Hp.out).elim
        case pos =>
          have g1 : (k : Int) < (J.length : Int) := by omega
          have hWk := below_step HbA.out Hbk.out
          have hhas := l4Has_c A2 c2 r (k : Int) wr (Harg.out.go hWk)
          have hpn := Hpn.out k hlt Hp.out
          by_cases hm : (k : Int) ∈ r
          case pos =>
            rw [decide_eq_true hm] at hhas
            have Hhas := Lib.hid hhas
            have Hn := Lib.hid (hpn (.inl hm))
            clear hm hhas hpn hWk
            go_wp2_with fail
            refine Hhas.out.mono ?_
            rintro e w9 ⟨rfl, rfl⟩
            go_wp2
            go_roundw
            case rel => exact ⟨k + 1, by omega, by go_num, rfl, rfl, Hn.out, Hbk.out⟩
            case measure => simp [intOf]; omega
          rw [decide_eq_false hm] at hhas
          have Hhas := Lib.hid hhas
          obtain ⟨hdy, hd0, hd30⟩ := Hdy.out k hlt hm
          have hnb := nxt_bd (r := r) HbL.out HbJ.out k
          have hxr := rwP_snoc Hxr.out hlt hm
          have hmb := lstP_bd (r := r ++ [(k : Int)]) HbL.out HbJ.out (by simp; omega)
          have hwr := Hwk.out k
          have hnd := Hnd.out k
          have hpy := Hpy.out k hlt Hp.out hm
          rw [Int.toNat_natCast] at hwr
          have a1 := HA.out.go (below_step Hbw.out hWk)
          obtain ⟨b0, off0, rfl, _, hbw0, he0, he1⟩ := a1.rd.at_ hlt
          obtain ⟨r', hr'⟩ : ∃ r', r ++ [(k : Int)] = r' := ⟨_, rfl⟩
          have hl' : r'.length = r.length + 1 := by rw [← hr']; simp
          have ihr := fun (A3 : Option Addr) (c3 : Nat) (W9 : World) => l6rLeast_c s hs (some ⟨b0, off0, none⟩) c J Ht.out (J.length - r'.length) r' A3 c3 W9 (by omega) (by rw [← hr']; exact hxr)
          rw [hr'] at hpy hpn hmb hwr hxr
          obtain ⟨D, hD⟩ : ∃ D, (jbsAt J k).d = D := ⟨_, rfl⟩
          obtain ⟨y, hy⟩ : ∃ y, (jbsAt J k).g = y := ⟨_, rfl⟩
          rw [hD] at hdy hd0 hd30 hwr hnd he0
          rw [hy] at hnd he1
          rw [hwr, hl'] at ihr
          obtain ⟨U, hU⟩ : ∃ U, W + D = U := ⟨_, rfl⟩
          rw [hU] at hdy hd0 hd30 hnd ihr hwr
          have q3 : IntKind.i64.wrap (W + D) = U := by rw [hU]; exact IntWalk.i64_in _ (by omega)
          obtain ⟨v, hv⟩ : ∃ v, dyI (byL s) U = v := ⟨_, rfl⟩
          rw [hv] at hdy hnd
          obtain ⟨n, hn0⟩ : ∃ n, nxtP (byL s) J r k = n := ⟨_, rfl⟩
          rw [hn0] at hpy hpn hnb hnd
          obtain ⟨m, hm0⟩ : ∃ m, lstP (byL s) J r' = m := ⟨_, rfl⟩
          rw [hm0] at hpy hpn hmb ihr
          have hfc := specForecastDay_c s hs U
          rw [hdy] at hfc
          have q1 : IntKind.i64.wrap (y * v) = n := by rw [hnd]; exact IntWalk.i64_in _ (by omega)
          have q2 : IntKind.i64.wrap (n + m) = n + m := IntWalk.i64_in _ (by omega)
          have Hfc := Lib.hid hfc
          have Ihr := Lib.hid ihr
          have Hr' := Lib.hid hr'
          have Hxr' := Lib.hid hxr
          have Hwr := Lib.hid hwr
          have Hpy2 := Lib.hid hpy
          have Hpn2 := Lib.hid (fun h => hpn (.inr h))
          obtain ⟨hn1, hn2⟩ := hnb
          obtain ⟨hm1, hm2⟩ := hmb
          clear hhas hdy hxr hwr hnd ihr hr' hD hy hU hv hn0 hm0 hfc hm a1 hpy hpn
          go_wp2_with (first
            | (refine ⟨trivial, ?_⟩; fail)
            | (go_at_call 67; refine Hhas.out.mono ?_; rintro e w9 ⟨rfl, rfl⟩)
            | (at_builtin; first
              | (refine wpList_append_ints rfl (.tmp 44) (.tmp 45) 31 rfl wr.heap.size 3 i0 (.int .i64 0) Tryd.underlying31 hi hz0 hz1 hz2 rfl (.slice (some ⟨wr.heap.size, 0, none⟩) 0 0) [] rfl (own_none wr _) A2 c2 r rfl (Harg.out.go (below_step hWk (below_none wr _))) (by simp; omega) (by simp) ?_; intro v1 w3 hown3 hg3; have H3 := Lib.hid (next1 hown3 hg3); clear hown3 hg3)
              | (refine wpList_append_ints rfl (.tmp 46) (.tmp 48) 31 rfl wr.heap.size 3 i0 (.int .i64 0) Tryd.underlying31 hi hz0 hz1 hz2 rfl v1 r rfl (H3.out.1.alloc _) (some ⟨w3.heap.size, 0, none⟩) 1 [(k : Int)] rfl (arg_one w3 (k : Int) _) (by simp; omega) (by simp; have := H3.out.2.size; omega) ?_; intro v2 w4 hown4 hg4; obtain ⟨A3, c3, rfl, ra4, ro4, rb4⟩ := next2 H3.out Hr'.out (by omega) hown4 hg4; have Ha4 := Lib.hid ra4; have Hb4 := Lib.hid rb4; have Ho4 := Lib.hid ro4; clear hown4 hg4 ra4 ro4 rb4)))
          have he1' := below_cell (x := ⟨b0, off0 + k * 2 + 1, none⟩) Hb4.out hbw0 he1
          refine wp_region_held_drew (S := (fun w9 => w9.cell? ⟨b0, off0 + k * 2 + 1, none⟩ = some (.int .i64 y))) (by kernel_rfl) (by exact he1') (fun hHeld => ?_)
          have hwx := Hb4.out.size
          generalize hwd : w4.drew = wd at hHeld
          have hdr : Below w4.heap.size w4 wd := by rw [← hwd]; exact below_drewN (Below.refl _ _) 1
          have Hbd := Lib.hid (below_step Hb4.out hdr)
          have Hdz := Lib.hid hdr.size
          have Hbj := Lib.hid (below_step Hbw.out (below_step hWk (below_step Hb4.out hdr)))
          have Hpk := Lib.hid (fun (w2 : World) (h : Below wd.heap.size wd w2) => (show w2.cell? ⟨b0, off0 + k * 2 + 1, none⟩ = some (.int .i64 y) from below_cell (x := ⟨b0, off0 + k * 2 + 1, none⟩) h (Nat.lt_of_lt_of_le hbw0 Hbd.out.size) hHeld))
          have Hgo := Lib.hid (fun (W9 : World) (h : Below wd.heap.size wd W9) => (HA.out.go Hbj.out).go h)
          have Ha3 := Lib.hid (Ha4.out.go hdr)
          replace Ho4 := Lib.hid (Ho4.out.below hdr (Nat.le_refl _))
          clear hwd he0 he1 he1' hbw0 hdr Ha4 hWk
          refine wpAnyH_take (i := 0) (oi := { dst := some 50, op := _, type := _, pos := _, after := _, guard := _ }) (v := ?v0x1) rfl (by kernel_rfl) (by kernel_rfl) (by kernel_rfl) (fun _ _ _ h => h) (Or.inl ⟨by kernel_rfl, ?y0x1⟩) (by assumption) ?r0x1
          case y0x1 => intro w hSw; (try dsimp only at hSw); go_simp; try with_reducible rfl
          try simp only [Act.put, List.setIfInBounds_toArray, List.set_cons_zero, List.set_cons_succ]
          refine wpAnyH_take (i := 1) (oi := { dst := some 51, op := _, type := _, pos := _, after := _, guard := _ }) (v := ?v1x2) rfl (by kernel_rfl) (by kernel_rfl) (by kernel_rfl) (fun _ _ _ h => h) (Or.inl ⟨by kernel_rfl, ?y1x2⟩) (by assumption) ?r1x2
          case y1x2 => intro w hSw; (try dsimp only at hSw); go_simp; try with_reducible rfl
          try simp only [Act.put, List.setIfInBounds_toArray, List.set_cons_zero, List.set_cons_succ]
          refine wpAnyH_take (i := 2) (oi := { dst := some 52, op := _, type := _, pos := _, after := _, guard := _ }) (v := ?v2x3) rfl (by kernel_rfl) (by kernel_rfl) (by kernel_rfl) (fun _ _ _ h => h) (Or.inl ⟨by kernel_rfl, ?y2x3⟩) (by assumption) ?r2x3
          case y2x3 => intro w hSw; (try dsimp only at hSw); go_simp; try with_reducible rfl
          try simp only [Act.put, List.setIfInBounds_toArray, List.set_cons_zero, List.set_cons_succ]
          refine wpAnyH_take (i := 3) (oi := { dst := some 53, op := _, type := _, pos := _, after := _, guard := _ }) (v := ?v3x4) rfl (by kernel_rfl) (by kernel_rfl) (by kernel_rfl) (fun _ _ _ h => h) (Or.inl ⟨by kernel_rfl, ?y3x4⟩) (by assumption) ?r3x4
          case y3x4 => intro w hSw; (try dsimp only at hSw); go_simp; try with_reducible rfl
          try simp only [Act.put, List.setIfInBounds_toArray, List.set_cons_zero, List.set_cons_succ]
          refine wpAnyH_take (i := 4) (oi := { dst := some 54, op := _, type := _, pos := _, after := _, guard := _ }) (v := ?v4x5) rfl (by kernel_rfl) (by kernel_rfl) (by kernel_rfl) (fun _ _ _ h => h) (Or.inl ⟨by kernel_rfl, ?y4x5⟩) (by assumption) ?r4x5
          case y4x5 => intro w hSw; (try dsimp only at hSw); go_simp; try with_reducible rfl
          try simp only [Act.put, List.setIfInBounds_toArray, List.set_cons_zero, List.set_cons_succ]
          refine wpAnyH_take (i := 5) (oi := { dst := some 55, op := _, type := _, pos := _, after := _, guard := _ }) (v := ?v5x6) rfl (by kernel_rfl) (by kernel_rfl) (by kernel_rfl) (fun _ _ _ h => h) (Or.inl ⟨by kernel_rfl, ?y5x6⟩) (by assumption) ?r5x6
          case y5x6 => intro w hSw; (try dsimp only at hSw); go_simp; try with_reducible rfl
          try simp only [Act.put, List.setIfInBounds_toArray, List.set_cons_zero, List.set_cons_succ]
          refine wpAnyH_take (i := 6) (oi := { dst := some 56, op := _, type := _, pos := _, after := _, guard := _ }) (v := ?v6x7) rfl (by kernel_rfl) (by kernel_rfl) (by kernel_rfl) (fun _ _ _ h => h) (Or.inl ⟨by kernel_rfl, ?y6x7⟩) (by assumption) ?r6x7
          case y6x7 => intro w hSw; (try dsimp only at hSw); go_simp; try with_reducible rfl
          try simp only [Act.put, List.setIfInBounds_toArray, List.set_cons_zero, List.set_cons_succ]
          refine wpAnyH_call (i := 7) (oi := { dst := some 57, op := _, type := _, pos := _, after := _, guard := _ }) (v := .int .i64 v) rfl (by kernel_rfl) (by kernel_rfl) (by kernel_rfl) (fun _ _ _ h => h) ⟨by kernel_rfl, ?y7⟩ (by assumption) ?r7
          case y7 => intro w hSw; go_simp; exact (Hfc.out w).mono fun e w2 h => ⟨h.1, h.2.symm⟩
          try simp only [Act.put, List.setIfInBounds_toArray, List.set_cons_zero, List.set_cons_succ]
          refine wpAnyH_take (i := 8) (oi := { dst := some 58, op := _, type := _, pos := _, after := _, guard := _ }) (v := ?v8x8) rfl (by kernel_rfl) (by kernel_rfl) (by kernel_rfl) (fun _ _ _ h => h) (Or.inl ⟨by kernel_rfl, ?y8x8⟩) (by assumption) ?r8x8
          case y8x8 => intro w hSw; (try dsimp only at hSw); go_simp; try with_reducible rfl
          try simp only [Act.put, List.setIfInBounds_toArray, List.set_cons_zero, List.set_cons_succ]
          refine wpAnyH_take (i := 9) (oi := { dst := some 59, op := _, type := _, pos := _, after := _, guard := _ }) (v := ?v9x9) rfl (by kernel_rfl) (by kernel_rfl) (by kernel_rfl) (fun _ _ _ h => h) (Or.inl ⟨by kernel_rfl, ?y9x9⟩) (by assumption) ?r9x9
          case y9x9 => intro w hSw; (try dsimp only at hSw); go_simp; try with_reducible rfl
          try simp only [Act.put, List.setIfInBounds_toArray, List.set_cons_zero, List.set_cons_succ]
          refine wpAnyH_take (i := 10) (oi := { dst := some 60, op := _, type := _, pos := _, after := _, guard := _ }) (v := ?v10x10) rfl (by kernel_rfl) (by kernel_rfl) (by kernel_rfl) (fun _ _ _ h => h) (Or.inl ⟨by kernel_rfl, ?y10x10⟩) (by assumption) ?r10x10
          case y10x10 => intro w hSw; (try dsimp only at hSw); go_simp; try with_reducible rfl
          try simp only [Act.put, List.setIfInBounds_toArray, List.set_cons_zero, List.set_cons_succ]
          refine wpAnyH_take (i := 11) (oi := { dst := some 61, op := _, type := _, pos := _, after := _, guard := _ }) (v := ?v11x11) rfl (by kernel_rfl) (by kernel_rfl) (by kernel_rfl) (fun _ _ _ h => h) (Or.inl ⟨by kernel_rfl, ?y11x11⟩) (by assumption) ?r11x11
          case y11x11 => intro w hSw; (try dsimp only at hSw); go_simp; try with_reducible rfl
          try simp only [Act.put, List.setIfInBounds_toArray, List.set_cons_zero, List.set_cons_succ]
          refine wpAnyH_take (i := 12) (oi := { dst := some 62, op := _, type := _, pos := _, after := _, guard := _ }) (v := ?v12x12) rfl (by kernel_rfl) (by kernel_rfl) (by kernel_rfl) (fun _ _ _ h => h) (Or.inl ⟨by kernel_rfl, ?y12x12⟩) (by assumption) ?r12x12
          case y12x12 => intro w hSw; (try dsimp only at hSw); go_simp; try with_reducible rfl
          try simp only [Act.put, List.setIfInBounds_toArray, List.set_cons_zero, List.set_cons_succ]
          refine wpAnyH_take (i := 15) (oi := { dst := some 65, op := _, type := _, pos := _, after := _, guard := _ }) (v := ?v15x13) rfl (by kernel_rfl) (by kernel_rfl) (by kernel_rfl) (fun _ _ _ h => h) (Or.inl ⟨by kernel_rfl, ?y15x13⟩) (by assumption) ?r15x13
          case y15x13 => intro w hSw; (try dsimp only at hSw); go_simp; try with_reducible rfl
          try simp only [Act.put, List.setIfInBounds_toArray, List.set_cons_zero, List.set_cons_succ]
          refine wpAnyH_ready (rs := [13]) (by kernel_rfl) (by simp) ?_
          refine AllReadyH.cons (o := { dst := some 63, op := _, type := _, pos := _, after := _, guard := _ }) rfl (fun K hK => ?_) AllReadyH.nil
          go_simp
          refine (Ihr.out A3 c3 wd ((Hgo.out _ (Below.refl _ _))) Ha3.out).mono ?_
          rintro e w5 ⟨rfl, hb5⟩
          have pk5 := Hpk.out _ hb5
          have Hw5 := Lib.hid hb5
          clear hb5
          refine hK.out _ _ (pk5) (fun hHeld2 => ?_)
          clear hK K
          try simp only [Act.put, List.setIfInBounds_toArray, List.set_cons_zero, List.set_cons_succ]
          refine wpAnyH_take (i := 14) (oi := { dst := some 64, op := _, type := _, pos := _, after := _, guard := _ }) (v := ?v14x14) rfl (by kernel_rfl) (by kernel_rfl) (by kernel_rfl) (fun _ _ _ h => h) (Or.inl ⟨by kernel_rfl, ?y14x14⟩) (by assumption) ?r14x14
          case y14x14 => intro w hSw; (try dsimp only at hSw); go_simp; try with_reducible rfl
          try simp only [Act.put, List.setIfInBounds_toArray, List.set_cons_zero, List.set_cons_succ]
          refine wpAnyH_take (i := 16) (oi := { dst := some 66, op := _, type := _, pos := _, after := _, guard := _ }) (v := ?v16x15) rfl (by kernel_rfl) (by kernel_rfl) (by kernel_rfl) (fun _ _ _ h => h) (Or.inl ⟨by kernel_rfl, ?y16x15⟩) (by assumption) ?r16x15
          case y16x15 => intro w hSw; (try dsimp only at hSw); go_simp; try with_reducible rfl
          try simp only [Act.put, List.setIfInBounds_toArray, List.set_cons_zero, List.set_cons_succ]
          refine wpAnyH_done (by kernel_rfl) ?_ _
          by_cases x2 : n + m = l
          · have Hfin := Lib.hid (Hpy2.out x2)
            have hch := below_step (below_step HbA.out Hbk.out) (below_step Hbd.out Hw5.out)
            have hov := Ho4.out.below Hw5.out Hdz.out
            have hsz1 := (below_step (below_step Hb.out HbA.out) Hbk.out).size
            have Hov := Lib.hid (hov.more (lo' := w.heap.size) (hi' := w5.heap.size) hsz1 (Nat.le_trans Hdz.out Hw5.out.size))
            have Hch := Lib.hid hch
            rw [hl'] at Hov
            clear hov hch
            go_wp2
            go_roundw
            case rel => exact ⟨r', by omega, Hxr'.out, Hfin.out, by rw [Hwr.out], Hov.out, below_step Hb.out Hch.out, below_step Hbw.out Hch.out⟩
            case measure => simp [slLen]; omega
          · have Hn := Lib.hid (Hpn2.out x2)
            go_wp2
            go_roundw
            case rel => exact ⟨k + 1, by omega, by go_num, rfl, rfl, Hn.out, below_step Hbk.out (below_step Hbd.out Hw5.out)⟩
            case measure => simp [intOf]; omega

end Go.Proofs.YtbcgglkgdjafiaaDoor
