/-
  OrdersLongest of the program.
-/
import Derived.Test.YthdbbppahloapaaRowI
import Derived.Test.YthdbbppahloapaaStwM
namespace Go.Proofs.Ythdbbppahloapaa
open Go.RowKit

def lonR (L : List Int) : List Int := if ordB L then lgI L L.length else []
theorem lon_no {L : List Int} (h : ordB L = false) : lonR L = [] := by unfold lonR; rw [h]; rfl
theorem lon_yes {L : List Int} (h : ordB L = true) : lonR L = lgI L L.length := by unfold lonR; rw [h]; rfl
theorem lgI_len (L : List Int) (k : Nat) : (lgI L k).length = (lgO L k).length := by simp [lgI]
theorem lgI_snoc {L : List Int} {k : Nat} (h : lgO L (k + 1) = lgO L k ++ [k]) : lgI L (k + 1) = lgI L k ++ [(k : Int)] := by unfold lgI; rw [h]; simp
theorem lgI_same {L : List Int} {k : Nat} (h : lgO L (k + 1) = lgO L k) : lgI L (k + 1) = lgI L k := by unfold lgI; rw [h]
theorem lgA_bd {L : List Int} (h : ordB L = true) {k : Nat} (hk : k ≤ L.length) : -1 ≤ lgA L k ∧ lgA L k ≤ 10 := by
  unfold lgA
  cases hl : (lgO L k).getLast? with
  | none =>
    show (-1 : Int) ≤ -1 ∧ (-1 : Int) ≤ 10
    omega
  | some j =>
    have hj : j ∈ lgO L k := by
      obtain ⟨q, hq⟩ := List.getLast?_eq_some_iff.1 hl
      rw [hq]; simp
    have h1 := lgO_lt L k j hj
    have h2 := ord_at h (show j < L.length by omega)
    have h3 := ord_len h
    show -1 ≤ L[j]?.getD 0 ∧ L[j]?.getD 0 ≤ 10
    omega

set_option maxHeartbeats 2000000 in
theorem implOrdersLongest_b (A0 : Option Addr) (c0 : Nat) (z0 : List Int) (w : World) (h0 : Arg w A0 c0 z0) :
    Calls Try.prog 26 #[.slice A0 z0.length c0] w (RetS 3 (fun v => .tuple #[v, .bool (ordB z0)]) (lonR z0) w) := by
  have hl0 := h0.len
  have H0 := Lib.hid h0
  obtain ⟨i0, hi, hz0, hz1, hz2⟩ := info_parts int_info
  clear h0
  go_enter Try.func26, Try.ntmps26
  go_wp2_with fail
  refine (implOrdersValid_b A0 c0 z0 _ H0.out).mono ?_
  rintro e w1 ⟨rfl, hb1⟩
  have Hb1 := Lib.hid hb1
  replace H0 := Lib.hid (H0.out.go hb1)
  clear hb1
  cases hs : ordB z0
  · have Hn := Lib.hid (lon_no hs)
    have Hss := Lib.hid hs
    clear hs
    go_wp2
    go_ret2
    rw [Hss.out, Hn.out]
    exact RetS.nil (f := fun v => .tuple #[v, .bool false]) Hb1.out
  have Hy := Lib.hid (lon_yes hs)
  have Hord := Lib.hid hs
  have h10 := ord_len hs
  have hcn := cnt_le z0
  have Hlst := Lib.hid (lst_yes hs)
  clear hs
  go_wp2_with fail
  refine (implTanksLeast_b A0 c0 z0 _ H0.out).mono ?_
  rintro e w2 ⟨rfl, hb2⟩
  have Hb2 := Lib.hid (below_step Hb1.out hb2)
  replace H0 := Lib.hid (H0.out.go hb2)
  rw [Hlst.out]
  clear hb2
  go_wp2_with fail
  refine (rowsFrom_b A0 c0 z0 _ H0.out h10).mono ?_
  rintro e w3 ⟨B, d, rfl, ha3, ho3, hb3⟩
  dsimp only [id]
  have hrl := rowsL_len z0
  have hrat := fun i => rowsL_at z0 (i := i)
  have Hb3 := Lib.hid (below_step Hb2.out hb3)
  replace H0 := Lib.hid (H0.out.go hb3)
  have Hs3 := Lib.hid Hb3.out.size
  obtain ⟨R, hR⟩ : ∃ R, rowsL z0 = R := ⟨_, rfl⟩
  rw [hR] at ha3 hrl hrat ⊢
  have HR := Lib.hid ha3
  have HRat := Lib.hid hrat
  have HRl := Lib.hid hrl
  clear ha3 ho3 hb3 hR hrat hrl
  go_wp2_with (at_make; refine wpList_make_own _ rfl _ _ 23 rfl w3.heap.size 3 i0 (.int .i64 0) 1 Try.underlying23 hi hz0 hz1 .i64 .i64 _ (cntN z0) rfl rfl rfl (by rw [hz2]; omega) (by unfold maxLen; omega) (Nat.le_refl _) ?_; intro w4 hown hg4)
  have HO := Lib.hid hown
  have Hb4 := Lib.hid ((Below.refl w3.heap.size w3).grown hg4 (Nat.le_refl _) (by simp))
  clear hown hg4
  go_loopw [4, 6, 7, 21] (fun ms tp ah i wr => ∃ (k : Nat) (tv : Value), k ≤ z0.length ∧ i = .int .i64 k ∧ tv = tp ∧ ms = .int .i64 ((cntN z0 : Int) - (lgO z0 k).length) ∧ ah = .int .i64 (lgA z0 k) ∧ wr.ownsRow w3.heap.size 3 1 tv (lgO z0 k).length ((lgI z0 k).map (Value.int .i64)) ∧ Below w3.heap.size w3 wr) (fun _ _ _ i _ => z0.length - (intOf i).toNat)
  case atStart => exact ⟨0, _, Nat.zero_le _, rfl, rfl, by simp [lgO], rfl, HO.out, Hb4.out⟩
  case round =>
    obtain ⟨k, tv, hk, rfl, rfl, rfl, rfl, ho, hb⟩ := hrel
    have Ho := Lib.hid ho
    have Hb := Lib.hid hb
    have hll := lgO_len z0 k
    have hab := lgA_bd Hord.out hk
    clear ho hb
    by_cases hlt : k < z0.length
    · obtain ⟨b, off, rfl, _, hbw, hc0⟩ := (H0.out.go Hb.out).rd.at_ hlt
      obtain ⟨b1, off1, rfl, _, hbw1, hd0⟩ := (HR.out.go Hb.out).rd.at_ (show k < R.length by have := HRl.out; omega)
      have hra := HRat.out k hlt
      have hr1 := row_le Hord.out hlt
      have Hyes := Lib.hid (lgO_yes (L := z0) (k := k))
      have Hno := Lib.hid (lgO_no Hord.out hlt)
      rw [hra] at hd0
      obtain ⟨x, hx⟩ : ∃ x, z0[k]?.getD 0 = x := ⟨_, rfl⟩
      obtain ⟨r, hr⟩ : ∃ r, rowL z0 k = r := ⟨_, rfl⟩
      obtain ⟨a, ha⟩ : ∃ a, lgA z0 k = a := ⟨_, rfl⟩
      obtain ⟨q, hq⟩ : ∃ q : Int, (cntN z0 : Int) - (lgO z0 k).length = q := ⟨_, rfl⟩
      rw [hx] at hc0
      rw [hr] at hd0 hr1
      rw [hx, hr, ha, hq] at Hyes Hno
      rw [ha] at hab
      rw [ha, hq]
      have Hq := Lib.hid hq
      have Ha := Lib.hid ha
      have g1 : (k : Int) < (z0.length : Int) := by omega
      have g2 : (0 : Int) ≤ (k : Int) := by omega
      have g3 : (k : Int) < (R.length : Int) := by have := HRl.out; omega
      have q1 : IntKind.i64.wrap (q - 1) = q - 1 := IntWalk.i64_in _ (by omega)
      clear hx hr ha hq hra
      by_cases hrq : (r : Int) = q
      · by_cases hax : a < x
        · have Hn := Lib.hid (Hyes.out hrq hax)
          go_wp2_with (at_builtin; refine wpList_append_own _ rfl (.tmp 37) (.tmp 39) 23 rfl w3.heap.size 3 i0 (.int .i64 0) 1 8 Try.underlying23 hi hz0 hz1 hz2 rfl (by decide) tv (lgO z0 k).length _ rfl (Ho.out.alloc _) ⟨wr.heap.size, 0, none⟩ 1 1 [.int .i64 k] rfl rfl (one_new _ _ _) (by simp [Value.oneCell']) (by unfold maxLen; omega) (by omega) (by have := Hb.out.size; simp; omega) ?_; intro v' w7 hown7 hgr7 _; have O7 := Lib.hid hown7; have B7 := Lib.hid ((Hb.out.alloc (by have := Hb.out.size; exact this) _).grown hgr7 (by have := Hb.out.size; simp; omega) (fun r e => (Ho.out.lt r e).1)); clear hown7 hgr7)
          go_roundw
          case rel => exact ⟨k + 1, _, by omega, by go_num, rfl, by rw [Hn.out.1, ← Hq.out]; simp; omega, by rw [Hn.out.2], by rw [lgI_snoc Hn.out.1, Hn.out.1, List.length_append, List.map_append]; exact O7.out, B7.out⟩
          case measure => simp [intOf]; omega
        · have Hn := Lib.hid (Hno.out (fun h => hax h.2))
          go_wp2
          go_roundw
          case rel => exact ⟨k + 1, tv, by omega, by go_num, rfl, by rw [Hn.out.1, Hq.out], by rw [Hn.out.2], by rw [lgI_same Hn.out.1, Hn.out.1]; exact Ho.out, Hb.out⟩
          case measure => simp [intOf]; omega
      · have Hn := Lib.hid (Hno.out (fun h => hrq h.1))
        go_wp2
        go_roundw
        case rel => exact ⟨k + 1, tv, by omega, by go_num, rfl, by rw [Hn.out.1, Hq.out], by rw [Hn.out.2], by rw [lgI_same Hn.out.1, Hn.out.1]; exact Ho.out, Hb.out⟩
        case measure => simp [intOf]; omega
    · obtain rfl : k = z0.length := by omega
      go_wp2
      go_ret2
      rw [Hord.out, Hy.out]
      exact RetS.mk (f := fun v => .tuple #[v, .bool true]) (by rw [lgI_len]; omega) (by rw [lgI_len]; exact OwnsRow.more Ho.out Hs3.out) (below_step Hb3.out Hb.out)

end Go.Proofs.Ythdbbppahloapaa
