/-
  OrdersBack of both.
-/
import Derived.Test.YthdbbppahloapaaTkO
import Derived.Test.YthdbbppahloapaaStwS
import Derived.Test.YthdbbppahloapaaMade
namespace Go.Proofs.Ythdbbppahloapaa
open Go.RowKit

/-- the coil that is paid out as the k-th one from the end, counted from the end -/
def backK (L : List Int) (k : Nat) : Int := (L.length : Int) - 1 - invN L (L.length - 1 - k)
def backL (L : List Int) : List Int := (List.range L.length).map (backK L)
def backTo (L : List Int) (i : Nat) : List Int := (List.range L.length).map fun k => if invN L (L.length - 1 - k) < i then backK L k else 0
theorem backL_len (L : List Int) : (backL L).length = L.length := by simp [backL]
theorem backTo_len (L : List Int) (i : Nat) : (backTo L i).length = L.length := by simp [backTo]
theorem backTo_zero (L : List Int) : backTo L 0 = List.replicate L.length 0 := by
  unfold backTo
  apply List.ext_getElem (by simp)
  intro k h1 h2
  simp
theorem backTo_all {L : List Int} (h : ordB L = true) : backTo L L.length = backL L := by
  unfold backTo backL
  refine List.map_congr_left fun k hk => ?_
  have := List.mem_range.1 hk
  rw [if_pos (inv_lt h (by omega))]
theorem backTo_succ {L : List Int} (h : ordB L = true) {i t : Nat} (hi : i < L.length) (ht : (L.length : Int) - 1 - L[i]?.getD 0 = t) : backTo L (i + 1) = (backTo L i).set t ((L.length : Int) - 1 - i) := by
  have h0 := ord_at h hi
  apply List.ext_getElem (by simp [backTo])
  intro k h1 h2
  have hk : k < L.length := by simpa [backTo] using h1
  rw [List.getElem_set]
  simp only [backTo, List.getElem_map, List.getElem_range]
  by_cases e : t = k
  · have h3 : invN L (L.length - 1 - k) = i := inv_of h hi (by omega) (by omega)
    rw [if_pos e, if_pos (by omega)]
    unfold backK
    rw [h3]
  · rw [if_neg e]
    have h3 : invN L (L.length - 1 - k) ≠ i := fun e2 => e (by
      have := inv_at h (show L.length - 1 - k < L.length by omega)
      rw [e2] at this
      omega)
    by_cases h4 : invN L (L.length - 1 - k) < i
    · rw [if_pos h4, if_pos (by omega)]
    · rw [if_neg h4, if_neg (by omega)]
def bkR (L : List Int) : List Int := if ordB L then backL L else []
theorem bk_no {L : List Int} (h : ordB L = false) : bkR L = [] := by unfold bkR; rw [h]; rfl
theorem bk_yes {L : List Int} (h : ordB L = true) : bkR L = backL L := by unfold bkR; rw [h]; rfl

set_option maxHeartbeats 2000000 in
theorem implOrdersBack_b (A0 : Option Addr) (c0 : Nat) (z0 : List Int) (w : World) (h0 : Arg w A0 c0 z0) :
    Calls Try.prog 28 #[.slice A0 z0.length c0] w (RetS 3 (fun v => .tuple #[v, .bool (ordB z0)]) (bkR z0) w) := by
  have hl0 := h0.len
  have H0 := Lib.hid h0
  obtain ⟨i0, hi, hz0, hz1, hz2⟩ := info_parts int_info
  have HMI := Lib.hid (made_ints z0.length)
  clear h0
  go_enter Try.func28, Try.ntmps28
  go_wp2_with fail
  refine (implOrdersValid_b A0 c0 z0 _ H0.out).mono ?_
  rintro e w1 ⟨rfl, hb1⟩
  have Hb1 := Lib.hid hb1
  have Hs1 := Lib.hid hb1.size
  clear hb1
  cases hs : ordB z0
  · have Hn := Lib.hid (bk_no hs)
    have Hss := Lib.hid hs
    clear hs
    go_wp2
    go_ret2
    rw [Hss.out, Hn.out]
    exact RetS.nil (f := fun v => .tuple #[v, .bool false]) Hb1.out
  have Hy := Lib.hid (bk_yes hs)
  have Hord := Lib.hid hs
  have h10 := ord_len hs
  clear hs
  go_wp2_with (at_make; refine wpList_make_full _ rfl (.tmp 15) (.tmp 15) 23 rfl w.heap.size 3 i0 (.int .i64 0) 1 Try.underlying23 hi hz0 hz1 .i64 .i64 _ _ z0.length rfl rfl rfl rfl (by rw [hz2]; omega) (by unfold maxLen; omega) Hs1.out ?_; intro w2 hown hg2)
  rw [HMI.out, ← backTo_zero z0] at hown
  have HB2 := Lib.hid (Hb1.out.grown hg2 Hs1.out (by simp))
  have HO := Lib.hid hown
  obtain ⟨B, hB⟩ : ∃ B, w1.heap.size = B := ⟨_, rfl⟩
  have hwB : w.heap.size ≤ B := by have := Hs1.out; omega
  rw [hB] at HO ⊢
  clear hown hg2 hB
  go_loopw [19] (fun i wr => ∃ k : Nat, k ≤ z0.length ∧ i = .int .i64 k ∧ wr.ownsRow w.heap.size 3 1 (.slice (some ⟨B, 0, none⟩) z0.length z0.length) z0.length ((backTo z0 k).map (Value.int .i64)) ∧ Below w.heap.size w wr) (fun i _ => z0.length - (intOf i).toNat)
  case atStart => exact ⟨0, Nat.zero_le _, rfl, HO.out, HB2.out⟩
  case round =>
    obtain ⟨k, hk, rfl, hok, hb⟩ := hrel
    by_cases hlt : k < z0.length
    · obtain ⟨b, off, rfl, _, hbw, hc0⟩ := (H0.out.go hb).rd.at_ hlt
      have hx := ord_at Hord.out hlt
      have hfs := fun t => backTo_succ Hord.out (t := t) hlt
      obtain ⟨x, hxx⟩ : ∃ x, z0[k]?.getD 0 = x := ⟨_, rfl⟩
      rw [hxx] at hc0 hx
      rw [hxx] at hfs
      obtain ⟨t, ht⟩ : ∃ t : Nat, (z0.length : Int) - 1 - x = t := ⟨((z0.length : Int) - 1 - x).toNat, by omega⟩
      obtain ⟨u, hu⟩ : ∃ u : Nat, (z0.length : Int) - 1 - k = u := ⟨((z0.length : Int) - 1 - k).toNat, by omega⟩
      have hfs2 := hfs t ht
      rw [hu] at hfs2
      have ht5 : t < z0.length := by omega
      have hst := hok.stored t (.int .i64 u)
      rw [← List.map_set, ← hfs2] at hst
      have hck := hok.cellAt t (by omega)
      have hfk := hok.frozenAt t
      rw [List.getElem?_map, List.getElem?_eq_getElem (by rw [backTo_len]; exact ht5)] at hck
      simp only [Option.map_some] at hck
      have Hst := Lib.hid hst
      have Hb := Lib.hid hb
      have g1 : (k : Int) < (z0.length : Int) := by omega
      have g2 : (0 : Int) ≤ (k : Int) := by omega
      have g3 : (t : Int) < (z0.length : Int) := by omega
      have g4 : (0 : Int) ≤ (t : Int) := by omega
      have q0 : IntKind.i64.wrap ((z0.length : Int) - 1) = (z0.length : Int) - 1 := IntWalk.i64_in _ (by omega)
      have q1 : IntKind.i64.wrap ((z0.length : Int) - 1 - x) = t := by rw [ht]; exact IntWalk.i64_in _ (by omega)
      have q2 : IntKind.i64.wrap ((z0.length : Int) - 1 - (k : Int)) = u := by rw [hu]; exact IntWalk.i64_in _ (by omega)
      clear hst hok hb hx hfs hfs2 hxx ht hu
      go_wp2
      go_roundw
      case rel => exact ⟨k + 1, by omega, by go_num, Hst.out.1, Hb.out.setCell (p := ⟨B, t, none⟩) hwB _⟩
      case measure => simp [intOf]; omega
    · obtain rfl : k = z0.length := by omega
      rw [backTo_all Hord.out] at hok
      have HK := Lib.hid hok
      have Hb := Lib.hid hb
      clear hok hb
      go_wp2
      go_ret2
      rw [Hord.out, Hy.out]
      exact RetS.mk (f := fun v => .tuple #[v, .bool true]) (by rw [backL_len]; omega) (by rw [backL_len]; exact HK.out) Hb.out

set_option maxHeartbeats 2000000 in
theorem specOrdersBack_b (A0 : Option Addr) (c0 : Nat) (z0 : List Int) (w : World) (h0 : Arg w A0 c0 z0) :
    Calls Try.prog 29 #[.slice A0 z0.length c0] w (RetS 3 (fun v => .tuple #[v, .bool (ordB z0)]) (bkR z0) w) := by
  have hl0 := h0.len
  have H0 := Lib.hid h0
  obtain ⟨i0, hi, hz0, hz1, hz2⟩ := info_parts int_info
  have HMI := Lib.hid (made_ints z0.length)
  clear h0
  go_enter Try.func29, Try.ntmps29
  go_wp2_with fail
  refine (specOrdersValid_b A0 c0 z0 _ H0.out).mono ?_
  rintro e w1 ⟨rfl, hb1⟩
  have Hb1 := Lib.hid hb1
  have Hs1 := Lib.hid hb1.size
  clear hb1
  cases hs : ordB z0
  · have Hn := Lib.hid (bk_no hs)
    have Hss := Lib.hid hs
    clear hs
    go_wp2
    go_ret2
    rw [Hss.out, Hn.out]
    exact RetS.empty (f := fun v => .tuple #[v, .bool false]) Hb1.out
  have Hy := Lib.hid (bk_yes hs)
  have Hord := Lib.hid hs
  have h10 := ord_len hs
  clear hs
  go_wp2_with (at_make; refine wpList_make_full _ rfl (.tmp 13) (.tmp 13) 23 rfl w.heap.size 3 i0 (.int .i64 0) 1 Try.underlying23 hi hz0 hz1 .i64 .i64 _ _ z0.length rfl rfl rfl rfl (by rw [hz2]; omega) (by unfold maxLen; omega) Hs1.out ?_; intro w2 hown hg2)
  rw [HMI.out, ← backTo_zero z0] at hown
  have HB2 := Lib.hid (Hb1.out.grown hg2 Hs1.out (by simp))
  have HO := Lib.hid hown
  obtain ⟨B, hB⟩ : ∃ B, w1.heap.size = B := ⟨_, rfl⟩
  have hwB : w.heap.size ≤ B := by have := Hs1.out; omega
  rw [hB] at HO ⊢
  clear hown hg2 hB
  go_loopw [6] (fun i wr => ∃ k : Nat, k ≤ z0.length ∧ i = .int .i64 k ∧ wr.ownsRow w.heap.size 3 1 (.slice (some ⟨B, 0, none⟩) z0.length z0.length) z0.length ((backTo z0 k).map (Value.int .i64)) ∧ Below w.heap.size w wr) (fun i _ => z0.length - (intOf i).toNat)
  case atStart => exact ⟨0, Nat.zero_le _, rfl, HO.out, HB2.out⟩
  case round =>
    obtain ⟨k, hk, rfl, hok, hb⟩ := hrel
    by_cases hlt : k < z0.length
    · obtain ⟨b, off, rfl, _, hbw, hc0⟩ := (H0.out.go hb).rd.at_ hlt
      have hx := ord_at Hord.out hlt
      have hfs := fun t => backTo_succ Hord.out (t := t) hlt
      obtain ⟨x, hxx⟩ : ∃ x, z0[k]?.getD 0 = x := ⟨_, rfl⟩
      rw [hxx] at hc0 hx
      rw [hxx] at hfs
      obtain ⟨t, ht⟩ : ∃ t : Nat, (z0.length : Int) - 1 - x = t := ⟨((z0.length : Int) - 1 - x).toNat, by omega⟩
      obtain ⟨u, hu⟩ : ∃ u : Nat, (z0.length : Int) - 1 - k = u := ⟨((z0.length : Int) - 1 - k).toNat, by omega⟩
      have hfs2 := hfs t ht
      rw [hu] at hfs2
      have ht5 : t < z0.length := by omega
      have hst := hok.stored t (.int .i64 u)
      rw [← List.map_set, ← hfs2] at hst
      have hck := hok.cellAt t (by omega)
      have hfk := hok.frozenAt t
      rw [List.getElem?_map, List.getElem?_eq_getElem (by rw [backTo_len]; exact ht5)] at hck
      simp only [Option.map_some] at hck
      have Hst := Lib.hid hst
      have Hb := Lib.hid hb
      have g1 : (k : Int) < (z0.length : Int) := by omega
      have g2 : (0 : Int) ≤ (k : Int) := by omega
      have g3 : (t : Int) < (z0.length : Int) := by omega
      have g4 : (0 : Int) ≤ (t : Int) := by omega
      have q0 : IntKind.i64.wrap ((z0.length : Int) - 1) = (z0.length : Int) - 1 := IntWalk.i64_in _ (by omega)
      have q1 : IntKind.i64.wrap ((z0.length : Int) - 1 - x) = t := by rw [ht]; exact IntWalk.i64_in _ (by omega)
      have q2 : IntKind.i64.wrap ((z0.length : Int) - 1 - (k : Int)) = u := by rw [hu]; exact IntWalk.i64_in _ (by omega)
      clear hst hok hb hx hfs hfs2 hxx ht hu
      go_wp2
      go_roundw
      case rel => exact ⟨k + 1, by omega, by go_num, Hst.out.1, Hb.out.setCell (p := ⟨B, t, none⟩) hwB _⟩
      case measure => simp [intOf]; omega
    · obtain rfl : k = z0.length := by omega
      rw [backTo_all Hord.out] at hok
      have HK := Lib.hid hok
      have Hb := Lib.hid hb
      clear hok hb
      go_wp2
      go_ret2
      rw [Hord.out, Hy.out]
      exact RetS.mk (f := fun v => .tuple #[v, .bool true]) (by rw [backL_len]; omega) (by rw [backL_len]; exact HK.out) Hb.out

end Go.Proofs.Ythdbbppahloapaa
