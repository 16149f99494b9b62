/-
  SparesSort of the model.
-/
import Derived.Test.YtmbdggakahbciaaAppZ
namespace Go.Proofs.Ytmbdggakahbciaa
open Go.RowKit

def stq (q m : Int) (s : Spr) : Bool := decide (s.k < q) || (decide (s.k = q) && decide (m < s.m))
def eqq (q m : Int) (s : Spr) : Bool := decide (s.k = q) && decide (s.m = m)
theorem stq_true {q m : Int} {s : Spr} : stq q m s = true ↔ s.k < q ∨ (s.k = q ∧ m < s.m) := by simp [stq]
theorem eqq_true {q m : Int} {s : Spr} : eqq q m s = true ↔ s.k = q ∧ s.m = m := by simp [eqq]
theorem split_sorted {p q r : Spr → Bool} (hd : ∀ a b, leS a b = true → p b = true → p a = true) (hpq : ∀ a, p a = true → q a = false) (hr : ∀ a, r a = (p a || q a)) : ∀ S : List Spr, S.Pairwise (fun a b => leS a b = true) → S.filter p ++ S.filter q = S.filter r
  | [], _ => rfl
  | a :: t, h => by
    rw [List.pairwise_cons] at h
    have ih := split_sorted hd hpq hr t h.2
    by_cases h1 : p a = true
    · rw [List.filter_cons_of_pos h1, List.filter_cons_of_neg (by rw [hpq a h1]; simp), List.filter_cons_of_pos (by rw [hr, h1]; rfl), List.cons_append, ih]
    · have h2 : t.filter p = [] := by
        rw [List.filter_eq_nil_iff]
        intro b hb hpb
        exact h1 (hd a b (h.1 b hb) hpb)
      rw [h2, List.nil_append] at ih
      have h1' : p a = false := by simpa using h1
      rw [List.filter_cons_of_neg h1, h2, List.nil_append]
      by_cases h3 : q a = true
      · rw [List.filter_cons_of_pos h3, List.filter_cons_of_pos (by rw [hr, h1', h3]; rfl), ih]
      · rw [List.filter_cons_of_neg h3, List.filter_cons_of_neg (by rw [hr, h1']; simpa using h3), ih]
theorem filter_same {p : Spr → Bool} {x : Spr} (h : ∀ s, p s = true → s = x) {a b : List Spr} (hp : a.Perm b) : a.filter p = b.filter p := by
  have h1 : ∀ l : List Spr, l.filter p = List.replicate (l.filter p).length x := fun l => List.eq_replicate_of_mem (fun s hs => h s (List.mem_filter.1 hs).2)
  rw [h1 a, h1 b, (hp.filter p).length_eq]
/-- the sorted ones ahead of a kind and its miles -/
def srt (L : List Spr) (q m : Int) : List Spr := (sortZ L).filter (stq q m)
theorem srt_step (L : List Spr) (q m : Int) : srt L q m ++ L.filter (eqq q m) = srt L q (m - 1) := by
  unfold srt
  rw [filter_same (p := eqq q m) (x := ⟨m, q⟩) (fun s hs => Spr.ext_ (eqq_true.1 hs).2 (eqq_true.1 hs).1) (sortZ_perm L).symm]
  refine split_sorted ?_ ?_ ?_ _ (sortZ_pw L)
  · intro a b h1 h2
    rw [leS_true] at h1
    rw [stq_true] at *
    omega
  · intro a h1
    rw [stq_true] at h1
    apply Bool.eq_false_iff.2
    rw [Ne, eqq_true]
    omega
  · intro a
    apply Bool.eq_iff_iff.2
    rw [Bool.or_eq_true, stq_true, stq_true, eqq_true]
    omega
theorem srt_next {L : List Spr} (h : sprB 10 L = true) (q : Int) : srt L q 0 = srt L (q + 1) 50 := by
  unfold srt
  apply List.filter_congr
  intro s hs
  have h1 := sprOk_true.1 ((sprB_true.1 h).2 s ((sortZ_perm L).mem_iff.1 hs))
  apply Bool.eq_iff_iff.2
  rw [stq_true, stq_true]
  omega
theorem srt_first {L : List Spr} (h : sprB 10 L = true) : srt L 0 50 = [] := by
  unfold srt
  rw [List.filter_eq_nil_iff]
  intro s hs
  have h1 := sprOk_true.1 ((sprB_true.1 h).2 s ((sortZ_perm L).mem_iff.1 hs))
  rw [stq_true]
  omega
theorem srt_last {L : List Spr} (h : sprB 10 L = true) : srt L 4 50 = sortZ L := by
  unfold srt
  rw [List.filter_eq_self]
  intro s hs
  have h1 := sprOk_true.1 ((sprB_true.1 h).2 s ((sortZ_perm L).mem_iff.1 hs))
  rw [stq_true]
  omega
theorem srt_length (L : List Spr) (q m : Int) : (srt L q m).length ≤ L.length := by
  unfold srt
  have := List.length_filter_le (stq q m) (sortZ L)
  rw [sortZ_length] at this
  exact this
/-- ahead of the i-th one -/
def srtI (L : List Spr) (q m : Int) (i : Nat) : List Spr := srt L q m ++ (L.take i).filter (eqq q m)
theorem srtI_zero (L : List Spr) (q m : Int) : srtI L q m 0 = srt L q m := by simp [srtI]
theorem srtI_all (L : List Spr) (q m : Int) : srtI L q m L.length = srt L q (m - 1) := by unfold srtI; rw [List.take_length, srt_step]
theorem srtI_yes {L : List Spr} {q m : Int} {i : Nat} (h : i < L.length) (h1 : (sprAt L i).k = q) (h2 : (sprAt L i).m = m) : srtI L q m (i + 1) = srtI L q m i ++ [sprAt L i] := by
  unfold srtI
  rw [sprAt_lt h] at *
  rw [List.take_succ_eq_append_getElem h, List.filter_append, List.filter_cons_of_pos (eqq_true.2 ⟨h1, h2⟩), List.filter_nil, List.append_assoc]
theorem srtI_no {L : List Spr} {q m : Int} {i : Nat} (h : i < L.length) (h1 : ¬ ((sprAt L i).k = q ∧ (sprAt L i).m = m)) : srtI L q m (i + 1) = srtI L q m i := by
  unfold srtI
  rw [sprAt_lt h] at h1
  rw [List.take_succ_eq_append_getElem h, List.filter_append, List.filter_cons_of_neg (by rw [eqq_true]; exact h1), List.filter_nil, List.append_nil]
theorem srtI_length (L : List Spr) (q m : Int) (i : Nat) : (srtI L q m i).length ≤ 2 * L.length := by
  unfold srtI
  have h1 := srt_length L q m
  have h2 := List.length_filter_le (eqq q m) (L.take i)
  have h3 : (L.take i).length ≤ L.length := by rw [List.length_take]; omega
  rw [List.length_append]; omega

def sortR (L : List Spr) : List Spr := if sprB 10 L then sortZ L else []
theorem sortR_no {L : List Spr} (h : sprB 10 L = false) : sortR L = [] := by unfold sortR; rw [h]; rfl
theorem sortR_yes {L : List Spr} (h : sprB 10 L = true) : sortR L = sortZ L := by unfold sortR; rw [h]; rfl

/-- an own slice of spares and what else stands -/
def OnZ (w wr : World) (sv : Value) (xs : List Spr) : Prop := wr.ownsRow w.heap.size 30 2 sv xs.length (sprCells xs) ∧ Below w.heap.size w wr
theorem OnZ.go {w w1 w2 : World} {sv : Value} {xs : List Spr} (h : OnZ w w1 sv xs) (hb : Below w1.heap.size w1 w2) : OnZ w w2 sv xs := by
  have h1 : OwZ 30 w.heap.size w1.heap.size w1 sv xs := OwZ.of_own h.1
  exact ⟨(h1.go hb (Nat.le_refl _)).own, below_step h.2 hb⟩
theorem OnZ.grown {w wr w3 : World} {sv v' : Value} {xs ys : List Spr} {o : Obj} (h : OnZ w wr sv xs) (h1 : w3.ownsRow w.heap.size 30 2 v' ys.length (sprCells ys)) (h2 : (wr.alloc o).grownBy w3 sv.ownBlock) : OnZ w w3 v' ys :=
  ⟨h1, (h.2.alloc h.2.size o).grown h2 (by simp; have := h.2.size; omega) (fun k e => (h.1.lt k e).1)⟩

set_option maxRecDepth 100000 in
set_option maxHeartbeats 2000000 in
theorem specSparesSort_b (A : Option Addr) (c : Nat) (L : List Spr) (w : World) (ha : ArgZ w A c L) :
    Calls Try.prog 36 #[.slice A L.length c] w (RetZ 30 (fun v => .tuple #[v, .bool (sprB 10 L)]) (sortR L) w) := by
  obtain ⟨i0, hi, hz0, hz1, hz2⟩ := info_parts sprInfo
  have hlen := ha.len
  have HA := Lib.hid ha
  clear ha
  go_enter Try.func36, Try.ntmps36
  go_wp2
  go_loopw [4, 5] (fun ov kv wr => ∃ (q : Nat) (sv : Value) (xs : List Spr), q ≤ 4 ∧ kv = .int .i64 q ∧ ov = sv ∧ (q = 0 → xs = []) ∧ (0 < q → sprB 10 L = true) ∧ (sprB 10 L = true → xs = srt L q 50) ∧ OnZ w wr sv xs) (fun _ kv _ => 4 - (intOf kv).toNat)
  case atStart => exact ⟨0, _, [], by omega, rfl, rfl, fun _ => rfl, fun h => absurd h (by omega), fun h => (srt_first h).symm, ownZ_none w _, belowZ_none w _⟩
  case round =>
    obtain ⟨q, sv, xs, hq, rfl, rfl, hx0, hq0, hx, ho⟩ := hrel
    have Ho := Lib.hid ho
    have Hx0 := Lib.hid hx0
    have Hq0 := Lib.hid hq0
    have Hx := Lib.hid hx
    clear ho hx0 hq0 hx
    by_cases hq3 : q ≤ 3
    · go_wp2_with fail
      refine (specSparesValid_b A c L _ (HA.out.go Ho.out.2)).mono ?_
      rintro e w1 ⟨rfl, hb1⟩
      have Ho1 := Lib.hid (Ho.out.go hb1)
      clear hb1
      cases hv : sprB 10 L
      · have Hv := Lib.hid hv
        have hq00 : q = 0 := by
          rcases Nat.eq_zero_or_pos q with h | h
          · exact h
          · have := Hq0.out h; rw [hv] at this; cases this
        have Hxs := Lib.hid (Hx0.out hq00)
        clear hv
        go_wp2_with fail
        refine (specSparesValid_b A c L _ (HA.out.go Ho1.out.2)).mono ?_
        rintro e w2 ⟨rfl, hb2⟩
        have Ho2 := Lib.hid (Ho1.out.go hb2)
        clear hb2
        go_wp2
        go_ret2
        rw [sortR_no Hv.out, Hv.out]
        have h2 := Ho2.out
        rw [Hxs.out] at h2
        exact RetZ.mk (f := fun v => .tuple #[v, .bool false]) (by simp) h2.1 h2.2
      have Hv := Lib.hid hv
      have hl10 := (sprB_true.1 hv).1
      have Hxq := Lib.hid (Hx.out hv)
      clear hv
      go_wp2
      go_loopw [4, 6] (fun ov mv wr => ∃ (m : Nat) (sv : Value) (xs : List Spr), m ≤ 50 ∧ mv = .int .i64 m ∧ ov = sv ∧ xs = srt L q m ∧ OnZ w wr sv xs) (fun _ mv _ => (intOf mv).toNat)
      case atStart => exact ⟨50, _, xs, by omega, rfl, rfl, Hxq.out, Ho1.out⟩
      case round =>
        obtain ⟨m, sv2, xs2, hm, rfl, rfl, hx2, ho2⟩ := hrel
        have Hx2 := Lib.hid hx2
        have Ho2 := Lib.hid ho2
        clear hx2 ho2
        by_cases hm0 : 0 < m
        · have g0 : (0 : Int) < (m : Int) := by omega
          go_wp2
          go_loopw [4, 7] (fun ov iv wr => ∃ (i : Nat) (sv : Value) (xs : List Spr), i ≤ L.length ∧ iv = .int .i64 i ∧ ov = sv ∧ xs = srtI L q m i ∧ OnZ w wr sv xs) (fun _ iv _ => L.length - (intOf iv).toNat)
          case atStart => exact ⟨0, _, xs2, by omega, rfl, rfl, by rw [Hx2.out, srtI_zero], Ho2.out⟩
          case round =>
            obtain ⟨i, sv3, xs3, hi3, rfl, rfl, hx3, ho3⟩ := hrel
            have hxl : xs3.length ≤ 20 := by
              have := srtI_length L q m i
              rw [← hx3] at this
              omega
            have Hx3 := Lib.hid hx3
            have Ho3 := Lib.hid ho3
            have hwsz := ho3.2.size
            clear hx3 ho3
            by_cases hlt : i < L.length
            · have g1 : (i : Int) < (L.length : Int) := by omega
              obtain ⟨b, off, rfl, _, hbw, hc0, hc1⟩ := (HA.out.go Ho3.out.2).rd.at_ hlt
              have Hy := Lib.hid (fun h1 h2 => srtI_yes (L := L) (q := q) (m := m) hlt h1 h2)
              have Hn := Lib.hid (fun h1 => srtI_no (L := L) (q := q) (m := m) hlt h1)
              obtain ⟨s, hs⟩ : ∃ s, sprAt L i = s := ⟨_, rfl⟩
              rw [hs] at hc0 hc1 Hy Hn
              clear hs
              by_cases h1 : s.k = (q : Int)
              · by_cases h2 : s.m = (m : Int)
                · have Hxy := Lib.hid (show xs3 ++ [s] = srtI L q m (i + 1) by rw [Hx3.out, Hy.out h1 h2])
                  obtain rfl : s = ⟨(m : Int), (q : Int)⟩ := Spr.ext_ h2 h1
                  clear h1 h2
                  go_wp2_with (at_builtin; refine wpList_append_sprs rfl (.tmp 43) (.tmp 48) 23 rfl w.heap.size 30 i0 (.agg #[.int .i64 0, .int .i64 0]) Try.underlying23 hi hz0 hz1 hz2 rfl _ xs3 rfl (Ho3.out.1.alloc _) (some ⟨_, 0, none⟩) 1 [⟨(m : Int), (q : Int)⟩] rfl (argZ_one _ ⟨(m : Int), (q : Int)⟩ _) (by simp; omega) (by simp; omega) ?_; intro v' w3 hown3 hg3; have H3 := Lib.hid (Ho3.out.grown hown3 hg3); clear hown3 hg3)
                  go_roundw
                  case rel => exact ⟨i + 1, _, _, by omega, by go_num, rfl, Hxy.out, H3.out⟩
                  case measure => simp [intOf]; omega
                · have Hxn := Lib.hid (Hn.out (fun h => h2 h.2))
                  go_wp2
                  go_roundw
                  case rel => exact ⟨i + 1, _, xs3, by omega, by go_num, rfl, by rw [Hxn.out]; exact Hx3.out, Ho3.out⟩
                  case measure => simp [intOf]; omega
              · have Hxn := Lib.hid (Hn.out (fun h => h1 h.1))
                go_wp2
                go_roundw
                case rel => exact ⟨i + 1, _, xs3, by omega, by go_num, rfl, by rw [Hxn.out]; exact Hx3.out, Ho3.out⟩
                case measure => simp [intOf]; omega
            · obtain rfl : i = L.length := by omega
              have Hxe := Lib.hid (show xs3 = srt L q ((m - 1 : Nat) : Int) by rw [Hx3.out, srtI_all]; congr 1; omega)
              go_wp2
              go_roundw
              case rel => exact ⟨m - 1, _, xs3, by omega, by first | go_num | (congr 1; omega), rfl, Hxe.out, Ho3.out⟩
              case measure => simp [intOf]; omega
        · obtain rfl : m = 0 := by omega
          have Hxe := Lib.hid (show xs2 = srt L ((q + 1 : Nat) : Int) 50 by rw [Hx2.out]; exact srt_next Hv.out q)
          go_wp2
          go_roundw
          case rel => exact ⟨q + 1, _, xs2, by omega, by go_num, rfl, fun h => absurd h (by omega), fun _ => Hv.out, fun _ => Hxe.out, Ho2.out⟩
          case measure => simp [intOf]; omega
    · obtain rfl : q = 4 := by omega
      have hv := Hq0.out (by omega)
      have Hv := Lib.hid hv
      have hl10 := (sprB_true.1 hv).1
      have Hxe := Lib.hid (show xs = sortZ L by rw [Hx.out hv]; exact srt_last hv)
      clear hv
      go_wp2_with fail
      refine (specSparesValid_b A c L _ (HA.out.go Ho.out.2)).mono ?_
      rintro e w1 ⟨rfl, hb1⟩
      have Ho1 := Lib.hid (Ho.out.go hb1)
      clear hb1
      go_wp2
      go_ret2
      rw [sortR_yes Hv.out, Hv.out]
      have h2 := Ho1.out
      rw [Hxe.out] at h2
      exact RetZ.mk (f := fun v => .tuple #[v, .bool true]) (by rw [sortZ_length]; omega) h2.1 h2.2

end Go.Proofs.Ytmbdggakahbciaa
