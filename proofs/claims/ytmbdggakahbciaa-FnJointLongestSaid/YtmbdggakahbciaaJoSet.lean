/-
  l4Set, l4Joint, l4Ahead of the model.
-/
import Derived.Test.YtmbdggakahbciaaJoM
import Derived.Test.YtmbdggakahbciaaAppI
import Derived.BigQuiet
namespace Go.Proofs.Ytmbdggakahbciaa
open Go.RowKit

/-- an own slice of ints and what else stands -/
def OnI (w wr : World) (sv : Value) (xs : List Int) : Prop := wr.ownsRow w.heap.size 3 1 sv xs.length (xs.map (Value.int .i64)) ∧ Below w.heap.size w wr
theorem OnI.go {w w1 w2 : World} {sv : Value} {xs : List Int} (h : OnI w w1 sv xs) (hb : Below w1.heap.size w1 w2) : OnI w w2 sv xs := ⟨own_below h.1 hb, below_step h.2 hb⟩
theorem OnI.grown {w wr w3 : World} {sv v' : Value} {xs ys : List Int} {o : Obj} (h : OnI w wr sv xs) (h1 : w3.ownsRow w.heap.size 3 1 v' ys.length (ys.map (Value.int .i64))) (h2 : (wr.alloc o).grownBy w3 sv.ownBlock) : OnI w w3 v' ys :=
  ⟨h1, (h.2.alloc h.2.size o).grown h2 (by simp; have := h.2.size; omega) (fun k e => (h.1.lt k e).1)⟩
theorem OnI.base {w0 w w1 : World} {sv : Value} {xs : List Int} (h : OnI w w1 sv xs) (hb : Below w0.heap.size w0 w) : OnI w0 w1 sv xs := ⟨OwnsRow.more h.1 hb.size, below_step hb h.2⟩

set_option maxRecDepth 100000 in
set_option maxHeartbeats 2000000 in
theorem l4Set_c (n s : Nat) (w : World) (hn : n ≤ 10) (hs : s ≤ 2000) :
    Calls Try.prog 73 #[.int .i64 n, .int .i64 s] w (RetS 3 id (bits s n) w) := by
  obtain ⟨i0, hi, hz0, hz1, hz2⟩ := info_parts intInf
  go_enter Try.func73, Try.ntmps73
  go_wp2
  go_loopw [1, 5, 6] (fun tv ov iv wr => ∃ (i : Nat) (sv : Value) (xs : List Int), i ≤ n ∧ iv = .int .i64 i ∧ tv = .int .i64 ((s / 2 ^ i : Nat) : Int) ∧ ov = sv ∧ xs = bits s i ∧ OnI w wr sv xs) (fun _ _ iv _ => n - (intOf iv).toNat)
  case atStart => exact ⟨0, _, [], Nat.zero_le _, rfl, by simp, rfl, rfl, own_none w _, below_none w _⟩
  case round =>
    obtain ⟨i, sv, xs, hin, rfl, rfl, rfl, hx, ho⟩ := hrel
    have hxl : xs.length ≤ 10 := by have := bits_length s i; rw [← hx] at this; omega
    have Hx := Lib.hid hx
    have Ho := Lib.hid ho
    have hwsz := ho.2.size
    have hdiv := Nat.div_le_self s (2 ^ i)
    have Hy := Lib.hid (bits_yes (s := s) (i := i))
    have Hn := Lib.hid (bits_no (s := s) (i := i))
    have Hs2 := Lib.hid (show s / 2 ^ i / 2 = s / 2 ^ (i + 1) by rw [Nat.div_div_eq_div_mul, Nat.pow_succ])
    obtain ⟨x, hxx⟩ : ∃ x, s / 2 ^ i = x := ⟨_, rfl⟩
    rw [hxx] at hdiv Hy Hn Hs2 ⊢
    clear hx ho hxx
    have t1 : ((x : Nat) : Int).tmod 2 = ((x % 2 : Nat) : Int) := by rw [Int.tmod_eq_emod_of_nonneg (by omega)]; omega
    have t0 : ((x : Nat) : Int).tdiv 2 = ((x / 2 : Nat) : Int) := by rw [Int.tdiv_eq_ediv_of_nonneg (by omega)]; omega
    have q0 : IntKind.i64.wrap ((x / 2 : Nat) : Int) = ((x / 2 : Nat) : Int) := IntWalk.i64_in _ (by omega)
    by_cases hlt : i < n
    · have g1 : (i : Int) < (n : Int) := by omega
      by_cases hb : x % 2 = 1
      · have hbb : (((x % 2 : Nat) : Int) == 1) = true := by rw [hb]; rfl
        have Hxy := Lib.hid (show xs ++ [(i : Int)] = bits s (i + 1) by rw [Hx.out, Hy.out hb])
        clear hb
        go_wp2_with (at_builtin; refine wpList_append_ints rfl (.tmp 16) (.tmp 18) 36 rfl w.heap.size 3 i0 (.int .i64 0) Try.underlying36 hi hz0 hz1 hz2 rfl _ xs rfl (Ho.out.1.alloc _) (some ⟨_, 0, none⟩) 1 [(i : Int)] rfl (arg_one _ (i : Int) _) (by simp; omega) (by simp; omega) ?_; intro v' w3 hown3 hg3; have H3 := Lib.hid (Ho.out.grown hown3 hg3); clear hown3 hg3)
        go_roundw
        case rel => exact ⟨i + 1, _, _, by omega, by go_num, (by rw [← Hs2.out]; congr 1), rfl, Hxy.out, H3.out⟩
        case measure => simp [intOf]; omega
      · have hbb : (((x % 2 : Nat) : Int) == 1) = false := beq_false_of_ne (by omega)
        have Hxy := Lib.hid (show xs = bits s (i + 1) by rw [Hx.out, Hn.out hb])
        clear hb
        go_wp2
        go_roundw
        case rel => exact ⟨i + 1, _, xs, by omega, by go_num, (by rw [← Hs2.out]; congr 1), rfl, Hxy.out, Ho.out⟩
        case measure => simp [intOf]; omega
    · obtain rfl : i = n := by omega
      go_wp2
      go_ret
      rw [← Hx.out]
      exact RetS.mk (f := id) (by omega) Ho.out.1 Ho.out.2

theorem jv_step {L : List Spr} {x : List Int} {k : Nat} (h : k < x.length) : sumZ L (x.take (k + 1)) = sumZ L (x.take k) + (sprAt L (x[k]).toNat).m := by
  rw [List.take_succ_eq_append_getElem h, sumZ_snoc]
set_option maxRecDepth 100000 in
set_option maxHeartbeats 2000000 in
theorem l4Joint_c (L : List Spr) (kind : Int) (hL : sprB 10 L = true) (A0 : Option Addr) (c0 : Nat) (A1 : Option Addr) (c1 : Nat) (x : List Int) (w : World) (h0 : ArgZ w A0 c0 L) (h1 : Arg w A1 c1 x) (hx : ascP L.length x) (hl : x.length ≤ 10) :
    Calls Try.prog 74 #[.slice A0 L.length c0, .slice A1 x.length c1, .int .i64 kind] w fun e w' => e = .returned (.int .i64 (jval L kind x)) ∧ w = w' := by
  have hn10 := (sprB_true.1 hL).1
  have HL := Lib.hid hL
  have H0 := Lib.hid h0
  have H1 := Lib.hid h1
  have Hx := Lib.hid hx
  clear hL h0 h1 hx
  go_enter Try.func74, Try.ntmps74
  go_wp2
  go_loopw [7, 8] (fun sv iv wr => ∃ k : Nat, k ≤ x.length ∧ iv = .int .i64 k ∧ sv = .int .i64 (sumZ L (x.take k)) ∧ (∀ j (hj : j < k) (hj2 : j < x.length), ofKind kind (sprAt L (x[j]).toNat) = true) ∧ w = wr) (fun _ iv _ => x.length - (intOf iv).toNat)
  case atStart => exact ⟨0, Nat.zero_le _, rfl, rfl, fun j hj => absurd hj (by omega), rfl⟩
  case round =>
    obtain ⟨k, hk, rfl, rfl, hall, rfl⟩ := hrel
    have Hall := Lib.hid hall
    clear hall
    have hsb := sumZ_bd HL.out (x.take k) (fun i hi => Hx.out.2 i (List.mem_of_mem_take hi))
    have hsl : (x.take k).length ≤ 10 := by rw [List.length_take]; omega
    by_cases hlt : k < x.length
    · obtain ⟨b1, o1, rfl, _, _, hc1⟩ := H1.out.rd.at_ hlt
      have hxk := Hx.out.2 x[k] (List.getElem_mem hlt)
      have hst := jv_step (L := L) (x := x) hlt
      have Hk1 := Lib.hid (fun h9 => Hall.out k h9)
      rw [List.getElem?_eq_getElem hlt] at hc1
      have Hyes := Lib.hid (show ofKind kind (sprAt L (x[k]).toNat) = true → ∀ j (hj : j < k + 1) (hj2 : j < x.length), ofKind kind (sprAt L (x[j]).toNat) = true from fun h j hj hj2 => by
        by_cases e : j = k
        · subst e; exact h
        · exact Hall.out j (by omega) hj2)
      have Hno := Lib.hid (show ofKind kind (sprAt L (x[k]).toNat) = false → jval L kind x = -1 from fun h => jval_no (fun h2 => by have := h2 _ (List.getElem_mem hlt); rw [h] at this; cases this))
      obtain ⟨y, hy⟩ : ∃ y, x[k] = y := ⟨_, rfl⟩
      rw [hy] at hxk hst Hyes Hno
      replace hc1 : w.cell? ⟨b1, o1 + k, none⟩ = some (.int .i64 y) := by rw [← hy]; exact hc1
      obtain ⟨m, rfl⟩ : ∃ m : Nat, y = (m : Int) := ⟨y.toNat, by omega⟩
      have hm : m < L.length := by omega
      rw [Int.toNat_natCast] at hst Hyes Hno
      obtain ⟨b0, o0, rfl, _, _, he0, he1⟩ := H0.out.rd.at_ hm
      have hbd := (sprB_at HL.out hm).1
      obtain ⟨s, hs⟩ : ∃ s, sprAt L m = s := ⟨_, rfl⟩
      rw [hs] at he0 he1 hbd hst Hyes Hno
      have g1 : (k : Int) < (x.length : Int) := by omega
      have g2 : (m : Int) < (L.length : Int) := by omega
      obtain ⟨q, hq⟩ : ∃ q, sumZ L (x.take k) = q := ⟨_, rfl⟩
      rw [hq] at hsb hst ⊢
      have Hst := Lib.hid hst
      clear hy hs hq hst
      by_cases hkd : s.k = kind
      · have Hy2 := Lib.hid (Hyes.out (by simp [ofKind, hkd]))
        have hkb : (s.k != kind) = false := by simp [hkd]
        clear hkd
        go_wp2
        go_roundw
        case rel => exact ⟨k + 1, by omega, by go_num, by rw [Hst.out], Hy2.out, trivial⟩
        case measure => simp [intOf]; omega
      · have Hn2 := Lib.hid (Hno.out (by simp [ofKind, hkd]))
        have hkb : (s.k != kind) = true := by simp [hkd]
        clear hkd
        go_wp2
        go_ret
        exact ⟨by rw [Hn2.out]; rfl, rfl⟩
    · obtain rfl : k = x.length := by omega
      have Hv := Lib.hid (show jval L kind x = sumZ L (x.take x.length) by
        rw [List.take_length]
        exact jval_yes (fun i hi => by obtain ⟨j, hj, rfl⟩ := List.mem_iff_getElem.1 hi; exact Hall.out j hj hj))
      go_wp2
      go_ret
      exact ⟨by rw [Hv.out]; rfl, rfl⟩

end Go.Proofs.Ytmbdggakahbciaa
