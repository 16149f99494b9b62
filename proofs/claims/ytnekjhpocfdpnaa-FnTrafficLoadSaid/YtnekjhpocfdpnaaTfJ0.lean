/-
  offer of the program; a number's digits, binary of the program.
-/
import Derived.Test.YtnekjhpocfdpnaaChpK
import Derived.Test.YtnekjhpocfdpnaaPlA
import Derived.Test.YtnekjhpocfdpnaaTfLc
namespace Go.Proofs.Ytnekjhpocfdpnaa
open Go.RowKit

set_option maxRecDepth 100000 in
set_option maxHeartbeats 1000000 in
theorem offerP_c (c : List Int → Int) (lo s rb : Nat) (d : List (List Int)) (r : List Int) (W : World) (h : BestAt c lo s rb d W) (hrow : PlAt W rb r) (hs : s < rb) (hlo : lo ≤ rb) (hl : r.length ≤ 10) :
    Calls Try.prog 39 #[.pointer (some ⟨s, 0, none⟩), .slice (some ⟨rb, 0, none⟩) r.length r.length, .int .i64 (c r)] W
      fun e W' => (∃ v, e = .returned v) ∧ BestAt c lo s rb (d ++ [r]) W' ∧ PlAt W' rb r ∧ KeepBut (fun x => x = s) W W' := by
  obtain ⟨sv, cost, fd, hch, hkb⟩ := h
  have c1 := hch.c1
  have c2 := hch.c2
  have Hch := Lib.hid hch
  have Hkb := Lib.hid hkb
  have Hrow := Lib.hid hrow
  clear hch hkb hrow
  have key : (fd = true ∧ ¬ c r < cost) ∨ (fd = false ∨ (fd = true ∧ c r < cost)) := by
    cases fd
    · exact .inr (.inl rfl)
    · by_cases hc : c r < cost
      · exact .inr (.inr ⟨rfl, hc⟩)
      · exact .inl ⟨rfl, hc⟩
  obtain ⟨cr, hcr⟩ : ∃ cr, c r = cr := ⟨_, rfl⟩
  rw [hcr] at key ⊢
  have Hcr := Lib.hid hcr
  clear hcr
  rcases key with ⟨rfl, hc⟩ | key
  · go_enter Try.func39, Try.ntmps39
    go_wp2
    go_end0
    exact ⟨⟨_, rfl⟩, ⟨sv, cost, true, Hch.out, Hkb.out.stay rfl (by rw [Hcr.out]; omega)⟩, Hrow.out, KeepBut.refl _ _⟩
  · have Harg := Lib.hid (Hrow.out.arg (by omega))
    have Hrlt := Lib.hid Hrow.out.lt
    rcases key with rfl | ⟨rfl, hc⟩
    all_goals
      go_enter Try.func39, Try.ntmps39
      go_wp2_with fail
      refine (cloneI_c rb 0 r.length r W Harg.out).mono ?_
      rintro e w1 ⟨A1, d1, rfl, ra1, ro1, rb1⟩
      dsimp only [id]
      have hch1 := Hch.out.keep (KeepBut.of_below (p := fun _ => False) rb1) (by simp)
      have e0 := hch1.c0
      have e1 := hch1.c1
      have e2 := hch1.c2
      have f0 := hch1.frozen 0
      have f1 := hch1.frozen 1
      have f2 := hch1.frozen 2
      have Hch1 := Lib.hid hch1
      have Hro1 := Lib.hid ro1
      have Hrb1 := Lib.hid rb1
      clear hch1 ro1 rb1 ra1
      go_wp2
      refine bodyPost_end (results_none rfl _ _ _) rfl ?_
      obtain ⟨hc3, hk3⟩ := Hch1.out.set (.slice A1 r.length d1) cr true
      have hk13 := (KeepBut.of_below (p := fun x => x = s) Hrb1.out).trans hk3
      have hrng := Hro1.out.range
      have hlt := Hch.out.lt
      have hrl := Hrlt.out
      have hg : ∀ g, (Value.slice A1 r.length d1).ownBlock = some g → g ≠ s ∧ g ≠ rb := fun g e => by
        have h1 := hrng g e
        exact ⟨by omega, by omega⟩
      have ho3 := (Hro1.out.more (lo' := lo) (hi' := w1.heap.size) (by omega) (Nat.le_refl _)).but hk3 (Nat.le_refl _) (fun g e => (hg g e).1)
      have hnew := Hkb.out.new (by first | exact Or.inl rfl | exact Or.inr (by rw [Hcr.out]; exact hc)) hl ho3 hg
      rw [Hcr.out] at hnew
      exact ⟨⟨_, rfl⟩, ⟨_, _, _, hc3, hnew⟩, Hrow.out.keep hk13 (by omega), hk13⟩

/-- another block is told next -/
theorem BestAt.next {c : List Int → Int} {lo s rb rb' : Nat} {d : List (List Int)} {W : World} (h : BestAt c lo s rb d W) (hr : W.heap.size ≤ rb') : BestAt c lo s rb' d W := by
  obtain ⟨sv, cost, fd, h1, h2⟩ := h
  refine ⟨sv, cost, fd, h1, ?_⟩
  unfold KeptB at *
  cases hb : bst c d with
  | none => rw [hb] at h2; exact h2
  | some x =>
    rw [hb] at h2
    obtain ⟨h3, h4, h5, h6, h7⟩ := h2
    exact ⟨h3, h4, h5, h6, fun g e => ⟨(h7 g e).1, by have := h6.range g e; omega⟩⟩

/-- the first k digits laid -/
def dgTo (m num k : Nat) : List Int := (digs m num).take k ++ List.replicate (m - k) 0
theorem dgTo_len {m num k : Nat} (h : k ≤ m) : (dgTo m num k).length = m := by simp [dgTo, digs_len]; omega
theorem dgTo_zero (m num : Nat) : dgTo m num 0 = List.replicate m 0 := by simp [dgTo]
theorem dgTo_all (m num : Nat) : dgTo m num m = digs m num := by
  unfold dgTo
  rw [List.take_of_length_le (by rw [digs_len]; exact Nat.le_refl _), Nat.sub_self, List.replicate_zero, List.append_nil]
theorem dgTo_succ {m num k : Nat} (h : k < m) : dgTo m num (k + 1) = (dgTo m num k).set k ((num / 2 ^ k % 2 : Nat) : Int) := by
  have hl : ((digs m num).take k).length = k := by rw [List.length_take, digs_len]; omega
  unfold dgTo
  rw [digs_take h, List.set_append_right _ _ (by omega), hl, Nat.sub_self, show m - k = (m - (k + 1)) + 1 by omega, List.replicate_succ, List.set_cons_zero, List.append_assoc]
  rfl
set_option maxRecDepth 100000 in
theorem dg_bit : ∀ num : Fin 64, ∀ k : Fin 6, bits BinOp.and IntKind.i64 ((num.val : Int) / 2 ^ k.val) 1 = ((num.val / 2 ^ k.val % 2 : Nat) : Int) := by decide +kernel
theorem bnInfo : (Try.prog.info? 3).map (fun i => (i.zero, i.size, i.bytes)) = some (some (.int .i64 0), 1, 8) := by kernel_rfl
set_option maxRecDepth 100000 in
set_option maxHeartbeats 4000000 in
theorem binary_c (num n : Nat) (hn : n ≤ 6) (hx : num < 64) (w : World) :
    Calls Try.prog 38 #[.int .i64 num, .int .i64 n] w fun e w' => ∃ b : Nat, e = .returned (.slice (some ⟨b, 0, none⟩) n n) ∧ w.heap.size ≤ b ∧ PlAt w' b (digs n num) ∧ Below w.heap.size w w' := by
  obtain ⟨i0, hi, hz0, hz1, hz2⟩ := info_parts bnInfo
  have HMI := Lib.hid (made_ints n)
  go_enter Try.func38, Try.ntmps38
  go_wp2_with (at_make; refine wpList_make_full _ rfl (.tmp 7) (.tmp 7) 24 rfl w.heap.size 3 i0 (.int .i64 0) 1 Try.underlying24 hi hz0 hz1 .i64 .i64 _ _ n rfl rfl rfl rfl (by rw [hz2]; omega) (by unfold maxLen; omega) (Nat.le_refl _) ?_; intro w1 hown hg1)
  rw [HMI.out, ← dgTo_zero n num] at hown
  have hb1 : Below w.heap.size w w1 := (Below.refl _ _).grown hg1 (Nat.le_refl _) (by simp)
  obtain ⟨B, hB⟩ : ∃ B, B = w.heap.size := ⟨_, rfl⟩
  rw [← hB] at hown hb1 ⊢
  have hhB : w.heap.size ≤ B := by omega
  have HB := Lib.hid hB
  have HO := Lib.hid hown
  have Hb1 := Lib.hid hb1
  clear hB hg1 hown hb1
  go_wp2
  go_loopw [11] (fun i wr => ∃ k : Nat, k ≤ n ∧ i = .int .i64 k ∧ wr.ownsRow B 3 1 (.slice (some ⟨B, 0, none⟩) n n) n ((dgTo n num k).map (Value.int .i64)) ∧ Below B w wr) (fun i _ => n - (intOf i).toNat)
  case atStart => exact ⟨0, Nat.zero_le _, rfl, HO.out, Hb1.out⟩
  case round =>
    obtain ⟨k, hk, rfl, hok, hbk⟩ := hrel
    by_cases hlt : k < n
    · obtain ⟨dv, hdv⟩ : ∃ dv : Nat, num / 2 ^ k % 2 = dv := ⟨_, rfl⟩
      have hst := hok.stored k (.int .i64 (dv : Int))
      rw [← hdv, ← List.map_set, ← dgTo_succ hlt, hdv] at hst
      have hck := hok.cellAt k (by omega)
      have hfk := hok.frozenAt k
      obtain ⟨u, hu⟩ : ∃ u, (dgTo n num k)[k]? = some u := ⟨(dgTo n num k)[k]'(by rw [dgTo_len hk]; exact hlt), List.getElem?_eq_getElem _⟩
      rw [List.getElem?_map, hu] at hck
      simp only [Option.map_some] at hck
      have Hst := Lib.hid hst
      have Hbk := Lib.hid hbk
      have g1 : (k : Int) < (n : Int) := by omega
      have hbit := dg_bit ⟨num, hx⟩ ⟨k, by omega⟩
      dsimp only at hbit
      rw [hdv] at hbit
      clear hst hok hu hbk hdv
      go_wp2
      go_roundw
      case rel => exact ⟨k + 1, by omega, by go_num, Hst.out.1, Hbk.out.setCell (p := ⟨B, k, none⟩) (Nat.le_refl _) _⟩
      case measure => simp [intOf]; omega
    · obtain rfl : k = n := by omega
      rw [dgTo_all] at hok
      have HK := Lib.hid hok
      have Hbk := Lib.hid hbk
      clear hok hbk
      go_wp2
      go_ret
      have h9 := PlAt.of_own HK.out
      exact ⟨B, rfl, hhB, h9.1, by rw [← HB.out]; exact Hbk.out⟩
end Go.Proofs.Ytnekjhpocfdpnaa
