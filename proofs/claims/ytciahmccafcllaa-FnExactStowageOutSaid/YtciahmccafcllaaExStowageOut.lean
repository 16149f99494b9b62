/-
  The exact law of StowageOut: for all arguments the law answers true. No condition.
  (Written by a program of mine, gen.py.)
-/
import Derived.Test.YtciahmccafcllaaBase
import Derived.Test.YtciahmccafcllaaOutS
import Derived.Test.YtciahmccafcllaaRow
import Derived.Test.YtciahmccafcllaaFac
namespace Go.Proofs.Ytciahmccafcllaa
open Go.ChangeShapes Go.WideShapes Go.ChangeAt Go.RowKit

set_option maxHeartbeats 1000000 in
theorem exStowageOut_in (A0 : Option Addr) (c0 : Nat) (z0 : List Int) (A1 : Option Addr) (c1 : Nat) (z1 : List Int) (w : World) (ha0 : Arg w A0 c0 z0) (hl0 : z0.length ≤ 1048576) (ha1 : Arg w A1 c1 z1) (hl1 : z1.length ≤ 1048576) :
    Calls Try.prog 17 #[.slice A0 z0.length c0, .slice A1 z1.length c1] w (RetB (.bool true) w) := by
  have Ha0 := Lib.hid ha0.held
  clear ha0
  have Ha1 := Lib.hid ha1.held
  clear ha1
  have Bt := Lib.hid (Below.refl w.heap.size w)
  go_enter Try.func17, Try.ntmps17
  go_wp2_with fail
  refine (toIntS_c A0 c0 z0 _ Ha0.out.arg).mono ?_
  rintro e u1 ⟨B1, d1, rfl, ra1, ro1, rb1⟩
  dsimp only [id]
  have sz1 := rb1.size
  replace Ha0 := Lib.hid (Ha0.out.go rb1)
  replace Ha1 := Lib.hid (Ha1.out.go rb1)
  replace Bt := Lib.hid (below_step Bt.out rb1)
  have Hx1 := Lib.hid (ro1.held (Nat.le_refl _) ra1.len)
  have Ox1 := Lib.hid ro1
  clear ra1 ro1 rb1
  go_wp2_with fail
  refine (toIntS_c A1 c1 z1 _ Ha1.out.arg).mono ?_
  rintro e u2 ⟨B2, d2, rfl, ra2, ro2, rb2⟩
  dsimp only [id]
  have sz2 := rb2.size
  replace Ha0 := Lib.hid (Ha0.out.go rb2)
  replace Ha1 := Lib.hid (Ha1.out.go rb2)
  replace Hx1 := Lib.hid (Hx1.out.go rb2)
  replace Ox1 := Lib.hid (Ox1.out.go rb2 (by omega))
  replace Bt := Lib.hid (below_step Bt.out rb2)
  have Hx2 := Lib.hid (ro2.held (Nat.le_refl _) ra2.len)
  have Ox2 := Lib.hid ro2
  clear ra2 ro2 rb2
  go_wp2_with fail
  refine (specStowageOut_b B1 d1 z0 B2 d2 z1 _ Hx1.out.arg Hx2.out.arg).mono ?_
  rintro e u3 ⟨B3, d3, rfl, ra3, ro3, rb3⟩
  dsimp only
  have sz3 := rb3.size
  replace Ha0 := Lib.hid (Ha0.out.go rb3)
  replace Ha1 := Lib.hid (Ha1.out.go rb3)
  replace Hx1 := Lib.hid (Hx1.out.go rb3)
  replace Hx2 := Lib.hid (Hx2.out.go rb3)
  replace Ox1 := Lib.hid (Ox1.out.go rb3 (by omega))
  replace Ox2 := Lib.hid (Ox2.out.go rb3 (by omega))
  replace Bt := Lib.hid (below_step Bt.out rb3)
  have Hx3 := Lib.hid (ro3.held (Nat.le_refl _) ra3.len)
  have Ox3 := Lib.hid ro3
  clear ra3 ro3 rb3
  clear Hx1 Ox1
  clear Hx2 Ox2
  go_wp2_with fail
  refine (toIntS_c A0 c0 z0 _ Ha0.out.arg).mono ?_
  rintro e u4 ⟨B4, d4, rfl, ra4, ro4, rb4⟩
  dsimp only [id]
  have sz4 := rb4.size
  replace Ha0 := Lib.hid (Ha0.out.go rb4)
  replace Ha1 := Lib.hid (Ha1.out.go rb4)
  replace Hx3 := Lib.hid (Hx3.out.go rb4)
  replace Ox3 := Lib.hid (Ox3.out.go rb4 (by omega))
  replace Bt := Lib.hid (below_step Bt.out rb4)
  have Hx4 := Lib.hid (ro4.held (Nat.le_refl _) ra4.len)
  have Ox4 := Lib.hid ro4
  clear ra4 ro4 rb4
  go_wp2_with fail
  refine (toIntS_c A1 c1 z1 _ Ha1.out.arg).mono ?_
  rintro e u5 ⟨B5, d5, rfl, ra5, ro5, rb5⟩
  dsimp only [id]
  have sz5 := rb5.size
  replace Ha0 := Lib.hid (Ha0.out.go rb5)
  replace Ha1 := Lib.hid (Ha1.out.go rb5)
  replace Hx3 := Lib.hid (Hx3.out.go rb5)
  replace Hx4 := Lib.hid (Hx4.out.go rb5)
  replace Ox3 := Lib.hid (Ox3.out.go rb5 (by omega))
  replace Ox4 := Lib.hid (Ox4.out.go rb5 (by omega))
  replace Bt := Lib.hid (below_step Bt.out rb5)
  have Hx5 := Lib.hid (ro5.held (Nat.le_refl _) ra5.len)
  have Ox5 := Lib.hid ro5
  clear ra5 ro5 rb5
  go_wp2_with fail
  refine (implStowageOut_b B4 d4 z0 B5 d5 z1 _ Hx4.out.arg Hx5.out.arg).mono ?_
  rintro e u6 ⟨B6, d6, rfl, ra6, ro6, rb6⟩
  dsimp only
  have sz6 := rb6.size
  replace Ha0 := Lib.hid (Ha0.out.go rb6)
  replace Ha1 := Lib.hid (Ha1.out.go rb6)
  replace Hx3 := Lib.hid (Hx3.out.go rb6)
  replace Hx4 := Lib.hid (Hx4.out.go rb6)
  replace Hx5 := Lib.hid (Hx5.out.go rb6)
  replace Ox3 := Lib.hid (Ox3.out.go rb6 (by omega))
  replace Ox4 := Lib.hid (Ox4.out.go rb6 (by omega))
  replace Ox5 := Lib.hid (Ox5.out.go rb6 (by omega))
  replace Bt := Lib.hid (below_step Bt.out rb6)
  have Hx6 := Lib.hid (ro6.held (Nat.le_refl _) ra6.len)
  have Ox6 := Lib.hid ro6
  clear ra6 ro6 rb6
  have hlr : List.length (outS z0 z1) ≤ 2097152 := Hx6.out.arg.len
  go_wp2_with fail
  refine (eqIntS_c B6 B3 d6 d3 (outS z0 z1) (outS z0 z1) _ Hx6.out.arg Hx3.out.arg).mono ?_
  intro e0 v0 h0
  replace h0 := h0.toB
  revert e0 v0 h0
  rintro e u7 ⟨rfl, rb7⟩
  have sz7 := rb7.size
  replace Ha0 := Lib.hid (Ha0.out.go rb7)
  replace Ha1 := Lib.hid (Ha1.out.go rb7)
  replace Hx3 := Lib.hid (Hx3.out.go rb7)
  replace Hx4 := Lib.hid (Hx4.out.go rb7)
  replace Hx5 := Lib.hid (Hx5.out.go rb7)
  replace Hx6 := Lib.hid (Hx6.out.go rb7)
  replace Ox3 := Lib.hid (Ox3.out.go rb7 (by omega))
  replace Ox4 := Lib.hid (Ox4.out.go rb7 (by omega))
  replace Ox5 := Lib.hid (Ox5.out.go rb7 (by omega))
  replace Ox6 := Lib.hid (Ox6.out.go rb7 (by omega))
  replace Bt := Lib.hid (below_step Bt.out rb7)
  clear rb7
  go_wp2_with fail
  refine (toIntS_c A0 c0 z0 _ Ha0.out.arg).mono ?_
  rintro e u8 ⟨B8, d8, rfl, ra8, ro8, rb8⟩
  dsimp only [id]
  have sz8 := rb8.size
  replace Ha0 := Lib.hid (Ha0.out.go rb8)
  replace Ha1 := Lib.hid (Ha1.out.go rb8)
  replace Hx3 := Lib.hid (Hx3.out.go rb8)
  replace Hx4 := Lib.hid (Hx4.out.go rb8)
  replace Hx5 := Lib.hid (Hx5.out.go rb8)
  replace Hx6 := Lib.hid (Hx6.out.go rb8)
  replace Ox3 := Lib.hid (Ox3.out.go rb8 (by omega))
  replace Ox4 := Lib.hid (Ox4.out.go rb8 (by omega))
  replace Ox5 := Lib.hid (Ox5.out.go rb8 (by omega))
  replace Ox6 := Lib.hid (Ox6.out.go rb8 (by omega))
  replace Bt := Lib.hid (below_step Bt.out rb8)
  have Hx8 := Lib.hid (ro8.held (Nat.le_refl _) ra8.len)
  have Ox8 := Lib.hid ro8
  clear ra8 ro8 rb8
  go_wp2_with fail
  refine (eqIntS_c B4 B8 d4 d8 z0 z0 _ Hx4.out.arg Hx8.out.arg).mono ?_
  intro e0 v0 h0
  replace h0 := h0.toB
  revert e0 v0 h0
  rintro e u9 ⟨rfl, rb9⟩
  have sz9 := rb9.size
  replace Ha0 := Lib.hid (Ha0.out.go rb9)
  replace Ha1 := Lib.hid (Ha1.out.go rb9)
  replace Hx3 := Lib.hid (Hx3.out.go rb9)
  replace Hx4 := Lib.hid (Hx4.out.go rb9)
  replace Hx5 := Lib.hid (Hx5.out.go rb9)
  replace Hx6 := Lib.hid (Hx6.out.go rb9)
  replace Hx8 := Lib.hid (Hx8.out.go rb9)
  replace Ox3 := Lib.hid (Ox3.out.go rb9 (by omega))
  replace Ox4 := Lib.hid (Ox4.out.go rb9 (by omega))
  replace Ox5 := Lib.hid (Ox5.out.go rb9 (by omega))
  replace Ox6 := Lib.hid (Ox6.out.go rb9 (by omega))
  replace Ox8 := Lib.hid (Ox8.out.go rb9 (by omega))
  replace Bt := Lib.hid (below_step Bt.out rb9)
  clear rb9
  clear Hx8 Ox8
  go_wp2_with fail
  refine (toIntS_c A1 c1 z1 _ Ha1.out.arg).mono ?_
  rintro e u10 ⟨B10, d10, rfl, ra10, ro10, rb10⟩
  dsimp only [id]
  have sz10 := rb10.size
  replace Ha0 := Lib.hid (Ha0.out.go rb10)
  replace Ha1 := Lib.hid (Ha1.out.go rb10)
  replace Hx3 := Lib.hid (Hx3.out.go rb10)
  replace Hx4 := Lib.hid (Hx4.out.go rb10)
  replace Hx5 := Lib.hid (Hx5.out.go rb10)
  replace Hx6 := Lib.hid (Hx6.out.go rb10)
  replace Ox3 := Lib.hid (Ox3.out.go rb10 (by omega))
  replace Ox4 := Lib.hid (Ox4.out.go rb10 (by omega))
  replace Ox5 := Lib.hid (Ox5.out.go rb10 (by omega))
  replace Ox6 := Lib.hid (Ox6.out.go rb10 (by omega))
  replace Bt := Lib.hid (below_step Bt.out rb10)
  have Hx10 := Lib.hid (ro10.held (Nat.le_refl _) ra10.len)
  have Ox10 := Lib.hid ro10
  clear ra10 ro10 rb10
  go_wp2_with fail
  refine (eqIntS_c B5 B10 d5 d10 z1 z1 _ Hx5.out.arg Hx10.out.arg).mono ?_
  intro e0 v0 h0
  replace h0 := h0.toB
  revert e0 v0 h0
  rintro e u11 ⟨rfl, rb11⟩
  have sz11 := rb11.size
  replace Ha0 := Lib.hid (Ha0.out.go rb11)
  replace Ha1 := Lib.hid (Ha1.out.go rb11)
  replace Hx3 := Lib.hid (Hx3.out.go rb11)
  replace Hx4 := Lib.hid (Hx4.out.go rb11)
  replace Hx5 := Lib.hid (Hx5.out.go rb11)
  replace Hx6 := Lib.hid (Hx6.out.go rb11)
  replace Hx10 := Lib.hid (Hx10.out.go rb11)
  replace Ox3 := Lib.hid (Ox3.out.go rb11 (by omega))
  replace Ox4 := Lib.hid (Ox4.out.go rb11 (by omega))
  replace Ox5 := Lib.hid (Ox5.out.go rb11 (by omega))
  replace Ox6 := Lib.hid (Ox6.out.go rb11 (by omega))
  replace Ox10 := Lib.hid (Ox10.out.go rb11 (by omega))
  replace Bt := Lib.hid (below_step Bt.out rb11)
  clear rb11
  clear Hx10 Ox10
  go_wp2_with fail
  refine (markIntS_c B4 d4 z0 1 _ _ _ Hx4.out.arg.len (by omega) (by omega) Ox4.out).mono ?_
  rintro e u12 ⟨rfl, rg12, ro12⟩
  have sz12 := rg12.size
  have rr12 := Ox4.out.range
  replace Ha0 := Lib.hid (Ha0.out.grown rg12 (fun r e => by have := rr12 r e; omega))
  replace Ha1 := Lib.hid (Ha1.out.grown rg12 (fun r e => by have := rr12 r e; omega))
  replace Hx3 := Lib.hid (Hx3.out.grown rg12 (fun r e => by have := rr12 r e; omega))
  replace Hx5 := Lib.hid (Hx5.out.grown rg12 (fun r e => by have := rr12 r e; omega))
  replace Hx6 := Lib.hid (Hx6.out.grown rg12 (fun r e => by have := rr12 r e; omega))
  replace Ox3 := Lib.hid (Ox3.out.kept rg12 (fun r e => by have := rr12 r e; omega))
  replace Ox5 := Lib.hid (Ox5.out.kept rg12 (fun r e => by have := rr12 r e; omega))
  replace Ox6 := Lib.hid (Ox6.out.kept rg12 (fun r e => by have := rr12 r e; omega))
  replace Bt := Lib.hid (below_row Bt.out rg12 (fun r e => by have := rr12 r e; omega))
  replace Ox4 := Lib.hid ro12
  replace Hx4 := Lib.hid ((ow_marks Ox4.out).held (by have := Hx4.out.2.1; omega) (by rw [marks_length]; exact Hx4.out.arg.len))
  clear ro12 rg12 rr12
  go_wp2_with fail
  refine (markIntS_c B5 d5 z1 (1 + (z0.length : Int)) _ _ _ Hx5.out.arg.len (by omega) (by omega) Ox5.out).mono ?_
  rintro e u13 ⟨rfl, rg13, ro13⟩
  have sz13 := rg13.size
  have rr13 := Ox5.out.range
  replace Ha0 := Lib.hid (Ha0.out.grown rg13 (fun r e => by have := rr13 r e; omega))
  replace Ha1 := Lib.hid (Ha1.out.grown rg13 (fun r e => by have := rr13 r e; omega))
  replace Hx3 := Lib.hid (Hx3.out.grown rg13 (fun r e => by have := rr13 r e; omega))
  replace Hx4 := Lib.hid (Hx4.out.grown rg13 (fun r e => by have := rr13 r e; omega))
  replace Hx6 := Lib.hid (Hx6.out.grown rg13 (fun r e => by have := rr13 r e; omega))
  replace Ox3 := Lib.hid (Ox3.out.kept rg13 (fun r e => by have := rr13 r e; omega))
  replace Ox4 := Lib.hid (Ox4.out.kept rg13 (fun r e => by have := rr13 r e; omega))
  replace Ox6 := Lib.hid (Ox6.out.kept rg13 (fun r e => by have := rr13 r e; omega))
  replace Bt := Lib.hid (below_row Bt.out rg13 (fun r e => by have := rr13 r e; omega))
  replace Ox5 := Lib.hid ro13
  replace Hx5 := Lib.hid ((ow_marks Ox5.out).held (by have := Hx5.out.2.1; omega) (by rw [marks_length]; exact Hx5.out.arg.len))
  clear ro13 rg13 rr13
  go_wp2_with fail
  refine (eqIntS_c B6 B3 d6 d3 (outS z0 z1) (outS z0 z1) _ Hx6.out.arg Hx3.out.arg).mono ?_
  intro e0 v0 h0
  replace h0 := h0.toB
  revert e0 v0 h0
  rintro e u14 ⟨rfl, rb14⟩
  have sz14 := rb14.size
  replace Ha0 := Lib.hid (Ha0.out.go rb14)
  replace Ha1 := Lib.hid (Ha1.out.go rb14)
  replace Hx3 := Lib.hid (Hx3.out.go rb14)
  replace Hx4 := Lib.hid (Hx4.out.go rb14)
  replace Hx5 := Lib.hid (Hx5.out.go rb14)
  replace Hx6 := Lib.hid (Hx6.out.go rb14)
  replace Ox3 := Lib.hid (Ox3.out.go rb14 (by omega))
  replace Ox4 := Lib.hid (Ox4.out.go rb14 (by omega))
  replace Ox5 := Lib.hid (Ox5.out.go rb14 (by omega))
  replace Ox6 := Lib.hid (Ox6.out.go rb14 (by omega))
  replace Bt := Lib.hid (below_step Bt.out rb14)
  clear rb14
  clear Hx4 Ox4
  clear Hx5 Ox5
  go_wp2_with fail
  refine (markIntS_c B6 d6 (outS z0 z1) 1 _ _ _ Hx6.out.arg.len (by omega) (by omega) Ox6.out).mono ?_
  rintro e u15 ⟨rfl, rg15, ro15⟩
  have sz15 := rg15.size
  have rr15 := Ox6.out.range
  replace Ha0 := Lib.hid (Ha0.out.grown rg15 (fun r e => by have := rr15 r e; omega))
  replace Ha1 := Lib.hid (Ha1.out.grown rg15 (fun r e => by have := rr15 r e; omega))
  replace Hx3 := Lib.hid (Hx3.out.grown rg15 (fun r e => by have := rr15 r e; omega))
  replace Ox3 := Lib.hid (Ox3.out.kept rg15 (fun r e => by have := rr15 r e; omega))
  replace Bt := Lib.hid (below_row Bt.out rg15 (fun r e => by have := rr15 r e; omega))
  replace Ox6 := Lib.hid ro15
  replace Hx6 := Lib.hid ((ow_marks Ox6.out).held (by have := Hx6.out.2.1; omega) (by rw [marks_length]; exact Hx6.out.arg.len))
  clear ro15 rg15 rr15
  go_wp2_with fail
  refine (heldIntS_c B6 d6 (List.length (outS z0 z1)) 1 _ (by omega) (by omega) Hx6.out.arg).mono ?_
  rintro e w9 ⟨rfl, rfl⟩
  go_wp2_with fail
  refine (toIntS_c A0 c0 z0 _ Ha0.out.arg).mono ?_
  rintro e u17 ⟨B17, d17, rfl, ra17, ro17, rb17⟩
  dsimp only [id]
  have sz17 := rb17.size
  replace Ha0 := Lib.hid (Ha0.out.go rb17)
  replace Ha1 := Lib.hid (Ha1.out.go rb17)
  replace Hx3 := Lib.hid (Hx3.out.go rb17)
  replace Hx6 := Lib.hid (Hx6.out.go rb17)
  replace Ox3 := Lib.hid (Ox3.out.go rb17 (by omega))
  replace Ox6 := Lib.hid (Ox6.out.go rb17 (by omega))
  replace Bt := Lib.hid (below_step Bt.out rb17)
  have Hx17 := Lib.hid (ro17.held (Nat.le_refl _) ra17.len)
  have Ox17 := Lib.hid ro17
  clear ra17 ro17 rb17
  go_wp2_with fail
  refine (toIntS_c A1 c1 z1 _ Ha1.out.arg).mono ?_
  rintro e u18 ⟨B18, d18, rfl, ra18, ro18, rb18⟩
  dsimp only [id]
  have sz18 := rb18.size
  replace Ha0 := Lib.hid (Ha0.out.go rb18)
  replace Ha1 := Lib.hid (Ha1.out.go rb18)
  replace Hx3 := Lib.hid (Hx3.out.go rb18)
  replace Hx6 := Lib.hid (Hx6.out.go rb18)
  replace Hx17 := Lib.hid (Hx17.out.go rb18)
  replace Ox3 := Lib.hid (Ox3.out.go rb18 (by omega))
  replace Ox6 := Lib.hid (Ox6.out.go rb18 (by omega))
  replace Ox17 := Lib.hid (Ox17.out.go rb18 (by omega))
  replace Bt := Lib.hid (below_step Bt.out rb18)
  have Hx18 := Lib.hid (ro18.held (Nat.le_refl _) ra18.len)
  have Ox18 := Lib.hid ro18
  clear ra18 ro18 rb18
  go_wp2_with fail
  refine (implStowageOut_b B17 d17 z0 B18 d18 z1 _ Hx17.out.arg Hx18.out.arg).mono ?_
  rintro e u19 ⟨B19, d19, rfl, ra19, ro19, rb19⟩
  dsimp only
  have sz19 := rb19.size
  replace Ha0 := Lib.hid (Ha0.out.go rb19)
  replace Ha1 := Lib.hid (Ha1.out.go rb19)
  replace Hx3 := Lib.hid (Hx3.out.go rb19)
  replace Hx6 := Lib.hid (Hx6.out.go rb19)
  replace Hx17 := Lib.hid (Hx17.out.go rb19)
  replace Hx18 := Lib.hid (Hx18.out.go rb19)
  replace Ox3 := Lib.hid (Ox3.out.go rb19 (by omega))
  replace Ox6 := Lib.hid (Ox6.out.go rb19 (by omega))
  replace Ox17 := Lib.hid (Ox17.out.go rb19 (by omega))
  replace Ox18 := Lib.hid (Ox18.out.go rb19 (by omega))
  replace Bt := Lib.hid (below_step Bt.out rb19)
  have Hx19 := Lib.hid (ro19.held (Nat.le_refl _) ra19.len)
  have Ox19 := Lib.hid ro19
  clear ra19 ro19 rb19
  go_wp2_with fail
  refine (eqIntS_c B19 B3 d19 d3 (outS z0 z1) (outS z0 z1) _ Hx19.out.arg Hx3.out.arg).mono ?_
  intro e0 v0 h0
  replace h0 := h0.toB
  revert e0 v0 h0
  rintro e u20 ⟨rfl, rb20⟩
  have sz20 := rb20.size
  replace Ha0 := Lib.hid (Ha0.out.go rb20)
  replace Ha1 := Lib.hid (Ha1.out.go rb20)
  replace Hx3 := Lib.hid (Hx3.out.go rb20)
  replace Hx6 := Lib.hid (Hx6.out.go rb20)
  replace Hx17 := Lib.hid (Hx17.out.go rb20)
  replace Hx18 := Lib.hid (Hx18.out.go rb20)
  replace Hx19 := Lib.hid (Hx19.out.go rb20)
  replace Ox3 := Lib.hid (Ox3.out.go rb20 (by omega))
  replace Ox6 := Lib.hid (Ox6.out.go rb20 (by omega))
  replace Ox17 := Lib.hid (Ox17.out.go rb20 (by omega))
  replace Ox18 := Lib.hid (Ox18.out.go rb20 (by omega))
  replace Ox19 := Lib.hid (Ox19.out.go rb20 (by omega))
  replace Bt := Lib.hid (below_step Bt.out rb20)
  clear rb20
  go_wp2_with fail
  refine (heldIntS_c B6 d6 (List.length (outS z0 z1)) 1 _ (by omega) (by omega) Hx6.out.arg).mono ?_
  rintro e w9 ⟨rfl, rfl⟩
  go_wp2
  go_ret
  exact ⟨rfl, Bt.out⟩

theorem exStowageOut_walk (A0 : Option Addr) (c0 : Nat) (z0 : List Int) (A1 : Option Addr) (c1 : Nat) (z1 : List Int) (w : World) (ha0 : Arg0 w A0 c0 z0) (ha1 : Arg0 w A1 c1 z1) :
    Calls Try.prog 17 #[.slice A0 z0.length c0, .slice A1 z1.length c1] w (RetB (.bool true) w) := by
  by_cases hl0 : 1048576 < z0.length
  · clear ha0; clear ha1
    go_enter Try.func17, Try.ntmps17
    go_wp2
    go_ret
    exact ⟨rfl, Below.refl _ _⟩
  by_cases hl1 : 1048576 < z1.length
  · clear ha0; clear ha1
    go_enter Try.func17, Try.ntmps17
    go_wp2
    go_ret
    exact ⟨rfl, Below.refl _ _⟩
  exact exStowageOut_in A0 c0 z0 A1 c1 z1 w (ha0.arg (by omega)) (by omega) (ha1.arg (by omega)) (by omega)

set_option maxRecDepth 100000 in
theorem exStowageOut_lifted (os : Os) (started : os.Started) (H : Type) (enc : TypeId × Value → H) :
    ReturnsInHanded {} Try.checked os 17 .any (Rows.fnExactStowageOutSpec.pre6 enc Try.prog Try.f17 Rows.fnExactStowageOutRow.domain false) (Rows.fnExactStowageOutSpec.post enc Try.prog Try.f17 false true false false) := by
  refine returnsInHanded_of_change (C := Try.checked) row_own started (by kernel_rfl) Try.func17
    (ChangeSpec.witness6 (enc := enc) (C := Try.checked) false ⟨#[], #[.slice none 0 0, .slice none 0 0], []⟩ 8 (by kernel_rfl) (by kernel_rfl) (by kernel_rfl) (by kernel_rfl)) ?_
  intro W base args ds gs before hval0 hW hcnd _
  have hval : ∀ (j : Nat) t v, Try.f17.params[j]? = some t → args[j]? = some v → Value.okWide Try.prog W .any base t v := hval0
  have hW' := hW
  obtain ⟨p, q, hA0, hV, rfl, _, _⟩ := hW
  have hA : DataW.TrodAll enc Try.prog W 0 (fun _ => true) true Try.f17.params.toList args.toList ds p := hA0
  rw [Try.params17] at hA hval
  obtain ⟨v0, vs0, d0, ds0, p0, q0, hargs, rfl, rfl, h0, r0⟩ := trodAll_cons hA
  obtain ⟨v1, vs1, d1, ds1, p1, q1, rfl, rfl, rfl, h1, r1⟩ := trodAll_cons r0
  obtain ⟨rfl, rfl, rfl⟩ := trodAll_nil r1
  obtain rfl : args = #[v0, v1] := by cases args; simp_all
  obtain ⟨rfl, rfl⟩ := trodVars_none hV
  have hlt0 : ∀ x ∈ p0, x.block < W.heap.size := fun x hx => by exact hW'.lt x (by simp [hx])
  obtain ⟨A0, c0, z0, rfl, ha0⟩ := open_slice (hval 0 23 v0 rfl rfl) h0 hlt0
  have hlt1 : ∀ x ∈ p1, x.block < W.heap.size := fun x hx => by exact hW'.lt x (by simp [hx])
  obtain ⟨A1, c1, z1, rfl, ha1⟩ := open_slice (hval 1 23 v1 rfl rfl) h1 hlt1
  clear hA0 hval0
  refine (exStowageOut_walk A0 c0 z0 A1 c1 z1 W ha0 ha1).mono fun e W' ⟨he, hb⟩ => ?_
  subst he
  exact ⟨_, rfl, _, _, _, [], _, [], hW', (trodAll_cons_mk (shut_bool Try.underlying4 _) trodAll_mk0), (trodAll_cons_mk (read_again h0 hlt0 hb) (trodAll_cons_mk (read_again h1 hlt1 hb) trodAll_mk0)), rfl, hb.frame _, fun h => by cases h⟩

set_option maxRecDepth 100000 in
theorem exStowageOut_closed : joinedFacts Try.prog 17 Try.f17 Rows.fnExactStowageOutSpec Rows.fnExactStowageOutRow = true := by
  unfold joinedFacts
  repeat' (with_reducible apply facAnd)
  all_goals first | (with_reducible exact facEnter) | (with_reducible exact facLaid) | (with_reducible exact facMaps) | (with_reducible exact facStops) | (with_reducible exact facKnobs) | (with_reducible exact facHeard) | (rw [facLifts]; as_aux_lemma => kernel_rfl) | (rw [facMake]; as_aux_lemma => kernel_rfl) | (as_aux_lemma => kernel_rfl)

/-- THE STATEMENT -/
theorem exStowageOut_holds : Rows.FnExactStowageOutSaid :=
  OpenClaim.holds_of_wide 17 Try.f17 rfl rfl rfl rfl rfl rfl rfl ⟨rfl, rfl, rfl, rfl, rfl⟩ rfl rfl rfl rfl rfl (by kernel_rfl) Try.func17 exStowageOut_closed
    (of_decide_eq_true (by kernel_rfl)) (by unfold Func.isWrapper; first | (rw [if_pos (by decide +kernel)]; kernel_rfl) | (rw [if_neg (by decide +kernel)]; exact ⟨rfl, rfl⟩))
    (fun os started H enc _ => exStowageOut_lifted os started H enc)
#print axioms exStowageOut_holds
end Go.Proofs.Ytciahmccafcllaa
