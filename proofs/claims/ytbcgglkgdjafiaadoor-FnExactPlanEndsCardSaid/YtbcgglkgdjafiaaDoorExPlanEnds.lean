/-
  The exact law of PlanEnds: for all arguments the law answers true. No condition but the tie of the card.
  (Written by a program of mine, gen6.py.)
-/
import Derived.Test.YtbcgglkgdjafiaaDoorBaseJ
import Derived.Test.YtbcgglkgdjafiaaDoorBaseJD
import Derived.Test.YtbcgglkgdjafiaaDoorRowJ
import Derived.Test.YtbcgglkgdjafiaaDoorBase
import Derived.Test.YtbcgglkgdjafiaaDoorRow
import Derived.ChangeMaps5
import Derived.Test.YtbcgglkgdjafiaaDoorDoorM
import Derived.Test.YtbcgglkgdjafiaaDoorTie
import Derived.Test.YtbcgglkgdjafiaaDoorCards
import Derived.LaidMore
import Derived.SevenTiedAt
import Derived.Stop.Joined
import Derived.Test.YtbcgglkgdjafiaaDoorFacD
import Derived.Test.YtbcgglkgdjafiaaDoorPlE
namespace Go.Proofs.YtbcgglkgdjafiaaDoor
open Go.ChangeShapes Go.WideShapes Go.ChangeAt Go.RowKit Go.ChangeMaps

set_option maxRecDepth 100000 in
set_option maxHeartbeats 2000000 in
theorem exPlanEnds_in (s0 : ByteArray) (A1 : Option Addr) (c1 : Nat) (z1 : List Jbs) (A2 : Option Addr) (c2 : Nat) (z2 : List Int) (w : World) (ha1 : ArgJ w A1 c1 z1) (ha2 : Arg w A2 c2 z2) (hl2 : z2.length ≤ 1048576) (hl : z1.length ≤ 1048576) (hs0 : s0.size ≤ 1048576) (hT : Tab w) :
    Calls Tryd.prog 12 #[.string s0, .slice A1 z1.length c1, .slice A2 z2.length c2] w (RetB (.bool true) w) := by
  have Ha1 := Lib.hid ha1.held
  clear ha1
  have Ha2 := Lib.hid ha2.held
  clear ha2
  have gN2 : (z2.length : Int) ≤ 1048576 := by omega
  have gT0 : ¬ (1048576 : Int) < (s0.size : Int) := by omega
  have tz0 := hT.lt
  have HT := Lib.hid hT
  clear hT
  have Bt := Lib.hid (Below.refl w.heap.size w)
  go_enter Tryd.func12, Tryd.ntmps12
  go_wp2_with fail
  refine (szJobS_yes A1 c1 z1.length (1048576) _ (by omega) (by omega)).mono ?_
  rintro e w9 ⟨rfl, rfl⟩
  go_wp2_with fail
  refine (toJobS_c A1 c1 z1 _ Ha1.out.arg).mono ?_
  rintro e u1 ⟨B1, d1, rfl, ra1, ro1, rb1⟩
  dsimp only [id]
  have sz1 := rb1.size
  replace Ha1 := Lib.hid (Ha1.out.go rb1)
  replace Ha2 := Lib.hid (Ha2.out.go rb1)
  replace HT := Lib.hid (HT.out.go rb1)
  replace Bt := Lib.hid (below_step Bt.out rb1)
  have Hx1 := Lib.hid (ro1.held (Nat.le_refl _) ra1.len)
  have Ox1 := Lib.hid ro1
  clear ra1 ro1 rb1
  go_wp2_with fail
  refine (toIntS_c A2 c2 z2 _ Ha2.out.arg).mono ?_
  rintro e u2 ⟨B2, d2, rfl, ra2, ro2, rb2⟩
  dsimp only [id]
  have sz2 := rb2.size
  replace Ha1 := Lib.hid (Ha1.out.go rb2)
  replace Ha2 := Lib.hid (Ha2.out.go rb2)
  replace Hx1 := Lib.hid (Hx1.out.go rb2)
  replace Ox1 := Lib.hid (Ox1.out.go rb2 (by omega))
  replace HT := Lib.hid (HT.out.go rb2)
  replace Bt := Lib.hid (below_step Bt.out rb2)
  have Hx2 := Lib.hid (ro2.held (Nat.le_refl _) ra2.len)
  have Ox2 := Lib.hid ro2
  clear ra2 ro2 rb2
  go_wp2_with fail
  refine (specPlanEnds_b s0 B1 d1 z1 B2 d2 z2 _ (by omega) Hx1.out.arg Hx2.out.arg).mono ?_
  rintro e u3 ⟨B3, d3, rfl, ra3, ro3, rb3⟩
  dsimp only
  have sz3 := rb3.size
  replace Ha1 := Lib.hid (Ha1.out.go rb3)
  replace Ha2 := Lib.hid (Ha2.out.go rb3)
  replace Hx1 := Lib.hid (Hx1.out.go rb3)
  replace Hx2 := Lib.hid (Hx2.out.go rb3)
  replace Ox1 := Lib.hid (Ox1.out.go rb3 (by omega))
  replace Ox2 := Lib.hid (Ox2.out.go rb3 (by omega))
  replace HT := Lib.hid (HT.out.go rb3)
  replace Bt := Lib.hid (below_step Bt.out rb3)
  have Hx3 := Lib.hid (ro3.held (Nat.le_refl _) ra3.len)
  have Ox3 := Lib.hid ro3
  clear ra3 ro3 rb3
  clear Hx1 Ox1
  clear Hx2 Ox2
  go_wp2_with fail
  refine (toJobS_c A1 c1 z1 _ Ha1.out.arg).mono ?_
  rintro e u4 ⟨B4, d4, rfl, ra4, ro4, rb4⟩
  dsimp only [id]
  have sz4 := rb4.size
  replace Ha1 := Lib.hid (Ha1.out.go rb4)
  replace Ha2 := Lib.hid (Ha2.out.go rb4)
  replace Hx3 := Lib.hid (Hx3.out.go rb4)
  replace Ox3 := Lib.hid (Ox3.out.go rb4 (by omega))
  replace HT := Lib.hid (HT.out.go rb4)
  replace Bt := Lib.hid (below_step Bt.out rb4)
  have Hx4 := Lib.hid (ro4.held (Nat.le_refl _) ra4.len)
  have Ox4 := Lib.hid ro4
  clear ra4 ro4 rb4
  go_wp2_with fail
  refine (toIntS_c A2 c2 z2 _ Ha2.out.arg).mono ?_
  rintro e u5 ⟨B5, d5, rfl, ra5, ro5, rb5⟩
  dsimp only [id]
  have sz5 := rb5.size
  replace Ha1 := Lib.hid (Ha1.out.go rb5)
  replace Ha2 := Lib.hid (Ha2.out.go rb5)
  replace Hx3 := Lib.hid (Hx3.out.go rb5)
  replace Hx4 := Lib.hid (Hx4.out.go rb5)
  replace Ox3 := Lib.hid (Ox3.out.go rb5 (by omega))
  replace Ox4 := Lib.hid (Ox4.out.go rb5 (by omega))
  replace HT := Lib.hid (HT.out.go rb5)
  replace Bt := Lib.hid (below_step Bt.out rb5)
  have Hx5 := Lib.hid (ro5.held (Nat.le_refl _) ra5.len)
  have Ox5 := Lib.hid ro5
  clear ra5 ro5 rb5
  go_wp2_with fail
  refine (implPlanEnds_b s0 B4 d4 z1 B5 d5 z2 _ (by omega) Hx4.out.arg Hx5.out.arg HT.out).mono ?_
  rintro e u6 ⟨B6, d6, rfl, ra6, ro6, rb6⟩
  dsimp only
  have sz6 := rb6.size
  replace Ha1 := Lib.hid (Ha1.out.go rb6)
  replace Ha2 := Lib.hid (Ha2.out.go rb6)
  replace Hx3 := Lib.hid (Hx3.out.go rb6)
  replace Hx4 := Lib.hid (Hx4.out.go rb6)
  replace Hx5 := Lib.hid (Hx5.out.go rb6)
  replace Ox3 := Lib.hid (Ox3.out.go rb6 (by omega))
  replace Ox4 := Lib.hid (Ox4.out.go rb6 (by omega))
  replace Ox5 := Lib.hid (Ox5.out.go rb6 (by omega))
  replace HT := Lib.hid (HT.out.go rb6)
  replace Bt := Lib.hid (below_step Bt.out rb6)
  have Hx6 := Lib.hid (ro6.held (Nat.le_refl _) ra6.len)
  have Ox6 := Lib.hid ro6
  clear ra6 ro6 rb6
  have hlr0 : List.length (endsL (byL s0) z1 z2) ≤ 2097152 := Hx6.out.arg.len
  go_wp2_with fail
  refine (eqIntS_c B6 B3 d6 d3 (endsL (byL s0) z1 z2) (endsL (byL s0) z1 z2) _ Hx6.out.arg Hx3.out.arg).mono ?_
  intro e0 v0 h0
  replace h0 := h0.toB
  revert e0 v0 h0
  rintro e u7 ⟨rfl, rb7⟩
  have sz7 := rb7.size
  replace Ha1 := Lib.hid (Ha1.out.go rb7)
  replace Ha2 := Lib.hid (Ha2.out.go rb7)
  replace Hx3 := Lib.hid (Hx3.out.go rb7)
  replace Hx4 := Lib.hid (Hx4.out.go rb7)
  replace Hx5 := Lib.hid (Hx5.out.go rb7)
  replace Hx6 := Lib.hid (Hx6.out.go rb7)
  replace Ox3 := Lib.hid (Ox3.out.go rb7 (by omega))
  replace Ox4 := Lib.hid (Ox4.out.go rb7 (by omega))
  replace Ox5 := Lib.hid (Ox5.out.go rb7 (by omega))
  replace Ox6 := Lib.hid (Ox6.out.go rb7 (by omega))
  replace HT := Lib.hid (HT.out.go rb7)
  replace Bt := Lib.hid (below_step Bt.out rb7)
  clear rb7
  go_wp2_with fail
  refine (toJobS_c A1 c1 z1 _ Ha1.out.arg).mono ?_
  rintro e u8 ⟨B8, d8, rfl, ra8, ro8, rb8⟩
  dsimp only [id]
  have sz8 := rb8.size
  replace Ha1 := Lib.hid (Ha1.out.go rb8)
  replace Ha2 := Lib.hid (Ha2.out.go rb8)
  replace Hx3 := Lib.hid (Hx3.out.go rb8)
  replace Hx4 := Lib.hid (Hx4.out.go rb8)
  replace Hx5 := Lib.hid (Hx5.out.go rb8)
  replace Hx6 := Lib.hid (Hx6.out.go rb8)
  replace Ox3 := Lib.hid (Ox3.out.go rb8 (by omega))
  replace Ox4 := Lib.hid (Ox4.out.go rb8 (by omega))
  replace Ox5 := Lib.hid (Ox5.out.go rb8 (by omega))
  replace Ox6 := Lib.hid (Ox6.out.go rb8 (by omega))
  replace HT := Lib.hid (HT.out.go rb8)
  replace Bt := Lib.hid (below_step Bt.out rb8)
  have Hx8 := Lib.hid (ro8.held (Nat.le_refl _) ra8.len)
  have Ox8 := Lib.hid ro8
  clear ra8 ro8 rb8
  go_wp2_with fail
  refine (eqJobS_c B4 B8 d4 d8 z1 z1 _ Hx4.out.arg Hx8.out.arg).mono ?_
  rintro e u9 ⟨rfl, rb9⟩
  have sz9 := rb9.size
  replace Ha1 := Lib.hid (Ha1.out.go rb9)
  replace Ha2 := Lib.hid (Ha2.out.go rb9)
  replace Hx3 := Lib.hid (Hx3.out.go rb9)
  replace Hx4 := Lib.hid (Hx4.out.go rb9)
  replace Hx5 := Lib.hid (Hx5.out.go rb9)
  replace Hx6 := Lib.hid (Hx6.out.go rb9)
  replace Hx8 := Lib.hid (Hx8.out.go rb9)
  replace Ox3 := Lib.hid (Ox3.out.go rb9 (by omega))
  replace Ox4 := Lib.hid (Ox4.out.go rb9 (by omega))
  replace Ox5 := Lib.hid (Ox5.out.go rb9 (by omega))
  replace Ox6 := Lib.hid (Ox6.out.go rb9 (by omega))
  replace Ox8 := Lib.hid (Ox8.out.go rb9 (by omega))
  replace HT := Lib.hid (HT.out.go rb9)
  replace Bt := Lib.hid (below_step Bt.out rb9)
  clear rb9
  clear Hx8 Ox8
  go_wp2_with fail
  refine (toIntS_c A2 c2 z2 _ Ha2.out.arg).mono ?_
  rintro e u10 ⟨B10, d10, rfl, ra10, ro10, rb10⟩
  dsimp only [id]
  have sz10 := rb10.size
  replace Ha1 := Lib.hid (Ha1.out.go rb10)
  replace Ha2 := Lib.hid (Ha2.out.go rb10)
  replace Hx3 := Lib.hid (Hx3.out.go rb10)
  replace Hx4 := Lib.hid (Hx4.out.go rb10)
  replace Hx5 := Lib.hid (Hx5.out.go rb10)
  replace Hx6 := Lib.hid (Hx6.out.go rb10)
  replace Ox3 := Lib.hid (Ox3.out.go rb10 (by omega))
  replace Ox4 := Lib.hid (Ox4.out.go rb10 (by omega))
  replace Ox5 := Lib.hid (Ox5.out.go rb10 (by omega))
  replace Ox6 := Lib.hid (Ox6.out.go rb10 (by omega))
  replace HT := Lib.hid (HT.out.go rb10)
  replace Bt := Lib.hid (below_step Bt.out rb10)
  have Hx10 := Lib.hid (ro10.held (Nat.le_refl _) ra10.len)
  have Ox10 := Lib.hid ro10
  clear ra10 ro10 rb10
  go_wp2_with fail
  refine (eqIntS_c B5 B10 d5 d10 z2 z2 _ Hx5.out.arg Hx10.out.arg).mono ?_
  intro e0 v0 h0
  replace h0 := h0.toB
  revert e0 v0 h0
  rintro e u11 ⟨rfl, rb11⟩
  have sz11 := rb11.size
  replace Ha1 := Lib.hid (Ha1.out.go rb11)
  replace Ha2 := Lib.hid (Ha2.out.go rb11)
  replace Hx3 := Lib.hid (Hx3.out.go rb11)
  replace Hx4 := Lib.hid (Hx4.out.go rb11)
  replace Hx5 := Lib.hid (Hx5.out.go rb11)
  replace Hx6 := Lib.hid (Hx6.out.go rb11)
  replace Hx10 := Lib.hid (Hx10.out.go rb11)
  replace Ox3 := Lib.hid (Ox3.out.go rb11 (by omega))
  replace Ox4 := Lib.hid (Ox4.out.go rb11 (by omega))
  replace Ox5 := Lib.hid (Ox5.out.go rb11 (by omega))
  replace Ox6 := Lib.hid (Ox6.out.go rb11 (by omega))
  replace Ox10 := Lib.hid (Ox10.out.go rb11 (by omega))
  replace HT := Lib.hid (HT.out.go rb11)
  replace Bt := Lib.hid (below_step Bt.out rb11)
  clear rb11
  clear Hx10 Ox10
  go_wp2_with fail
  refine (markJobS_c B4 d4 z1 1 _ _ _ Hx4.out.arg.len (by omega) (by omega) Ox4.out).mono ?_
  rintro e u12 ⟨rfl, rg12, ro12⟩
  have sz12 := rg12.size
  have rr12 := Ox4.out.range
  replace Ha1 := Lib.hid (Ha1.out.grown rg12 (fun r e => by have := rr12 r e; omega))
  replace Ha2 := Lib.hid (Ha2.out.grown rg12 (fun r e => by have := rr12 r e; omega))
  replace Hx3 := Lib.hid (Hx3.out.grown rg12 (fun r e => by have := rr12 r e; omega))
  replace Hx5 := Lib.hid (Hx5.out.grown rg12 (fun r e => by have := rr12 r e; omega))
  replace Hx6 := Lib.hid (Hx6.out.grown rg12 (fun r e => by have := rr12 r e; omega))
  replace Ox3 := Lib.hid (Ox3.out.kept rg12 (fun r e => by have := rr12 r e; omega))
  replace Ox5 := Lib.hid (Ox5.out.kept rg12 (fun r e => by have := rr12 r e; omega))
  replace Ox6 := Lib.hid (Ox6.out.kept rg12 (fun r e => by have := rr12 r e; omega))
  replace HT := Lib.hid (HT.out.grown rg12 (fun r e => by have := rr12 r e; omega))
  replace Bt := Lib.hid (below_row Bt.out rg12 (fun r e => by have := rr12 r e; omega))
  replace Ox4 := Lib.hid ro12
  replace Hx4 := Lib.hid ((owJ_marks Ox4.out).held (by have := Hx4.out.2.1; omega) (by rw [marksJ_length]; exact Hx4.out.arg.len))
  clear ro12 rg12 rr12
  go_wp2_with fail
  refine (markIntS_c B5 d5 z2 (1 + 2 * (List.length z1 : Int)) _ _ _ Hx5.out.arg.len (by omega) (by omega) Ox5.out).mono ?_
  rintro e u13 ⟨rfl, rg13, ro13⟩
  have sz13 := rg13.size
  have rr13 := Ox5.out.range
  replace Ha1 := Lib.hid (Ha1.out.grown rg13 (fun r e => by have := rr13 r e; omega))
  replace Ha2 := Lib.hid (Ha2.out.grown rg13 (fun r e => by have := rr13 r e; omega))
  replace Hx3 := Lib.hid (Hx3.out.grown rg13 (fun r e => by have := rr13 r e; omega))
  replace Hx4 := Lib.hid (Hx4.out.grown rg13 (fun r e => by have := rr13 r e; omega))
  replace Hx6 := Lib.hid (Hx6.out.grown rg13 (fun r e => by have := rr13 r e; omega))
  replace Ox3 := Lib.hid (Ox3.out.kept rg13 (fun r e => by have := rr13 r e; omega))
  replace Ox4 := Lib.hid (Ox4.out.kept rg13 (fun r e => by have := rr13 r e; omega))
  replace Ox6 := Lib.hid (Ox6.out.kept rg13 (fun r e => by have := rr13 r e; omega))
  replace HT := Lib.hid (HT.out.grown rg13 (fun r e => by have := rr13 r e; omega))
  replace Bt := Lib.hid (below_row Bt.out rg13 (fun r e => by have := rr13 r e; omega))
  replace Ox5 := Lib.hid ro13
  replace Hx5 := Lib.hid ((ow_marks Ox5.out).held (by have := Hx5.out.2.1; omega) (by rw [marks_length]; exact Hx5.out.arg.len))
  clear ro13 rg13 rr13
  go_wp2_with fail
  refine (eqIntS_c B6 B3 d6 d3 (endsL (byL s0) z1 z2) (endsL (byL s0) z1 z2) _ Hx6.out.arg Hx3.out.arg).mono ?_
  intro e0 v0 h0
  replace h0 := h0.toB
  revert e0 v0 h0
  rintro e u14 ⟨rfl, rb14⟩
  have sz14 := rb14.size
  replace Ha1 := Lib.hid (Ha1.out.go rb14)
  replace Ha2 := Lib.hid (Ha2.out.go rb14)
  replace Hx3 := Lib.hid (Hx3.out.go rb14)
  replace Hx4 := Lib.hid (Hx4.out.go rb14)
  replace Hx5 := Lib.hid (Hx5.out.go rb14)
  replace Hx6 := Lib.hid (Hx6.out.go rb14)
  replace Ox3 := Lib.hid (Ox3.out.go rb14 (by omega))
  replace Ox4 := Lib.hid (Ox4.out.go rb14 (by omega))
  replace Ox5 := Lib.hid (Ox5.out.go rb14 (by omega))
  replace Ox6 := Lib.hid (Ox6.out.go rb14 (by omega))
  replace HT := Lib.hid (HT.out.go rb14)
  replace Bt := Lib.hid (below_step Bt.out rb14)
  clear rb14
  clear Hx4 Ox4
  clear Hx5 Ox5
  go_wp2_with fail
  refine (markIntS_c B6 d6 (endsL (byL s0) z1 z2) 1 _ _ _ Hx6.out.arg.len (by omega) (by omega) Ox6.out).mono ?_
  rintro e u15 ⟨rfl, rg15, ro15⟩
  have sz15 := rg15.size
  have rr15 := Ox6.out.range
  replace Ha1 := Lib.hid (Ha1.out.grown rg15 (fun r e => by have := rr15 r e; omega))
  replace Ha2 := Lib.hid (Ha2.out.grown rg15 (fun r e => by have := rr15 r e; omega))
  replace Hx3 := Lib.hid (Hx3.out.grown rg15 (fun r e => by have := rr15 r e; omega))
  replace Ox3 := Lib.hid (Ox3.out.kept rg15 (fun r e => by have := rr15 r e; omega))
  replace HT := Lib.hid (HT.out.grown rg15 (fun r e => by have := rr15 r e; omega))
  replace Bt := Lib.hid (below_row Bt.out rg15 (fun r e => by have := rr15 r e; omega))
  replace Ox6 := Lib.hid ro15
  replace Hx6 := Lib.hid ((ow_marks Ox6.out).held (by have := Hx6.out.2.1; omega) (by rw [marks_length]; exact Hx6.out.arg.len))
  clear ro15 rg15 rr15
  go_wp2_with fail
  refine (heldIntS_c B6 d6 (List.length (endsL (byL s0) z1 z2)) 1 _ (by omega) (by omega) Hx6.out.arg).mono ?_
  rintro e w9 ⟨rfl, rfl⟩
  go_wp2_with fail
  refine (toJobS_c A1 c1 z1 _ Ha1.out.arg).mono ?_
  rintro e u16 ⟨B16, d16, rfl, ra16, ro16, rb16⟩
  dsimp only [id]
  have sz16 := rb16.size
  replace Ha1 := Lib.hid (Ha1.out.go rb16)
  replace Ha2 := Lib.hid (Ha2.out.go rb16)
  replace Hx3 := Lib.hid (Hx3.out.go rb16)
  replace Hx6 := Lib.hid (Hx6.out.go rb16)
  replace Ox3 := Lib.hid (Ox3.out.go rb16 (by omega))
  replace Ox6 := Lib.hid (Ox6.out.go rb16 (by omega))
  replace HT := Lib.hid (HT.out.go rb16)
  replace Bt := Lib.hid (below_step Bt.out rb16)
  have Hx16 := Lib.hid (ro16.held (Nat.le_refl _) ra16.len)
  have Ox16 := Lib.hid ro16
  clear ra16 ro16 rb16
  go_wp2_with fail
  refine (toIntS_c A2 c2 z2 _ Ha2.out.arg).mono ?_
  rintro e u17 ⟨B17, d17, rfl, ra17, ro17, rb17⟩
  dsimp only [id]
  have sz17 := rb17.size
  replace Ha1 := Lib.hid (Ha1.out.go rb17)
  replace Ha2 := Lib.hid (Ha2.out.go rb17)
  replace Hx3 := Lib.hid (Hx3.out.go rb17)
  replace Hx6 := Lib.hid (Hx6.out.go rb17)
  replace Hx16 := Lib.hid (Hx16.out.go rb17)
  replace Ox3 := Lib.hid (Ox3.out.go rb17 (by omega))
  replace Ox6 := Lib.hid (Ox6.out.go rb17 (by omega))
  replace Ox16 := Lib.hid (Ox16.out.go rb17 (by omega))
  replace HT := Lib.hid (HT.out.go rb17)
  replace Bt := Lib.hid (below_step Bt.out rb17)
  have Hx17 := Lib.hid (ro17.held (Nat.le_refl _) ra17.len)
  have Ox17 := Lib.hid ro17
  clear ra17 ro17 rb17
  go_wp2_with fail
  refine (implPlanEnds_b s0 B16 d16 z1 B17 d17 z2 _ (by omega) Hx16.out.arg Hx17.out.arg HT.out).mono ?_
  rintro e u18 ⟨B18, d18, rfl, ra18, ro18, rb18⟩
  dsimp only
  have sz18 := rb18.size
  replace Ha1 := Lib.hid (Ha1.out.go rb18)
  replace Ha2 := Lib.hid (Ha2.out.go rb18)
  replace Hx3 := Lib.hid (Hx3.out.go rb18)
  replace Hx6 := Lib.hid (Hx6.out.go rb18)
  replace Hx16 := Lib.hid (Hx16.out.go rb18)
  replace Hx17 := Lib.hid (Hx17.out.go rb18)
  replace Ox3 := Lib.hid (Ox3.out.go rb18 (by omega))
  replace Ox6 := Lib.hid (Ox6.out.go rb18 (by omega))
  replace Ox16 := Lib.hid (Ox16.out.go rb18 (by omega))
  replace Ox17 := Lib.hid (Ox17.out.go rb18 (by omega))
  replace HT := Lib.hid (HT.out.go rb18)
  replace Bt := Lib.hid (below_step Bt.out rb18)
  have Hx18 := Lib.hid (ro18.held (Nat.le_refl _) ra18.len)
  have Ox18 := Lib.hid ro18
  clear ra18 ro18 rb18
  go_wp2_with fail
  refine (eqIntS_c B18 B3 d18 d3 (endsL (byL s0) z1 z2) (endsL (byL s0) z1 z2) _ Hx18.out.arg Hx3.out.arg).mono ?_
  intro e0 v0 h0
  replace h0 := h0.toB
  revert e0 v0 h0
  rintro e u19 ⟨rfl, rb19⟩
  have sz19 := rb19.size
  replace Ha1 := Lib.hid (Ha1.out.go rb19)
  replace Ha2 := Lib.hid (Ha2.out.go rb19)
  replace Hx3 := Lib.hid (Hx3.out.go rb19)
  replace Hx6 := Lib.hid (Hx6.out.go rb19)
  replace Hx16 := Lib.hid (Hx16.out.go rb19)
  replace Hx17 := Lib.hid (Hx17.out.go rb19)
  replace Hx18 := Lib.hid (Hx18.out.go rb19)
  replace Ox3 := Lib.hid (Ox3.out.go rb19 (by omega))
  replace Ox6 := Lib.hid (Ox6.out.go rb19 (by omega))
  replace Ox16 := Lib.hid (Ox16.out.go rb19 (by omega))
  replace Ox17 := Lib.hid (Ox17.out.go rb19 (by omega))
  replace Ox18 := Lib.hid (Ox18.out.go rb19 (by omega))
  replace HT := Lib.hid (HT.out.go rb19)
  replace Bt := Lib.hid (below_step Bt.out rb19)
  clear rb19
  go_wp2_with fail
  refine (heldIntS_c B6 d6 (List.length (endsL (byL s0) z1 z2)) 1 _ (by omega) (by omega) Hx6.out.arg).mono ?_
  rintro e w9 ⟨rfl, rfl⟩
  go_wp2
  go_ret
  exact ⟨rfl, Bt.out⟩

theorem exPlanEnds_walk (s0 : ByteArray) (A1 : Option Addr) (c1 : Nat) (z1 : List Jbs) (A2 : Option Addr) (c2 : Nat) (z2 : List Int) (w : World) (ha1 : ArgJ0 w A1 c1 z1) (ha2 : Arg0 w A2 c2 z2) (hT : Tab w) :
    Calls Tryd.prog 12 #[.string s0, .slice A1 z1.length c1, .slice A2 z2.length c2] w (RetB (.bool true) w) := by
  by_cases hs0 : 1048576 < s0.size
  · have hj0 : (1048576 : Int) < (s0.size : Int) := by omega
    clear ha1 ha2 hT
    go_enter Tryd.func12, Tryd.ntmps12
    go_wp2
    go_ret
    exact ⟨rfl, Below.refl _ _⟩
  have gT0 : ¬ (1048576 : Int) < (s0.size : Int) := by omega
  by_cases hlN2 : 1048576 < z2.length
  · have hk2 : ¬ (z2.length : Int) ≤ 1048576 := by omega
    have hj2 : (1048576 : Int) < (z2.length : Int) := by omega
    clear ha1 ha2 hT
    go_enter Tryd.func12, Tryd.ntmps12
    go_wp2
    go_ret
    exact ⟨rfl, Below.refl _ _⟩
  have gN2 : (z2.length : Int) ≤ 1048576 := by omega
  by_cases hl1 : 1048576 < z1.length
  · have hc1 := ha1.1
    have hm1 := ha1.2.1
    have hk1 : (1048576 : Int) < (z1.length : Int) := by omega
    clear ha1 ha2 hT
    go_enter Tryd.func12, Tryd.ntmps12
    go_wp2_with fail
    refine (szJobS_no A1 c1 z1.length (1048576) _ hk1 (by omega) hc1 hm1).mono ?_
    rintro e w9 ⟨rfl, rfl⟩
    go_wp2
    go_ret
    exact ⟨rfl, Below.refl _ _⟩
  exact exPlanEnds_in s0 A1 c1 z1 A2 c2 z2 w (ha1.arg (by omega)) (ha2.arg (by omega)) (by omega) (by omega) (by omega) hT

set_option maxRecDepth 100000 in
theorem exPlanEnds_lifted (os : Os) (started : os.Started) (H : Type) (enc : TypeId × Value → H) :
    ReturnsInHanded {} Tryd.checked os 12 .any (fun w args => (Rows.fnExactPlanEndsSpec.pre enc Tryd.prog Tryd.f12 [] false w args ∧ laidMetH Tryd.prog Rows.fnExactPlanEndsRow.laid w) ∧ sizedMet enc Tryd.prog Tryd.f12 (OpenSpec.ofChange Rows.fnExactPlanEndsSpec) false w args)
      (Rows.fnExactPlanEndsSpec.post enc Tryd.prog Tryd.f12 false true false false) := by
  refine returnsInHanded_of_change_and (C := Tryd.checked) (X := fun w _ => laidMetH Tryd.prog Rows.fnExactPlanEndsRow.laid w) (fun _ _ _ hh h => h.of_heap hh) row_own started (by kernel_rfl) Tryd.func12
    (ChangeSpec.witness_shaped (enc := enc) (C := Tryd.checked) (os := os) (X := fun w _ => laidMetH Tryd.prog Rows.fnExactPlanEndsRow.laid w) false (World.doorLaid Tryd.prog 4000 os) #[.string ⟨#[]⟩, .slice none 0 0, .slice none 0 0] 8 rfl (door_shaped os _) (by kernel_rfl) (by kernel_rfl) (by kernel_rfl) (door_laid os _)) ?_
  intro W base args ds gs before hval0 hW hcnd _ hlaid _
  have hval : ∀ (j : Nat) t v, Tryd.f12.params[j]? = some t → args[j]? = some v → Value.okWide Tryd.prog W .any base t v := hval0
  have hW' := hW
  obtain ⟨p, q, hA0, hV, rfl, _, _⟩ := hW
  have hA : DataW.TrodAll enc Tryd.prog W 0 (fun _ => true) true Tryd.f12.params.toList args.toList ds p := hA0
  rw [Tryd.params12] at hA hval
  obtain ⟨v0, vs0, d0, ds0, p0, q0, hargs, rfl, rfl, h0, r0⟩ := trodAll_cons hA
  obtain ⟨v1, vs1, d1, ds1, p1, q1, rfl, rfl, rfl, h1, r1⟩ := trodAll_cons r0
  obtain ⟨v2, vs2, d2, ds2, p2, q2, rfl, rfl, rfl, h2, r2⟩ := trodAll_cons r1
  obtain ⟨rfl, rfl, rfl⟩ := trodAll_nil r2
  obtain rfl : args = #[v0, v1, v2] := by cases args; simp_all
  obtain ⟨rfl, rfl⟩ := trodVars_none hV
  obtain ⟨s0, rfl, rfl, rfl, ws0⟩ := open_string Tryd.underlying9 (hval 0 9 v0 rfl rfl) h0
  have hlt1 : ∀ x ∈ p1, x.block < W.heap.size := fun x hx => by exact hW'.lt x (by simp [hx])
  obtain ⟨A1, c1, z1, rfl, ha1⟩ := open_jbss (hval 1 45 v1 rfl rfl) h1 hlt1
  have hlt2 : ∀ x ∈ p2, x.block < W.heap.size := fun x hx => by exact hW'.lt x (by simp [hx])
  obtain ⟨A2, c2, z2, rfl, ha2⟩ := open_slice (hval 2 31 v2 rfl rfl) h2 hlt2
  clear hA0 hval0
  refine (exPlanEnds_walk s0 A1 c1 z1 A2 c2 z2 W ha1 ha2 (tab_of hlaid)).mono fun e W' ⟨he, hb⟩ => ?_
  subst he
  exact ⟨_, rfl, _, _, _, [], _, [], hW', (trodAll_cons_mk (shut_bool Tryd.underlying4 _) trodAll_mk0), (trodAll_cons_mk (shut_string Tryd.underlying9 ws0) (trodAll_cons_mk (read_again_jbss h1 hlt1 hb) (trodAll_cons_mk (read_again h2 hlt2 hb) trodAll_mk0))), rfl, hb.frame _, fun h => by cases h⟩

set_option maxRecDepth 100000 in
theorem exPlanEnds_closed : joinedFacts Tryd.prog 12 Tryd.f12 Rows.fnExactPlanEndsSpec Rows.fnExactPlanEndsRow = true := by
  unfold joinedFacts
  repeat' (with_reducible apply facAnd)
  all_goals first | (with_reducible exact facEnter) | (with_reducible exact facLaid) | (with_reducible exact facMaps) | (with_reducible exact facStops) | (with_reducible exact facKnobs) | (with_reducible exact facHeard) | (rw [facLifts]; as_aux_lemma => kernel_rfl) | (rw [facMake]; as_aux_lemma => kernel_rfl) | (as_aux_lemma => kernel_rfl)

/-- the bare row -/
theorem exPlanEnds_row : Rows.FnExactPlanEndsSaid :=
  OpenClaim.holds_of_wide 12 Tryd.f12 rfl rfl rfl rfl rfl rfl rfl ⟨rfl, rfl, rfl, rfl, rfl⟩ rfl rfl rfl rfl rfl (by kernel_rfl) Tryd.func12 exPlanEnds_closed
    (of_decide_eq_true (by kernel_rfl)) (by unfold Func.isWrapper; first | (rw [if_pos (by decide +kernel)]; kernel_rfl) | (rw [if_neg (by decide +kernel)]; exact ⟨rfl, rfl⟩))
    (fun os started H enc _ => exPlanEnds_lifted os started H enc)

/-- THE STATEMENT: the card -/
theorem exPlanEnds_holds : Rows.FnExactPlanEndsCardSaid :=
  Claim7.holds_tied_plain_at .later [] [.data] true Rows.fnExactPlanEndsCard.stood.harness false
    exPlanEnds_row (fun _ h => by cases h) (by kernel_rfl) (fun _ h => by cases h) fnExactPlanEnds_row_tie rfl ⟨rfl, rfl⟩ door_main rfl
    (fun f fn hf hfn => by
      obtain rfl : f = 12 := Option.some.inj ((show Tryd.prog.funcNamed Rows.fnExactPlanEndsRow.func = some 12 by kernel_rfl).symm.trans hf) |>.symm
      obtain rfl : fn = Tryd.f12 := (Option.some.inj (Tryd.func12.symm.trans hfn)).symm
      exact ⟨door_looks, fun j t ht => by
        rw [Tryd.params12] at ht
        have hm : t ∈ [9, 45, 31] := by simpa using Array.mem_of_getElem? ht
        have hall : ([9, 45, 31].all fun u => !Tryd.prog.wantsStandIn u) = true := by kernel_rfl
        exact (show Tryd.prog.wantsStandIn t = false by simpa using List.all_eq_true.1 hall t hm)⟩)
    (by kernel_rfl)
#print axioms exPlanEnds_holds
end Go.Proofs.YtbcgglkgdjafiaaDoor
