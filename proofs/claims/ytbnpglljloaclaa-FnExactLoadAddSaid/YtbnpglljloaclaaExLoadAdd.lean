/-
  The exact law of LoadAdd: for all arguments the law answers true. No condition.
  (Written by a program of mine, gen7.py.)
-/
import Derived.Test.YtbnpglljloaclaaBaseL
import Derived.Test.YtbnpglljloaclaaBaseLD
import Derived.Test.YtbnpglljloaclaaRowL
import Derived.Test.YtbnpglljloaclaaBase
import Derived.Test.YtbnpglljloaclaaRow
import Derived.ChangeMaps5
import Derived.Test.YtbnpglljloaclaaFac
import Derived.Test.YtbnpglljloaclaaTfI
import Derived.Test.YtbnpglljloaclaaTfIs
namespace Go.Proofs.Ytbnpglljloaclaa
open Go.ChangeShapes Go.WideShapes Go.ChangeAt Go.RowKit Go.ChangeMaps

set_option maxRecDepth 100000 in
set_option maxHeartbeats 2000000 in
theorem exLoadAdd_in (n0 : Int) (A1 : Option Addr) (c1 : Nat) (z1 : List Lin) (n2 : Int) (n3 : Int) (A4 : Option Addr) (c4 : Nat) (z4 : List Int) (A5 : Option Addr) (c5 : Nat) (z5 : List Int) (w : World) (ha1 : ArgL w A1 c1 z1) (ha4 : Arg w A4 c4 z4) (ha5 : Arg w A5 c5 z5) (hl4 : z4.length ≤ 1048576) (hl5 : z5.length ≤ 1048576) (hl : z1.length ≤ 1048576) :
    Calls Try.prog 17 #[.int .i64 n0, .slice A1 z1.length c1, .int .i64 n2, .int .i64 n3, .slice A4 z4.length c4, .slice A5 z5.length c5] w (RetB (.bool true) w) := by
  have Ha1 := Lib.hid ha1.held
  clear ha1
  have Ha4 := Lib.hid ha4.held
  clear ha4
  have Ha5 := Lib.hid ha5.held
  clear ha5
  have gN4 : (z4.length : Int) ≤ 1048576 := by omega
  have gN5 : (z5.length : Int) ≤ 1048576 := by omega
  have Bt := Lib.hid (Below.refl w.heap.size w)
  go_enter Try.func17, Try.ntmps17
  go_wp2_with fail
  refine (szLineS_yes A1 c1 z1.length (1048576) _ (by omega) (by omega)).mono ?_
  rintro e w9 ⟨rfl, rfl⟩
  go_wp2_with fail
  refine (toLineS_c A1 c1 z1 _ Ha1.out.arg).mono ?_
  rintro e u1 ⟨B1, d1, rfl, ra1, ro1, rb1⟩
  dsimp only [id]
  have sz1 := rb1.size
  replace Ha1 := Lib.hid (Ha1.out.go rb1)
  replace Ha4 := Lib.hid (Ha4.out.go rb1)
  replace Ha5 := Lib.hid (Ha5.out.go rb1)
  replace Bt := Lib.hid (below_step Bt.out rb1)
  have Hx1 := Lib.hid (ro1.held (Nat.le_refl _) ra1.len)
  have Ox1 := Lib.hid ro1
  clear ra1 ro1 rb1
  go_wp2_with fail
  refine (toIntS_c A4 c4 z4 _ Ha4.out.arg).mono ?_
  rintro e u2 ⟨B2, d2, rfl, ra2, ro2, rb2⟩
  dsimp only [id]
  have sz2 := rb2.size
  replace Ha1 := Lib.hid (Ha1.out.go rb2)
  replace Ha4 := Lib.hid (Ha4.out.go rb2)
  replace Ha5 := Lib.hid (Ha5.out.go rb2)
  replace Hx1 := Lib.hid (Hx1.out.go rb2)
  replace Ox1 := Lib.hid (Ox1.out.go rb2 (by omega))
  replace Bt := Lib.hid (below_step Bt.out rb2)
  have Hx2 := Lib.hid (ro2.held (Nat.le_refl _) ra2.len)
  have Ox2 := Lib.hid ro2
  clear ra2 ro2 rb2
  go_wp2_with fail
  refine (toIntS_c A5 c5 z5 _ Ha5.out.arg).mono ?_
  rintro e u3 ⟨B3, d3, rfl, ra3, ro3, rb3⟩
  dsimp only [id]
  have sz3 := rb3.size
  replace Ha1 := Lib.hid (Ha1.out.go rb3)
  replace Ha4 := Lib.hid (Ha4.out.go rb3)
  replace Ha5 := Lib.hid (Ha5.out.go rb3)
  replace Hx1 := Lib.hid (Hx1.out.go rb3)
  replace Hx2 := Lib.hid (Hx2.out.go rb3)
  replace Ox1 := Lib.hid (Ox1.out.go rb3 (by omega))
  replace Ox2 := Lib.hid (Ox2.out.go rb3 (by omega))
  replace Bt := Lib.hid (below_step Bt.out rb3)
  have Hx3 := Lib.hid (ro3.held (Nat.le_refl _) ra3.len)
  have Ox3 := Lib.hid ro3
  clear ra3 ro3 rb3
  go_wp2_with fail
  refine (specLoadAdd_b _ _ _ _ _ _ _ _ _ _ _ _ _  Hx1.out.arg Hx2.out.arg Hx3.out.arg).mono ?_
  rintro e u4 ⟨B4, d4, rfl, ra4, ro4, rb4⟩
  dsimp only
  have sz4 := rb4.size
  replace Ha1 := Lib.hid (Ha1.out.go rb4)
  replace Ha4 := Lib.hid (Ha4.out.go rb4)
  replace Ha5 := Lib.hid (Ha5.out.go rb4)
  replace Hx1 := Lib.hid (Hx1.out.go rb4)
  replace Hx2 := Lib.hid (Hx2.out.go rb4)
  replace Hx3 := Lib.hid (Hx3.out.go rb4)
  replace Ox1 := Lib.hid (Ox1.out.go rb4 (by omega))
  replace Ox2 := Lib.hid (Ox2.out.go rb4 (by omega))
  replace Ox3 := Lib.hid (Ox3.out.go rb4 (by omega))
  replace Bt := Lib.hid (below_step Bt.out rb4)
  have Hx4 := Lib.hid (ro4.held (Nat.le_refl _) ra4.len)
  have Ox4 := Lib.hid ro4
  clear ra4 ro4 rb4
  clear Hx1 Ox1
  clear Hx2 Ox2
  clear Hx3 Ox3
  go_wp2_with fail
  refine (toLineS_c A1 c1 z1 _ Ha1.out.arg).mono ?_
  rintro e u5 ⟨B5, d5, rfl, ra5, ro5, rb5⟩
  dsimp only [id]
  have sz5 := rb5.size
  replace Ha1 := Lib.hid (Ha1.out.go rb5)
  replace Ha4 := Lib.hid (Ha4.out.go rb5)
  replace Ha5 := Lib.hid (Ha5.out.go rb5)
  replace Hx4 := Lib.hid (Hx4.out.go rb5)
  replace Ox4 := Lib.hid (Ox4.out.go rb5 (by omega))
  replace Bt := Lib.hid (below_step Bt.out rb5)
  have Hx5 := Lib.hid (ro5.held (Nat.le_refl _) ra5.len)
  have Ox5 := Lib.hid ro5
  clear ra5 ro5 rb5
  go_wp2_with fail
  refine (toIntS_c A4 c4 z4 _ Ha4.out.arg).mono ?_
  rintro e u6 ⟨B6, d6, rfl, ra6, ro6, rb6⟩
  dsimp only [id]
  have sz6 := rb6.size
  replace Ha1 := Lib.hid (Ha1.out.go rb6)
  replace Ha4 := Lib.hid (Ha4.out.go rb6)
  replace Ha5 := Lib.hid (Ha5.out.go rb6)
  replace Hx4 := Lib.hid (Hx4.out.go rb6)
  replace Hx5 := Lib.hid (Hx5.out.go rb6)
  replace Ox4 := Lib.hid (Ox4.out.go rb6 (by omega))
  replace Ox5 := Lib.hid (Ox5.out.go rb6 (by omega))
  replace Bt := Lib.hid (below_step Bt.out rb6)
  have Hx6 := Lib.hid (ro6.held (Nat.le_refl _) ra6.len)
  have Ox6 := Lib.hid ro6
  clear ra6 ro6 rb6
  go_wp2_with fail
  refine (toIntS_c A5 c5 z5 _ Ha5.out.arg).mono ?_
  rintro e u7 ⟨B7, d7, rfl, ra7, ro7, rb7⟩
  dsimp only [id]
  have sz7 := rb7.size
  replace Ha1 := Lib.hid (Ha1.out.go rb7)
  replace Ha4 := Lib.hid (Ha4.out.go rb7)
  replace Ha5 := Lib.hid (Ha5.out.go rb7)
  replace Hx4 := Lib.hid (Hx4.out.go rb7)
  replace Hx5 := Lib.hid (Hx5.out.go rb7)
  replace Hx6 := Lib.hid (Hx6.out.go rb7)
  replace Ox4 := Lib.hid (Ox4.out.go rb7 (by omega))
  replace Ox5 := Lib.hid (Ox5.out.go rb7 (by omega))
  replace Ox6 := Lib.hid (Ox6.out.go rb7 (by omega))
  replace Bt := Lib.hid (below_step Bt.out rb7)
  have Hx7 := Lib.hid (ro7.held (Nat.le_refl _) ra7.len)
  have Ox7 := Lib.hid ro7
  clear ra7 ro7 rb7
  go_wp2_with fail
  refine (implLoadAdd_b _ _ _ _ _ _ _ _ _ _ _ _ _  Hx5.out.arg Hx6.out.arg Hx7.out.arg).mono ?_
  rintro e u8 ⟨B8, d8, rfl, ra8, ro8, rb8⟩
  dsimp only
  have sz8 := rb8.size
  replace Ha1 := Lib.hid (Ha1.out.go rb8)
  replace Ha4 := Lib.hid (Ha4.out.go rb8)
  replace Ha5 := Lib.hid (Ha5.out.go rb8)
  replace Hx4 := Lib.hid (Hx4.out.go rb8)
  replace Hx5 := Lib.hid (Hx5.out.go rb8)
  replace Hx6 := Lib.hid (Hx6.out.go rb8)
  replace Hx7 := Lib.hid (Hx7.out.go rb8)
  replace Ox4 := Lib.hid (Ox4.out.go rb8 (by omega))
  replace Ox5 := Lib.hid (Ox5.out.go rb8 (by omega))
  replace Ox6 := Lib.hid (Ox6.out.go rb8 (by omega))
  replace Ox7 := Lib.hid (Ox7.out.go rb8 (by omega))
  replace Bt := Lib.hid (below_step Bt.out rb8)
  have Hx8 := Lib.hid (ro8.held (Nat.le_refl _) ra8.len)
  have Ox8 := Lib.hid ro8
  clear ra8 ro8 rb8
  have hlr0 : List.length (addV n0 z1 n2 n3 z4 z5) ≤ 2097152 := Hx8.out.arg.len
  go_wp2_with fail
  refine (eqIntS_c B8 B4 d8 d4 (addV n0 z1 n2 n3 z4 z5) (addV n0 z1 n2 n3 z4 z5) _ Hx8.out.arg Hx4.out.arg).mono ?_
  intro e0 v0 h0
  replace h0 := h0.toB
  revert e0 v0 h0
  rintro e u9 ⟨rfl, rb9⟩
  have sz9 := rb9.size
  replace Ha1 := Lib.hid (Ha1.out.go rb9)
  replace Ha4 := Lib.hid (Ha4.out.go rb9)
  replace Ha5 := Lib.hid (Ha5.out.go rb9)
  replace Hx4 := Lib.hid (Hx4.out.go rb9)
  replace Hx5 := Lib.hid (Hx5.out.go rb9)
  replace Hx6 := Lib.hid (Hx6.out.go rb9)
  replace Hx7 := Lib.hid (Hx7.out.go rb9)
  replace Hx8 := Lib.hid (Hx8.out.go rb9)
  replace Ox4 := Lib.hid (Ox4.out.go rb9 (by omega))
  replace Ox5 := Lib.hid (Ox5.out.go rb9 (by omega))
  replace Ox6 := Lib.hid (Ox6.out.go rb9 (by omega))
  replace Ox7 := Lib.hid (Ox7.out.go rb9 (by omega))
  replace Ox8 := Lib.hid (Ox8.out.go rb9 (by omega))
  replace Bt := Lib.hid (below_step Bt.out rb9)
  clear rb9
  go_wp2_with fail
  refine (toLineS_c A1 c1 z1 _ Ha1.out.arg).mono ?_
  rintro e u10 ⟨B10, d10, rfl, ra10, ro10, rb10⟩
  dsimp only [id]
  have sz10 := rb10.size
  replace Ha1 := Lib.hid (Ha1.out.go rb10)
  replace Ha4 := Lib.hid (Ha4.out.go rb10)
  replace Ha5 := Lib.hid (Ha5.out.go rb10)
  replace Hx4 := Lib.hid (Hx4.out.go rb10)
  replace Hx5 := Lib.hid (Hx5.out.go rb10)
  replace Hx6 := Lib.hid (Hx6.out.go rb10)
  replace Hx7 := Lib.hid (Hx7.out.go rb10)
  replace Hx8 := Lib.hid (Hx8.out.go rb10)
  replace Ox4 := Lib.hid (Ox4.out.go rb10 (by omega))
  replace Ox5 := Lib.hid (Ox5.out.go rb10 (by omega))
  replace Ox6 := Lib.hid (Ox6.out.go rb10 (by omega))
  replace Ox7 := Lib.hid (Ox7.out.go rb10 (by omega))
  replace Ox8 := Lib.hid (Ox8.out.go rb10 (by omega))
  replace Bt := Lib.hid (below_step Bt.out rb10)
  have Hx10 := Lib.hid (ro10.held (Nat.le_refl _) ra10.len)
  have Ox10 := Lib.hid ro10
  clear ra10 ro10 rb10
  go_wp2_with fail
  refine (eqLineS_c B5 B10 d5 d10 z1 z1 _ Hx5.out.arg Hx10.out.arg).mono ?_
  rintro e u11 ⟨rfl, rb11⟩
  have sz11 := rb11.size
  replace Ha1 := Lib.hid (Ha1.out.go rb11)
  replace Ha4 := Lib.hid (Ha4.out.go rb11)
  replace Ha5 := Lib.hid (Ha5.out.go rb11)
  replace Hx4 := Lib.hid (Hx4.out.go rb11)
  replace Hx5 := Lib.hid (Hx5.out.go rb11)
  replace Hx6 := Lib.hid (Hx6.out.go rb11)
  replace Hx7 := Lib.hid (Hx7.out.go rb11)
  replace Hx8 := Lib.hid (Hx8.out.go rb11)
  replace Hx10 := Lib.hid (Hx10.out.go rb11)
  replace Ox4 := Lib.hid (Ox4.out.go rb11 (by omega))
  replace Ox5 := Lib.hid (Ox5.out.go rb11 (by omega))
  replace Ox6 := Lib.hid (Ox6.out.go rb11 (by omega))
  replace Ox7 := Lib.hid (Ox7.out.go rb11 (by omega))
  replace Ox8 := Lib.hid (Ox8.out.go rb11 (by omega))
  replace Ox10 := Lib.hid (Ox10.out.go rb11 (by omega))
  replace Bt := Lib.hid (below_step Bt.out rb11)
  clear rb11
  clear Hx10 Ox10
  go_wp2_with fail
  refine (toIntS_c A4 c4 z4 _ Ha4.out.arg).mono ?_
  rintro e u12 ⟨B12, d12, rfl, ra12, ro12, rb12⟩
  dsimp only [id]
  have sz12 := rb12.size
  replace Ha1 := Lib.hid (Ha1.out.go rb12)
  replace Ha4 := Lib.hid (Ha4.out.go rb12)
  replace Ha5 := Lib.hid (Ha5.out.go rb12)
  replace Hx4 := Lib.hid (Hx4.out.go rb12)
  replace Hx5 := Lib.hid (Hx5.out.go rb12)
  replace Hx6 := Lib.hid (Hx6.out.go rb12)
  replace Hx7 := Lib.hid (Hx7.out.go rb12)
  replace Hx8 := Lib.hid (Hx8.out.go rb12)
  replace Ox4 := Lib.hid (Ox4.out.go rb12 (by omega))
  replace Ox5 := Lib.hid (Ox5.out.go rb12 (by omega))
  replace Ox6 := Lib.hid (Ox6.out.go rb12 (by omega))
  replace Ox7 := Lib.hid (Ox7.out.go rb12 (by omega))
  replace Ox8 := Lib.hid (Ox8.out.go rb12 (by omega))
  replace Bt := Lib.hid (below_step Bt.out rb12)
  have Hx12 := Lib.hid (ro12.held (Nat.le_refl _) ra12.len)
  have Ox12 := Lib.hid ro12
  clear ra12 ro12 rb12
  go_wp2_with fail
  refine (eqIntS_c B6 B12 d6 d12 z4 z4 _ Hx6.out.arg Hx12.out.arg).mono ?_
  intro e0 v0 h0
  replace h0 := h0.toB
  revert e0 v0 h0
  rintro e u13 ⟨rfl, rb13⟩
  have sz13 := rb13.size
  replace Ha1 := Lib.hid (Ha1.out.go rb13)
  replace Ha4 := Lib.hid (Ha4.out.go rb13)
  replace Ha5 := Lib.hid (Ha5.out.go rb13)
  replace Hx4 := Lib.hid (Hx4.out.go rb13)
  replace Hx5 := Lib.hid (Hx5.out.go rb13)
  replace Hx6 := Lib.hid (Hx6.out.go rb13)
  replace Hx7 := Lib.hid (Hx7.out.go rb13)
  replace Hx8 := Lib.hid (Hx8.out.go rb13)
  replace Hx12 := Lib.hid (Hx12.out.go rb13)
  replace Ox4 := Lib.hid (Ox4.out.go rb13 (by omega))
  replace Ox5 := Lib.hid (Ox5.out.go rb13 (by omega))
  replace Ox6 := Lib.hid (Ox6.out.go rb13 (by omega))
  replace Ox7 := Lib.hid (Ox7.out.go rb13 (by omega))
  replace Ox8 := Lib.hid (Ox8.out.go rb13 (by omega))
  replace Ox12 := Lib.hid (Ox12.out.go rb13 (by omega))
  replace Bt := Lib.hid (below_step Bt.out rb13)
  clear rb13
  clear Hx12 Ox12
  go_wp2_with fail
  refine (toIntS_c A5 c5 z5 _ Ha5.out.arg).mono ?_
  rintro e u14 ⟨B14, d14, rfl, ra14, ro14, rb14⟩
  dsimp only [id]
  have sz14 := rb14.size
  replace Ha1 := Lib.hid (Ha1.out.go rb14)
  replace Ha4 := Lib.hid (Ha4.out.go rb14)
  replace Ha5 := Lib.hid (Ha5.out.go rb14)
  replace Hx4 := Lib.hid (Hx4.out.go rb14)
  replace Hx5 := Lib.hid (Hx5.out.go rb14)
  replace Hx6 := Lib.hid (Hx6.out.go rb14)
  replace Hx7 := Lib.hid (Hx7.out.go rb14)
  replace Hx8 := Lib.hid (Hx8.out.go rb14)
  replace Ox4 := Lib.hid (Ox4.out.go rb14 (by omega))
  replace Ox5 := Lib.hid (Ox5.out.go rb14 (by omega))
  replace Ox6 := Lib.hid (Ox6.out.go rb14 (by omega))
  replace Ox7 := Lib.hid (Ox7.out.go rb14 (by omega))
  replace Ox8 := Lib.hid (Ox8.out.go rb14 (by omega))
  replace Bt := Lib.hid (below_step Bt.out rb14)
  have Hx14 := Lib.hid (ro14.held (Nat.le_refl _) ra14.len)
  have Ox14 := Lib.hid ro14
  clear ra14 ro14 rb14
  go_wp2_with fail
  refine (eqIntS_c B7 B14 d7 d14 z5 z5 _ Hx7.out.arg Hx14.out.arg).mono ?_
  intro e0 v0 h0
  replace h0 := h0.toB
  revert e0 v0 h0
  rintro e u15 ⟨rfl, rb15⟩
  have sz15 := rb15.size
  replace Ha1 := Lib.hid (Ha1.out.go rb15)
  replace Ha4 := Lib.hid (Ha4.out.go rb15)
  replace Ha5 := Lib.hid (Ha5.out.go rb15)
  replace Hx4 := Lib.hid (Hx4.out.go rb15)
  replace Hx5 := Lib.hid (Hx5.out.go rb15)
  replace Hx6 := Lib.hid (Hx6.out.go rb15)
  replace Hx7 := Lib.hid (Hx7.out.go rb15)
  replace Hx8 := Lib.hid (Hx8.out.go rb15)
  replace Hx14 := Lib.hid (Hx14.out.go rb15)
  replace Ox4 := Lib.hid (Ox4.out.go rb15 (by omega))
  replace Ox5 := Lib.hid (Ox5.out.go rb15 (by omega))
  replace Ox6 := Lib.hid (Ox6.out.go rb15 (by omega))
  replace Ox7 := Lib.hid (Ox7.out.go rb15 (by omega))
  replace Ox8 := Lib.hid (Ox8.out.go rb15 (by omega))
  replace Ox14 := Lib.hid (Ox14.out.go rb15 (by omega))
  replace Bt := Lib.hid (below_step Bt.out rb15)
  clear rb15
  clear Hx14 Ox14
  go_wp2_with fail
  refine (markLineS_c B5 d5 z1 1 _ _ _ Hx5.out.arg.len (by omega) (by omega) Ox5.out).mono ?_
  rintro e u16 ⟨rfl, rg16, ro16⟩
  have sz16 := rg16.size
  have rr16 := Ox5.out.range
  replace Ha1 := Lib.hid (Ha1.out.grown rg16 (fun r e => by have := rr16 r e; omega))
  replace Ha4 := Lib.hid (Ha4.out.grown rg16 (fun r e => by have := rr16 r e; omega))
  replace Ha5 := Lib.hid (Ha5.out.grown rg16 (fun r e => by have := rr16 r e; omega))
  replace Hx4 := Lib.hid (Hx4.out.grown rg16 (fun r e => by have := rr16 r e; omega))
  replace Hx6 := Lib.hid (Hx6.out.grown rg16 (fun r e => by have := rr16 r e; omega))
  replace Hx7 := Lib.hid (Hx7.out.grown rg16 (fun r e => by have := rr16 r e; omega))
  replace Hx8 := Lib.hid (Hx8.out.grown rg16 (fun r e => by have := rr16 r e; omega))
  replace Ox4 := Lib.hid (Ox4.out.kept rg16 (fun r e => by have := rr16 r e; omega))
  replace Ox6 := Lib.hid (Ox6.out.kept rg16 (fun r e => by have := rr16 r e; omega))
  replace Ox7 := Lib.hid (Ox7.out.kept rg16 (fun r e => by have := rr16 r e; omega))
  replace Ox8 := Lib.hid (Ox8.out.kept rg16 (fun r e => by have := rr16 r e; omega))
  replace Bt := Lib.hid (below_row Bt.out rg16 (fun r e => by have := rr16 r e; omega))
  replace Ox5 := Lib.hid ro16
  replace Hx5 := Lib.hid ((owL_marks Ox5.out).held (by have := Hx5.out.2.1; omega) (by rw [marksL_length]; exact Hx5.out.arg.len))
  clear ro16 rg16 rr16
  go_wp2_with fail
  refine (markIntS_c B6 d6 z4 (1 + 3 * (List.length z1 : Int)) _ _ _ Hx6.out.arg.len (by omega) (by omega) Ox6.out).mono ?_
  rintro e u17 ⟨rfl, rg17, ro17⟩
  have sz17 := rg17.size
  have rr17 := Ox6.out.range
  replace Ha1 := Lib.hid (Ha1.out.grown rg17 (fun r e => by have := rr17 r e; omega))
  replace Ha4 := Lib.hid (Ha4.out.grown rg17 (fun r e => by have := rr17 r e; omega))
  replace Ha5 := Lib.hid (Ha5.out.grown rg17 (fun r e => by have := rr17 r e; omega))
  replace Hx4 := Lib.hid (Hx4.out.grown rg17 (fun r e => by have := rr17 r e; omega))
  replace Hx5 := Lib.hid (Hx5.out.grown rg17 (fun r e => by have := rr17 r e; omega))
  replace Hx7 := Lib.hid (Hx7.out.grown rg17 (fun r e => by have := rr17 r e; omega))
  replace Hx8 := Lib.hid (Hx8.out.grown rg17 (fun r e => by have := rr17 r e; omega))
  replace Ox4 := Lib.hid (Ox4.out.kept rg17 (fun r e => by have := rr17 r e; omega))
  replace Ox5 := Lib.hid (Ox5.out.kept rg17 (fun r e => by have := rr17 r e; omega))
  replace Ox7 := Lib.hid (Ox7.out.kept rg17 (fun r e => by have := rr17 r e; omega))
  replace Ox8 := Lib.hid (Ox8.out.kept rg17 (fun r e => by have := rr17 r e; omega))
  replace Bt := Lib.hid (below_row Bt.out rg17 (fun r e => by have := rr17 r e; omega))
  replace Ox6 := Lib.hid ro17
  replace Hx6 := Lib.hid ((ow_marks Ox6.out).held (by have := Hx6.out.2.1; omega) (by rw [marks_length]; exact Hx6.out.arg.len))
  clear ro17 rg17 rr17
  go_wp2_with fail
  refine (markIntS_c B7 d7 z5 ((1 + 3 * (List.length z1 : Int)) + (List.length z4 : Int)) _ _ _ Hx7.out.arg.len (by omega) (by omega) Ox7.out).mono ?_
  rintro e u18 ⟨rfl, rg18, ro18⟩
  have sz18 := rg18.size
  have rr18 := Ox7.out.range
  replace Ha1 := Lib.hid (Ha1.out.grown rg18 (fun r e => by have := rr18 r e; omega))
  replace Ha4 := Lib.hid (Ha4.out.grown rg18 (fun r e => by have := rr18 r e; omega))
  replace Ha5 := Lib.hid (Ha5.out.grown rg18 (fun r e => by have := rr18 r e; omega))
  replace Hx4 := Lib.hid (Hx4.out.grown rg18 (fun r e => by have := rr18 r e; omega))
  replace Hx5 := Lib.hid (Hx5.out.grown rg18 (fun r e => by have := rr18 r e; omega))
  replace Hx6 := Lib.hid (Hx6.out.grown rg18 (fun r e => by have := rr18 r e; omega))
  replace Hx8 := Lib.hid (Hx8.out.grown rg18 (fun r e => by have := rr18 r e; omega))
  replace Ox4 := Lib.hid (Ox4.out.kept rg18 (fun r e => by have := rr18 r e; omega))
  replace Ox5 := Lib.hid (Ox5.out.kept rg18 (fun r e => by have := rr18 r e; omega))
  replace Ox6 := Lib.hid (Ox6.out.kept rg18 (fun r e => by have := rr18 r e; omega))
  replace Ox8 := Lib.hid (Ox8.out.kept rg18 (fun r e => by have := rr18 r e; omega))
  replace Bt := Lib.hid (below_row Bt.out rg18 (fun r e => by have := rr18 r e; omega))
  replace Ox7 := Lib.hid ro18
  replace Hx7 := Lib.hid ((ow_marks Ox7.out).held (by have := Hx7.out.2.1; omega) (by rw [marks_length]; exact Hx7.out.arg.len))
  clear ro18 rg18 rr18
  go_wp2_with fail
  refine (eqIntS_c B8 B4 d8 d4 (addV n0 z1 n2 n3 z4 z5) (addV n0 z1 n2 n3 z4 z5) _ Hx8.out.arg Hx4.out.arg).mono ?_
  intro e0 v0 h0
  replace h0 := h0.toB
  revert e0 v0 h0
  rintro e u19 ⟨rfl, rb19⟩
  have sz19 := rb19.size
  replace Ha1 := Lib.hid (Ha1.out.go rb19)
  replace Ha4 := Lib.hid (Ha4.out.go rb19)
  replace Ha5 := Lib.hid (Ha5.out.go rb19)
  replace Hx4 := Lib.hid (Hx4.out.go rb19)
  replace Hx5 := Lib.hid (Hx5.out.go rb19)
  replace Hx6 := Lib.hid (Hx6.out.go rb19)
  replace Hx7 := Lib.hid (Hx7.out.go rb19)
  replace Hx8 := Lib.hid (Hx8.out.go rb19)
  replace Ox4 := Lib.hid (Ox4.out.go rb19 (by omega))
  replace Ox5 := Lib.hid (Ox5.out.go rb19 (by omega))
  replace Ox6 := Lib.hid (Ox6.out.go rb19 (by omega))
  replace Ox7 := Lib.hid (Ox7.out.go rb19 (by omega))
  replace Ox8 := Lib.hid (Ox8.out.go rb19 (by omega))
  replace Bt := Lib.hid (below_step Bt.out rb19)
  clear rb19
  clear Hx5 Ox5
  clear Hx6 Ox6
  clear Hx7 Ox7
  go_wp2_with fail
  refine (markIntS_c B8 d8 (addV n0 z1 n2 n3 z4 z5) 1 _ _ _ Hx8.out.arg.len (by omega) (by omega) Ox8.out).mono ?_
  rintro e u20 ⟨rfl, rg20, ro20⟩
  have sz20 := rg20.size
  have rr20 := Ox8.out.range
  replace Ha1 := Lib.hid (Ha1.out.grown rg20 (fun r e => by have := rr20 r e; omega))
  replace Ha4 := Lib.hid (Ha4.out.grown rg20 (fun r e => by have := rr20 r e; omega))
  replace Ha5 := Lib.hid (Ha5.out.grown rg20 (fun r e => by have := rr20 r e; omega))
  replace Hx4 := Lib.hid (Hx4.out.grown rg20 (fun r e => by have := rr20 r e; omega))
  replace Ox4 := Lib.hid (Ox4.out.kept rg20 (fun r e => by have := rr20 r e; omega))
  replace Bt := Lib.hid (below_row Bt.out rg20 (fun r e => by have := rr20 r e; omega))
  replace Ox8 := Lib.hid ro20
  replace Hx8 := Lib.hid ((ow_marks Ox8.out).held (by have := Hx8.out.2.1; omega) (by rw [marks_length]; exact Hx8.out.arg.len))
  clear ro20 rg20 rr20
  go_wp2_with fail
  refine (heldIntS_c B8 d8 (List.length (addV n0 z1 n2 n3 z4 z5)) 1 _ (by omega) (by omega) Hx8.out.arg).mono ?_
  rintro e w9 ⟨rfl, rfl⟩
  go_wp2_with fail
  refine (toLineS_c A1 c1 z1 _ Ha1.out.arg).mono ?_
  rintro e u21 ⟨B21, d21, rfl, ra21, ro21, rb21⟩
  dsimp only [id]
  have sz21 := rb21.size
  replace Ha1 := Lib.hid (Ha1.out.go rb21)
  replace Ha4 := Lib.hid (Ha4.out.go rb21)
  replace Ha5 := Lib.hid (Ha5.out.go rb21)
  replace Hx4 := Lib.hid (Hx4.out.go rb21)
  replace Hx8 := Lib.hid (Hx8.out.go rb21)
  replace Ox4 := Lib.hid (Ox4.out.go rb21 (by omega))
  replace Ox8 := Lib.hid (Ox8.out.go rb21 (by omega))
  replace Bt := Lib.hid (below_step Bt.out rb21)
  have Hx21 := Lib.hid (ro21.held (Nat.le_refl _) ra21.len)
  have Ox21 := Lib.hid ro21
  clear ra21 ro21 rb21
  go_wp2_with fail
  refine (toIntS_c A4 c4 z4 _ Ha4.out.arg).mono ?_
  rintro e u22 ⟨B22, d22, rfl, ra22, ro22, rb22⟩
  dsimp only [id]
  have sz22 := rb22.size
  replace Ha1 := Lib.hid (Ha1.out.go rb22)
  replace Ha4 := Lib.hid (Ha4.out.go rb22)
  replace Ha5 := Lib.hid (Ha5.out.go rb22)
  replace Hx4 := Lib.hid (Hx4.out.go rb22)
  replace Hx8 := Lib.hid (Hx8.out.go rb22)
  replace Hx21 := Lib.hid (Hx21.out.go rb22)
  replace Ox4 := Lib.hid (Ox4.out.go rb22 (by omega))
  replace Ox8 := Lib.hid (Ox8.out.go rb22 (by omega))
  replace Ox21 := Lib.hid (Ox21.out.go rb22 (by omega))
  replace Bt := Lib.hid (below_step Bt.out rb22)
  have Hx22 := Lib.hid (ro22.held (Nat.le_refl _) ra22.len)
  have Ox22 := Lib.hid ro22
  clear ra22 ro22 rb22
  go_wp2_with fail
  refine (toIntS_c A5 c5 z5 _ Ha5.out.arg).mono ?_
  rintro e u23 ⟨B23, d23, rfl, ra23, ro23, rb23⟩
  dsimp only [id]
  have sz23 := rb23.size
  replace Ha1 := Lib.hid (Ha1.out.go rb23)
  replace Ha4 := Lib.hid (Ha4.out.go rb23)
  replace Ha5 := Lib.hid (Ha5.out.go rb23)
  replace Hx4 := Lib.hid (Hx4.out.go rb23)
  replace Hx8 := Lib.hid (Hx8.out.go rb23)
  replace Hx21 := Lib.hid (Hx21.out.go rb23)
  replace Hx22 := Lib.hid (Hx22.out.go rb23)
  replace Ox4 := Lib.hid (Ox4.out.go rb23 (by omega))
  replace Ox8 := Lib.hid (Ox8.out.go rb23 (by omega))
  replace Ox21 := Lib.hid (Ox21.out.go rb23 (by omega))
  replace Ox22 := Lib.hid (Ox22.out.go rb23 (by omega))
  replace Bt := Lib.hid (below_step Bt.out rb23)
  have Hx23 := Lib.hid (ro23.held (Nat.le_refl _) ra23.len)
  have Ox23 := Lib.hid ro23
  clear ra23 ro23 rb23
  go_wp2_with fail
  refine (implLoadAdd_b _ _ _ _ _ _ _ _ _ _ _ _ _  Hx21.out.arg Hx22.out.arg Hx23.out.arg).mono ?_
  rintro e u24 ⟨B24, d24, rfl, ra24, ro24, rb24⟩
  dsimp only
  have sz24 := rb24.size
  replace Ha1 := Lib.hid (Ha1.out.go rb24)
  replace Ha4 := Lib.hid (Ha4.out.go rb24)
  replace Ha5 := Lib.hid (Ha5.out.go rb24)
  replace Hx4 := Lib.hid (Hx4.out.go rb24)
  replace Hx8 := Lib.hid (Hx8.out.go rb24)
  replace Hx21 := Lib.hid (Hx21.out.go rb24)
  replace Hx22 := Lib.hid (Hx22.out.go rb24)
  replace Hx23 := Lib.hid (Hx23.out.go rb24)
  replace Ox4 := Lib.hid (Ox4.out.go rb24 (by omega))
  replace Ox8 := Lib.hid (Ox8.out.go rb24 (by omega))
  replace Ox21 := Lib.hid (Ox21.out.go rb24 (by omega))
  replace Ox22 := Lib.hid (Ox22.out.go rb24 (by omega))
  replace Ox23 := Lib.hid (Ox23.out.go rb24 (by omega))
  replace Bt := Lib.hid (below_step Bt.out rb24)
  have Hx24 := Lib.hid (ro24.held (Nat.le_refl _) ra24.len)
  have Ox24 := Lib.hid ro24
  clear ra24 ro24 rb24
  go_wp2_with fail
  refine (eqIntS_c B24 B4 d24 d4 (addV n0 z1 n2 n3 z4 z5) (addV n0 z1 n2 n3 z4 z5) _ Hx24.out.arg Hx4.out.arg).mono ?_
  intro e0 v0 h0
  replace h0 := h0.toB
  revert e0 v0 h0
  rintro e u25 ⟨rfl, rb25⟩
  have sz25 := rb25.size
  replace Ha1 := Lib.hid (Ha1.out.go rb25)
  replace Ha4 := Lib.hid (Ha4.out.go rb25)
  replace Ha5 := Lib.hid (Ha5.out.go rb25)
  replace Hx4 := Lib.hid (Hx4.out.go rb25)
  replace Hx8 := Lib.hid (Hx8.out.go rb25)
  replace Hx21 := Lib.hid (Hx21.out.go rb25)
  replace Hx22 := Lib.hid (Hx22.out.go rb25)
  replace Hx23 := Lib.hid (Hx23.out.go rb25)
  replace Hx24 := Lib.hid (Hx24.out.go rb25)
  replace Ox4 := Lib.hid (Ox4.out.go rb25 (by omega))
  replace Ox8 := Lib.hid (Ox8.out.go rb25 (by omega))
  replace Ox21 := Lib.hid (Ox21.out.go rb25 (by omega))
  replace Ox22 := Lib.hid (Ox22.out.go rb25 (by omega))
  replace Ox23 := Lib.hid (Ox23.out.go rb25 (by omega))
  replace Ox24 := Lib.hid (Ox24.out.go rb25 (by omega))
  replace Bt := Lib.hid (below_step Bt.out rb25)
  clear rb25
  go_wp2_with fail
  refine (heldIntS_c B8 d8 (List.length (addV n0 z1 n2 n3 z4 z5)) 1 _ (by omega) (by omega) Hx8.out.arg).mono ?_
  rintro e w9 ⟨rfl, rfl⟩
  go_wp2
  go_ret
  exact ⟨rfl, Bt.out⟩

theorem exLoadAdd_walk (n0 : Int) (A1 : Option Addr) (c1 : Nat) (z1 : List Lin) (n2 : Int) (n3 : Int) (A4 : Option Addr) (c4 : Nat) (z4 : List Int) (A5 : Option Addr) (c5 : Nat) (z5 : List Int) (w : World) (ha1 : ArgL0 w A1 c1 z1) (ha4 : Arg0 w A4 c4 z4) (ha5 : Arg0 w A5 c5 z5) :
    Calls Try.prog 17 #[.int .i64 n0, .slice A1 z1.length c1, .int .i64 n2, .int .i64 n3, .slice A4 z4.length c4, .slice A5 z5.length c5] w (RetB (.bool true) w) := by
  by_cases hlN4 : 1048576 < z4.length
  · have hk4 : ¬ (z4.length : Int) ≤ 1048576 := by omega
    have hj4 : (1048576 : Int) < (z4.length : Int) := by omega
    clear ha1 ha4 ha5
    go_enter Try.func17, Try.ntmps17
    go_wp2
    go_ret
    exact ⟨rfl, Below.refl _ _⟩
  have gN4 : (z4.length : Int) ≤ 1048576 := by omega
  by_cases hlN5 : 1048576 < z5.length
  · have hk5 : ¬ (z5.length : Int) ≤ 1048576 := by omega
    have hj5 : (1048576 : Int) < (z5.length : Int) := by omega
    clear ha1 ha4 ha5
    go_enter Try.func17, Try.ntmps17
    go_wp2
    go_ret
    exact ⟨rfl, Below.refl _ _⟩
  have gN5 : (z5.length : Int) ≤ 1048576 := by omega
  by_cases hl1 : 1048576 < z1.length
  · have hc1 := ha1.1
    have hm1 := ha1.2.1
    have hk1 : (1048576 : Int) < (z1.length : Int) := by omega
    clear ha1 ha4 ha5
    go_enter Try.func17, Try.ntmps17
    go_wp2_with fail
    refine (szLineS_no A1 c1 z1.length (1048576) _ hk1 (by omega) hc1 hm1).mono ?_
    rintro e w9 ⟨rfl, rfl⟩
    go_wp2
    go_ret
    exact ⟨rfl, Below.refl _ _⟩
  exact exLoadAdd_in n0 A1 c1 z1 n2 n3 A4 c4 z4 A5 c5 z5 w (ha1.arg (by omega)) (ha4.arg (by omega)) (ha5.arg (by omega)) (by omega) (by omega) (by omega)

set_option maxRecDepth 100000 in
theorem exLoadAdd_lifted (os : Os) (started : os.Started) (H : Type) (enc : TypeId × Value → H) :
    ReturnsInHanded {} Try.checked os 17 .any (Rows.fnExactLoadAddSpec.pre6 enc Try.prog Try.f17 Rows.fnExactLoadAddRow.domain false) (Rows.fnExactLoadAddSpec.post enc Try.prog Try.f17 false true false false) := by
  refine returnsInHanded_of_change (C := Try.checked) row_own started (by kernel_rfl) Try.func17
    (ChangeSpec.witness6 (enc := enc) (C := Try.checked) false ⟨#[], #[.int .i64 0, .slice none 0 0, .int .i64 0, .int .i64 0, .slice none 0 0, .slice none 0 0], []⟩ 8 (by kernel_rfl) (by kernel_rfl) (by kernel_rfl) (by kernel_rfl)) ?_
  intro W base args ds gs before hval0 hW hcnd _
  have hval : ∀ (j : Nat) t v, Try.f17.params[j]? = some t → args[j]? = some v → Value.okWide Try.prog W .any base t v := hval0
  have hW' := hW
  obtain ⟨p, q, hA0, hV, rfl, _, _⟩ := hW
  have hA : DataW.TrodAll enc Try.prog W 0 (fun _ => true) true Try.f17.params.toList args.toList ds p := hA0
  rw [Try.params17] at hA hval
  obtain ⟨v0, vs0, d0, ds0, p0, q0, hargs, rfl, rfl, h0, r0⟩ := trodAll_cons hA
  obtain ⟨v1, vs1, d1, ds1, p1, q1, rfl, rfl, rfl, h1, r1⟩ := trodAll_cons r0
  obtain ⟨v2, vs2, d2, ds2, p2, q2, rfl, rfl, rfl, h2, r2⟩ := trodAll_cons r1
  obtain ⟨v3, vs3, d3, ds3, p3, q3, rfl, rfl, rfl, h3, r3⟩ := trodAll_cons r2
  obtain ⟨v4, vs4, d4, ds4, p4, q4, rfl, rfl, rfl, h4, r4⟩ := trodAll_cons r3
  obtain ⟨v5, vs5, d5, ds5, p5, q5, rfl, rfl, rfl, h5, r5⟩ := trodAll_cons r4
  obtain ⟨rfl, rfl, rfl⟩ := trodAll_nil r5
  obtain rfl : args = #[v0, v1, v2, v3, v4, v5] := by cases args; simp_all
  obtain ⟨rfl, rfl⟩ := trodVars_none hV
  obtain ⟨n0, rfl, rfl, rfl, wf0⟩ := open_int Try.underlying3 (hval 0 3 v0 rfl rfl) h0
  have hlt1 : ∀ x ∈ p1, x.block < W.heap.size := fun x hx => by exact hW'.lt x (by simp [hx])
  obtain ⟨A1, c1, z1, rfl, ha1⟩ := open_lins (hval 1 41 v1 rfl rfl) h1 hlt1
  obtain ⟨n2, rfl, rfl, rfl, wf2⟩ := open_int Try.underlying3 (hval 2 3 v2 rfl rfl) h2
  obtain ⟨n3, rfl, rfl, rfl, wf3⟩ := open_int Try.underlying3 (hval 3 3 v3 rfl rfl) h3
  have hlt4 : ∀ x ∈ p4, x.block < W.heap.size := fun x hx => by exact hW'.lt x (by simp [hx])
  obtain ⟨A4, c4, z4, rfl, ha4⟩ := open_slice (hval 4 24 v4 rfl rfl) h4 hlt4
  have hlt5 : ∀ x ∈ p5, x.block < W.heap.size := fun x hx => by exact hW'.lt x (by simp [hx])
  obtain ⟨A5, c5, z5, rfl, ha5⟩ := open_slice (hval 5 24 v5 rfl rfl) h5 hlt5
  clear hA0 hval0
  refine (exLoadAdd_walk n0 A1 c1 z1 n2 n3 A4 c4 z4 A5 c5 z5 W ha1 ha4 ha5).mono fun e W' ⟨he, hb⟩ => ?_
  subst he
  exact ⟨_, rfl, _, _, _, [], _, [], hW', (trodAll_cons_mk (shut_bool Try.underlying4 _) trodAll_mk0), (trodAll_cons_mk (shut_int Try.underlying3 wf0) (trodAll_cons_mk (read_again_lins h1 hlt1 hb) (trodAll_cons_mk (shut_int Try.underlying3 wf2) (trodAll_cons_mk (shut_int Try.underlying3 wf3) (trodAll_cons_mk (read_again h4 hlt4 hb) (trodAll_cons_mk (read_again h5 hlt5 hb) trodAll_mk0)))))), rfl, hb.frame _, fun h => by cases h⟩

set_option maxRecDepth 100000 in
theorem exLoadAdd_closed : joinedFacts Try.prog 17 Try.f17 Rows.fnExactLoadAddSpec Rows.fnExactLoadAddRow = true := by
  unfold joinedFacts
  repeat' (with_reducible apply facAnd)
  all_goals first | (with_reducible exact facEnter) | (with_reducible exact facLaid) | (with_reducible exact facMaps) | (with_reducible exact facStops) | (with_reducible exact facKnobs) | (with_reducible exact facHeard) | (rw [facLifts]; as_aux_lemma => kernel_rfl) | (rw [facMake]; as_aux_lemma => kernel_rfl) | (as_aux_lemma => kernel_rfl)

/-- THE STATEMENT -/
theorem exLoadAdd_holds : Rows.FnExactLoadAddSaid :=
  OpenClaim.holds_of_wide 17 Try.f17 rfl rfl rfl rfl rfl rfl rfl ⟨rfl, rfl, rfl, rfl, rfl⟩ rfl rfl rfl rfl rfl (by kernel_rfl) Try.func17 exLoadAdd_closed
    (of_decide_eq_true (by kernel_rfl)) (by unfold Func.isWrapper; first | (rw [if_pos (by decide +kernel)]; kernel_rfl) | (rw [if_neg (by decide +kernel)]; exact ⟨rfl, rfl⟩))
    (fun os started H enc _ => exLoadAdd_lifted os started H enc)
#print axioms exLoadAdd_holds
end Go.Proofs.Ytbnpglljloaclaa
