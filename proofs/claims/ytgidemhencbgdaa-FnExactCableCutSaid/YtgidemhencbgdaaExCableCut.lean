/-
  The exact law of CableCut: for all arguments the law answers true. No condition.
  (Written by a program of mine, genc.py.)
-/
import Derived.Test.YtgidemhencbgdaaBaseC
import Derived.Test.YtgidemhencbgdaaCCut
import Derived.Test.YtgidemhencbgdaaRowC
namespace Go.Proofs.Ytgidemhencbgdaa
open Go.ChangeShapes Go.WideShapes Go.ChangeAt Go.RowKit

set_option maxHeartbeats 2000000 in
theorem exCableCut_in (A0 : Option Addr) (c0 : Nat) (z0 : List Sec) (n1 : Int) (w : World) (ha0 : ArgC w A0 c0 z0) (hl : z0.length ≤ 1048576) (hn1 : -9223372036854775808 ≤ n1 ∧ n1 ≤ 9223372036854775807) :
    Calls Try.prog 11 #[.slice A0 z0.length c0, .int .i64 n1] w (RetB (.bool true) w) := by
  have Ha0 := Lib.hid ha0.held
  clear ha0
  have Hn1 := Lib.hid hn1
  clear hn1
  have Bt := Lib.hid (Below.refl w.heap.size w)
  go_enter Try.func11, Try.ntmps11
  go_wp2_with fail
  refine (szSectionS_yes A0 c0 z0.length (1048576) _ (by omega) (by omega)).mono ?_
  rintro e w9 ⟨rfl, rfl⟩
  go_wp2_with fail
  refine (toSectionS_c A0 c0 z0 _ Ha0.out.arg).mono ?_
  rintro e u1 ⟨B1, d1, rfl, ra1, ro1, rb1⟩
  dsimp only [id]
  have sz1 := rb1.size
  replace Ha0 := Lib.hid (Ha0.out.go rb1)
  replace Bt := Lib.hid (below_step Bt.out rb1)
  have Hx1 := Lib.hid (ro1.held (Nat.le_refl _) ra1.len)
  have Ox1 := Lib.hid ro1
  clear ra1 ro1 rb1
  go_wp2_with fail
  refine (specCableCut_b B1 d1 z0 n1 _ Hx1.out.arg ).mono ?_
  rintro e u2 ⟨B2, d2, E2, f2, m2, rfl, ra2, ro2, rc2, rp2, hm2, rb2⟩
  dsimp only
  have sz2 := rb2.size
  replace Ha0 := Lib.hid (Ha0.out.go rb2)
  replace Hx1 := Lib.hid (Hx1.out.go rb2)
  replace Ox1 := Lib.hid (Ox1.out.go rb2 (by omega))
  replace Bt := Lib.hid (below_step Bt.out rb2)
  have Hx2 := Lib.hid (ro2.held hm2.2 ra2.len)
  have Ox2 := Lib.hid ro2
  have Hy2 := Lib.hid (rp2.held (Nat.le_refl _) rc2.len)
  have Oy2 := Lib.hid rp2
  obtain ⟨hm2, hq2⟩ := hm2
  clear ra2 ro2 rb2 rc2 rp2
  clear Hx1 Ox1
  go_wp2_with fail
  refine (toSectionS_c A0 c0 z0 _ Ha0.out.arg).mono ?_
  rintro e u3 ⟨B3, d3, rfl, ra3, ro3, rb3⟩
  dsimp only [id]
  have sz3 := rb3.size
  replace Ha0 := Lib.hid (Ha0.out.go rb3)
  replace Hx2 := Lib.hid (Hx2.out.go rb3)
  replace Hy2 := Lib.hid (Hy2.out.go rb3)
  replace Ox2 := Lib.hid (Ox2.out.go rb3 (by omega))
  replace Oy2 := Lib.hid (Oy2.out.go rb3 (by omega))
  replace Bt := Lib.hid (below_step Bt.out rb3)
  have Hx3 := Lib.hid (ro3.held (Nat.le_refl _) ra3.len)
  have Ox3 := Lib.hid ro3
  clear ra3 ro3 rb3
  go_wp2_with fail
  refine (implCableCut_b B3 d3 z0 n1 _ Hx3.out.arg ).mono ?_
  rintro e u4 ⟨B4, d4, E4, f4, m4, rfl, ra4, ro4, rc4, rp4, hm4, rb4⟩
  dsimp only
  have sz4 := rb4.size
  replace Ha0 := Lib.hid (Ha0.out.go rb4)
  replace Hx2 := Lib.hid (Hx2.out.go rb4)
  replace Hy2 := Lib.hid (Hy2.out.go rb4)
  replace Hx3 := Lib.hid (Hx3.out.go rb4)
  replace Ox2 := Lib.hid (Ox2.out.go rb4 (by omega))
  replace Oy2 := Lib.hid (Oy2.out.go rb4 (by omega))
  replace Ox3 := Lib.hid (Ox3.out.go rb4 (by omega))
  replace Bt := Lib.hid (below_step Bt.out rb4)
  have Hx4 := Lib.hid (ro4.held hm4.2 ra4.len)
  have Ox4 := Lib.hid ro4
  have Hy4 := Lib.hid (rp4.held (Nat.le_refl _) rc4.len)
  have Oy4 := Lib.hid rp4
  obtain ⟨hm4, hq4⟩ := hm4
  clear ra4 ro4 rb4 rc4 rp4
  have hlr0 : List.length (cutA z0 n1) ≤ 2097152 := Hx4.out.arg.len
  have hlr1 : List.length (cutB z0 n1) ≤ 2097152 := Hy4.out.arg.len
  go_wp2_with fail
  refine (eqSectionS_c B4 B2 d4 d2 (cutA z0 n1) (cutA z0 n1) _ Hx4.out.arg Hx2.out.arg).mono ?_
  rintro e u5 ⟨rfl, rb5⟩
  have sz5 := rb5.size
  replace Ha0 := Lib.hid (Ha0.out.go rb5)
  replace Hx2 := Lib.hid (Hx2.out.go rb5)
  replace Hy2 := Lib.hid (Hy2.out.go rb5)
  replace Hx3 := Lib.hid (Hx3.out.go rb5)
  replace Hx4 := Lib.hid (Hx4.out.go rb5)
  replace Hy4 := Lib.hid (Hy4.out.go rb5)
  replace Ox2 := Lib.hid (Ox2.out.go rb5 (by omega))
  replace Oy2 := Lib.hid (Oy2.out.go rb5 (by omega))
  replace Ox3 := Lib.hid (Ox3.out.go rb5 (by omega))
  replace Ox4 := Lib.hid (Ox4.out.go rb5 (by omega))
  replace Oy4 := Lib.hid (Oy4.out.go rb5 (by omega))
  replace Bt := Lib.hid (below_step Bt.out rb5)
  clear rb5
  go_wp2_with fail
  refine (eqSectionS_c E4 E2 f4 f2 (cutB z0 n1) (cutB z0 n1) _ Hy4.out.arg Hy2.out.arg).mono ?_
  rintro e u6 ⟨rfl, rb6⟩
  have sz6 := rb6.size
  replace Ha0 := Lib.hid (Ha0.out.go rb6)
  replace Hx2 := Lib.hid (Hx2.out.go rb6)
  replace Hy2 := Lib.hid (Hy2.out.go rb6)
  replace Hx3 := Lib.hid (Hx3.out.go rb6)
  replace Hx4 := Lib.hid (Hx4.out.go rb6)
  replace Hy4 := Lib.hid (Hy4.out.go rb6)
  replace Ox2 := Lib.hid (Ox2.out.go rb6 (by omega))
  replace Oy2 := Lib.hid (Oy2.out.go rb6 (by omega))
  replace Ox3 := Lib.hid (Ox3.out.go rb6 (by omega))
  replace Ox4 := Lib.hid (Ox4.out.go rb6 (by omega))
  replace Oy4 := Lib.hid (Oy4.out.go rb6 (by omega))
  replace Bt := Lib.hid (below_step Bt.out rb6)
  clear rb6
  go_wp2_with fail
  refine (toSectionS_c A0 c0 z0 _ Ha0.out.arg).mono ?_
  rintro e u7 ⟨B7, d7, rfl, ra7, ro7, rb7⟩
  dsimp only [id]
  have sz7 := rb7.size
  replace Ha0 := Lib.hid (Ha0.out.go rb7)
  replace Hx2 := Lib.hid (Hx2.out.go rb7)
  replace Hy2 := Lib.hid (Hy2.out.go rb7)
  replace Hx3 := Lib.hid (Hx3.out.go rb7)
  replace Hx4 := Lib.hid (Hx4.out.go rb7)
  replace Hy4 := Lib.hid (Hy4.out.go rb7)
  replace Ox2 := Lib.hid (Ox2.out.go rb7 (by omega))
  replace Oy2 := Lib.hid (Oy2.out.go rb7 (by omega))
  replace Ox3 := Lib.hid (Ox3.out.go rb7 (by omega))
  replace Ox4 := Lib.hid (Ox4.out.go rb7 (by omega))
  replace Oy4 := Lib.hid (Oy4.out.go rb7 (by omega))
  replace Bt := Lib.hid (below_step Bt.out rb7)
  have Hx7 := Lib.hid (ro7.held (Nat.le_refl _) ra7.len)
  have Ox7 := Lib.hid ro7
  clear ra7 ro7 rb7
  go_wp2_with fail
  refine (eqSectionS_c B3 B7 d3 d7 z0 z0 _ Hx3.out.arg Hx7.out.arg).mono ?_
  rintro e u8 ⟨rfl, rb8⟩
  have sz8 := rb8.size
  replace Ha0 := Lib.hid (Ha0.out.go rb8)
  replace Hx2 := Lib.hid (Hx2.out.go rb8)
  replace Hy2 := Lib.hid (Hy2.out.go rb8)
  replace Hx3 := Lib.hid (Hx3.out.go rb8)
  replace Hx4 := Lib.hid (Hx4.out.go rb8)
  replace Hy4 := Lib.hid (Hy4.out.go rb8)
  replace Hx7 := Lib.hid (Hx7.out.go rb8)
  replace Ox2 := Lib.hid (Ox2.out.go rb8 (by omega))
  replace Oy2 := Lib.hid (Oy2.out.go rb8 (by omega))
  replace Ox3 := Lib.hid (Ox3.out.go rb8 (by omega))
  replace Ox4 := Lib.hid (Ox4.out.go rb8 (by omega))
  replace Oy4 := Lib.hid (Oy4.out.go rb8 (by omega))
  replace Ox7 := Lib.hid (Ox7.out.go rb8 (by omega))
  replace Bt := Lib.hid (below_step Bt.out rb8)
  clear rb8
  clear Hx7 Ox7
  go_wp2_with fail
  refine (markSectionS_c B3 d3 z0 1 _ _ _ Hx3.out.arg.len (by omega) (by omega) Ox3.out).mono ?_
  rintro e u9 ⟨rfl, rg9, ro9⟩
  have sz9 := rg9.size
  have rr9 := Ox3.out.range
  replace Ha0 := Lib.hid (Ha0.out.grown rg9 (fun r e => by have := rr9 r e; omega))
  replace Hx2 := Lib.hid (Hx2.out.grown rg9 (fun r e => by have := rr9 r e; omega))
  replace Hy2 := Lib.hid (Hy2.out.grown rg9 (fun r e => by have := rr9 r e; omega))
  replace Hx4 := Lib.hid (Hx4.out.grown rg9 (fun r e => by have := rr9 r e; omega))
  replace Hy4 := Lib.hid (Hy4.out.grown rg9 (fun r e => by have := rr9 r e; omega))
  replace Ox2 := Lib.hid (Ox2.out.kept rg9 (fun r e => by have := rr9 r e; omega))
  replace Oy2 := Lib.hid (Oy2.out.kept rg9 (fun r e => by have := rr9 r e; omega))
  replace Ox4 := Lib.hid (Ox4.out.kept rg9 (fun r e => by have := rr9 r e; omega))
  replace Oy4 := Lib.hid (Oy4.out.kept rg9 (fun r e => by have := rr9 r e; omega))
  replace Bt := Lib.hid (below_row Bt.out rg9 (fun r e => by have := rr9 r e; omega))
  replace Ox3 := Lib.hid ro9
  replace Hx3 := Lib.hid ((owC_marks Ox3.out).held (by have := Hx3.out.2.1; omega) (by rw [marksC_length]; exact Hx3.out.arg.len))
  clear ro9 rg9 rr9
  go_wp2_with fail
  refine (eqSectionS_c B4 B2 d4 d2 (cutA z0 n1) (cutA z0 n1) _ Hx4.out.arg Hx2.out.arg).mono ?_
  rintro e u10 ⟨rfl, rb10⟩
  have sz10 := rb10.size
  replace Ha0 := Lib.hid (Ha0.out.go rb10)
  replace Hx2 := Lib.hid (Hx2.out.go rb10)
  replace Hy2 := Lib.hid (Hy2.out.go rb10)
  replace Hx3 := Lib.hid (Hx3.out.go rb10)
  replace Hx4 := Lib.hid (Hx4.out.go rb10)
  replace Hy4 := Lib.hid (Hy4.out.go rb10)
  replace Ox2 := Lib.hid (Ox2.out.go rb10 (by omega))
  replace Oy2 := Lib.hid (Oy2.out.go rb10 (by omega))
  replace Ox3 := Lib.hid (Ox3.out.go rb10 (by omega))
  replace Ox4 := Lib.hid (Ox4.out.go rb10 (by omega))
  replace Oy4 := Lib.hid (Oy4.out.go rb10 (by omega))
  replace Bt := Lib.hid (below_step Bt.out rb10)
  clear rb10
  go_wp2_with fail
  refine (eqSectionS_c E4 E2 f4 f2 (cutB z0 n1) (cutB z0 n1) _ Hy4.out.arg Hy2.out.arg).mono ?_
  rintro e u11 ⟨rfl, rb11⟩
  have sz11 := rb11.size
  replace Ha0 := Lib.hid (Ha0.out.go rb11)
  replace Hx2 := Lib.hid (Hx2.out.go rb11)
  replace Hy2 := Lib.hid (Hy2.out.go rb11)
  replace Hx3 := Lib.hid (Hx3.out.go rb11)
  replace Hx4 := Lib.hid (Hx4.out.go rb11)
  replace Hy4 := Lib.hid (Hy4.out.go rb11)
  replace Ox2 := Lib.hid (Ox2.out.go rb11 (by omega))
  replace Oy2 := Lib.hid (Oy2.out.go rb11 (by omega))
  replace Ox3 := Lib.hid (Ox3.out.go rb11 (by omega))
  replace Ox4 := Lib.hid (Ox4.out.go rb11 (by omega))
  replace Oy4 := Lib.hid (Oy4.out.go rb11 (by omega))
  replace Bt := Lib.hid (below_step Bt.out rb11)
  clear rb11
  clear Hx3 Ox3
  go_wp2_with fail
  refine (markSectionS_c B4 d4 (cutA z0 n1) 1 _ _ _ Hx4.out.arg.len (by omega) (by omega) Ox4.out).mono ?_
  rintro e u12 ⟨rfl, rg12, ro12⟩
  have sz12 := rg12.size
  have rr12 := Ox4.out.range
  replace Ha0 := Lib.hid (Ha0.out.grown rg12 (fun r e => by have := rr12 r e; omega))
  replace Hx2 := Lib.hid (Hx2.out.grown rg12 (fun r e => by have := rr12 r e; omega))
  replace Hy2 := Lib.hid (Hy2.out.grown rg12 (fun r e => by have := rr12 r e; omega))
  replace Hy4 := Lib.hid (Hy4.out.grown rg12 (fun r e => by have := rr12 r e; omega))
  replace Ox2 := Lib.hid (Ox2.out.kept rg12 (fun r e => by have := rr12 r e; omega))
  replace Oy2 := Lib.hid (Oy2.out.kept rg12 (fun r e => by have := rr12 r e; omega))
  replace Oy4 := Lib.hid (Oy4.out.kept rg12 (fun r e => by have := rr12 r e; omega))
  replace Bt := Lib.hid (below_row Bt.out rg12 (fun r e => by have := rr12 r e; omega))
  replace Ox4 := Lib.hid ro12
  replace Hx4 := Lib.hid ((owC_marks Ox4.out).held (by have := Hx4.out.2.1; omega) (by rw [marksC_length]; exact Hx4.out.arg.len))
  clear ro12 rg12 rr12
  go_wp2_with fail
  refine (markSectionS_c E4 f4 (cutB z0 n1) (1 + 3 * (List.length (cutA z0 n1) : Int)) _ _ _ Hy4.out.arg.len (by omega) (by omega) Oy4.out).mono ?_
  rintro e u13 ⟨rfl, rg13, ro13⟩
  have sz13 := rg13.size
  have rr13 := Oy4.out.range
  replace Ha0 := Lib.hid (Ha0.out.grown rg13 (fun r e => by have := rr13 r e; omega))
  replace Hx2 := Lib.hid (Hx2.out.grown rg13 (fun r e => by have := rr13 r e; omega))
  replace Hy2 := Lib.hid (Hy2.out.grown rg13 (fun r e => by have := rr13 r e; omega))
  replace Hx4 := Lib.hid (Hx4.out.grown rg13 (fun r e => by have := rr13 r e; omega))
  replace Ox2 := Lib.hid (Ox2.out.kept rg13 (fun r e => by have := rr13 r e; omega))
  replace Oy2 := Lib.hid (Oy2.out.kept rg13 (fun r e => by have := rr13 r e; omega))
  replace Ox4 := Lib.hid (Ox4.out.kept rg13 (fun r e => by have := rr13 r e; omega))
  replace Bt := Lib.hid (below_row Bt.out rg13 (fun r e => by have := rr13 r e; omega))
  replace Oy4 := Lib.hid ro13
  replace Hy4 := Lib.hid ((owC_marks Oy4.out).held (by have := Hy4.out.2.1; omega) (by rw [marksC_length]; exact Hy4.out.arg.len))
  clear ro13 rg13 rr13
  go_wp2_with fail
  refine (heldSectionS_c B4 d4 (List.length (cutA z0 n1)) 1 _ (by omega) (by omega) Hx4.out.arg).mono ?_
  rintro e w9 ⟨rfl, rfl⟩
  go_wp2_with fail
  refine (heldSectionS_c E4 f4 (List.length (cutB z0 n1)) (1 + 3 * (List.length (cutA z0 n1) : Int)) _ (by omega) (by omega) Hy4.out.arg).mono ?_
  rintro e w9 ⟨rfl, rfl⟩
  go_wp2_with fail
  refine (toSectionS_c A0 c0 z0 _ Ha0.out.arg).mono ?_
  rintro e u14 ⟨B14, d14, rfl, ra14, ro14, rb14⟩
  dsimp only [id]
  have sz14 := rb14.size
  replace Ha0 := Lib.hid (Ha0.out.go rb14)
  replace Hx2 := Lib.hid (Hx2.out.go rb14)
  replace Hy2 := Lib.hid (Hy2.out.go rb14)
  replace Hx4 := Lib.hid (Hx4.out.go rb14)
  replace Hy4 := Lib.hid (Hy4.out.go rb14)
  replace Ox2 := Lib.hid (Ox2.out.go rb14 (by omega))
  replace Oy2 := Lib.hid (Oy2.out.go rb14 (by omega))
  replace Ox4 := Lib.hid (Ox4.out.go rb14 (by omega))
  replace Oy4 := Lib.hid (Oy4.out.go rb14 (by omega))
  replace Bt := Lib.hid (below_step Bt.out rb14)
  have Hx14 := Lib.hid (ro14.held (Nat.le_refl _) ra14.len)
  have Ox14 := Lib.hid ro14
  clear ra14 ro14 rb14
  go_wp2_with fail
  refine (implCableCut_b B14 d14 z0 n1 _ Hx14.out.arg ).mono ?_
  rintro e u15 ⟨B15, d15, E15, f15, m15, rfl, ra15, ro15, rc15, rp15, hm15, rb15⟩
  dsimp only
  have sz15 := rb15.size
  replace Ha0 := Lib.hid (Ha0.out.go rb15)
  replace Hx2 := Lib.hid (Hx2.out.go rb15)
  replace Hy2 := Lib.hid (Hy2.out.go rb15)
  replace Hx4 := Lib.hid (Hx4.out.go rb15)
  replace Hy4 := Lib.hid (Hy4.out.go rb15)
  replace Hx14 := Lib.hid (Hx14.out.go rb15)
  replace Ox2 := Lib.hid (Ox2.out.go rb15 (by omega))
  replace Oy2 := Lib.hid (Oy2.out.go rb15 (by omega))
  replace Ox4 := Lib.hid (Ox4.out.go rb15 (by omega))
  replace Oy4 := Lib.hid (Oy4.out.go rb15 (by omega))
  replace Ox14 := Lib.hid (Ox14.out.go rb15 (by omega))
  replace Bt := Lib.hid (below_step Bt.out rb15)
  have Hx15 := Lib.hid (ro15.held hm15.2 ra15.len)
  have Ox15 := Lib.hid ro15
  have Hy15 := Lib.hid (rp15.held (Nat.le_refl _) rc15.len)
  have Oy15 := Lib.hid rp15
  obtain ⟨hm15, hq15⟩ := hm15
  clear ra15 ro15 rb15 rc15 rp15
  go_wp2_with fail
  refine (eqSectionS_c B15 B2 d15 d2 (cutA z0 n1) (cutA z0 n1) _ Hx15.out.arg Hx2.out.arg).mono ?_
  rintro e u16 ⟨rfl, rb16⟩
  have sz16 := rb16.size
  replace Ha0 := Lib.hid (Ha0.out.go rb16)
  replace Hx2 := Lib.hid (Hx2.out.go rb16)
  replace Hy2 := Lib.hid (Hy2.out.go rb16)
  replace Hx4 := Lib.hid (Hx4.out.go rb16)
  replace Hy4 := Lib.hid (Hy4.out.go rb16)
  replace Hx14 := Lib.hid (Hx14.out.go rb16)
  replace Hx15 := Lib.hid (Hx15.out.go rb16)
  replace Hy15 := Lib.hid (Hy15.out.go rb16)
  replace Ox2 := Lib.hid (Ox2.out.go rb16 (by omega))
  replace Oy2 := Lib.hid (Oy2.out.go rb16 (by omega))
  replace Ox4 := Lib.hid (Ox4.out.go rb16 (by omega))
  replace Oy4 := Lib.hid (Oy4.out.go rb16 (by omega))
  replace Ox14 := Lib.hid (Ox14.out.go rb16 (by omega))
  replace Ox15 := Lib.hid (Ox15.out.go rb16 (by omega))
  replace Oy15 := Lib.hid (Oy15.out.go rb16 (by omega))
  replace Bt := Lib.hid (below_step Bt.out rb16)
  clear rb16
  go_wp2_with fail
  refine (eqSectionS_c E15 E2 f15 f2 (cutB z0 n1) (cutB z0 n1) _ Hy15.out.arg Hy2.out.arg).mono ?_
  rintro e u17 ⟨rfl, rb17⟩
  have sz17 := rb17.size
  replace Ha0 := Lib.hid (Ha0.out.go rb17)
  replace Hx2 := Lib.hid (Hx2.out.go rb17)
  replace Hy2 := Lib.hid (Hy2.out.go rb17)
  replace Hx4 := Lib.hid (Hx4.out.go rb17)
  replace Hy4 := Lib.hid (Hy4.out.go rb17)
  replace Hx14 := Lib.hid (Hx14.out.go rb17)
  replace Hx15 := Lib.hid (Hx15.out.go rb17)
  replace Hy15 := Lib.hid (Hy15.out.go rb17)
  replace Ox2 := Lib.hid (Ox2.out.go rb17 (by omega))
  replace Oy2 := Lib.hid (Oy2.out.go rb17 (by omega))
  replace Ox4 := Lib.hid (Ox4.out.go rb17 (by omega))
  replace Oy4 := Lib.hid (Oy4.out.go rb17 (by omega))
  replace Ox14 := Lib.hid (Ox14.out.go rb17 (by omega))
  replace Ox15 := Lib.hid (Ox15.out.go rb17 (by omega))
  replace Oy15 := Lib.hid (Oy15.out.go rb17 (by omega))
  replace Bt := Lib.hid (below_step Bt.out rb17)
  clear rb17
  go_wp2_with fail
  refine (heldSectionS_c B4 d4 (List.length (cutA z0 n1)) 1 _ (by omega) (by omega) Hx4.out.arg).mono ?_
  rintro e w9 ⟨rfl, rfl⟩
  go_wp2_with fail
  refine (heldSectionS_c E4 f4 (List.length (cutB z0 n1)) (1 + 3 * (List.length (cutA z0 n1) : Int)) _ (by omega) (by omega) Hy4.out.arg).mono ?_
  rintro e w9 ⟨rfl, rfl⟩
  go_wp2
  go_ret
  exact ⟨rfl, Bt.out⟩

theorem exCableCut_walk (A0 : Option Addr) (c0 : Nat) (z0 : List Sec) (n1 : Int) (w : World) (ha0 : ArgC0 w A0 c0 z0) (hn1 : -9223372036854775808 ≤ n1 ∧ n1 ≤ 9223372036854775807) :
    Calls Try.prog 11 #[.slice A0 z0.length c0, .int .i64 n1] w (RetB (.bool true) w) := by
  by_cases hl0 : 1048576 < z0.length
  · have hc0 := ha0.1
    have hm0 := ha0.2.1
    have hk0 : (1048576 : Int) < (z0.length : Int) := by omega
    clear ha0
    go_enter Try.func11, Try.ntmps11
    go_wp2_with fail
    refine (szSectionS_no A0 c0 z0.length (1048576) _ hk0 (by omega) hc0 hm0).mono ?_
    rintro e w9 ⟨rfl, rfl⟩
    go_wp2
    go_ret
    exact ⟨rfl, Below.refl _ _⟩
  exact exCableCut_in A0 c0 z0 n1 w (ha0.arg (by omega)) (by omega) hn1

set_option maxRecDepth 100000 in
theorem exCableCut_lifted (os : Os) (started : os.Started) (H : Type) (enc : TypeId × Value → H) :
    ReturnsInHanded {} Try.checked os 11 .any (Rows.fnExactCableCutSpec.pre6 enc Try.prog Try.f11 Rows.fnExactCableCutRow.domain false) (Rows.fnExactCableCutSpec.post enc Try.prog Try.f11 false true false false) := by
  refine returnsInHanded_of_change (C := Try.checked) row_own started (by kernel_rfl) Try.func11
    (ChangeSpec.witness6 (enc := enc) (C := Try.checked) false ⟨#[], #[.slice none 0 0, .int .i64 0], []⟩ 8 (by kernel_rfl) (by kernel_rfl) (by kernel_rfl) (by kernel_rfl)) ?_
  intro W base args ds gs before hval0 hW hcnd _
  have hval : ∀ (j : Nat) t v, Try.f11.params[j]? = some t → args[j]? = some v → Value.okWide Try.prog W .any base t v := hval0
  have hW' := hW
  obtain ⟨p, q, hA0, hV, rfl, _, _⟩ := hW
  have hA : DataW.TrodAll enc Try.prog W 0 (fun _ => true) true Try.f11.params.toList args.toList ds p := hA0
  rw [Try.params11] at hA hval
  obtain ⟨v0, vs0, d0, ds0, p0, q0, hargs, rfl, rfl, h0, r0⟩ := trodAll_cons hA
  obtain ⟨v1, vs1, d1, ds1, p1, q1, rfl, rfl, rfl, h1, r1⟩ := trodAll_cons r0
  obtain ⟨rfl, rfl, rfl⟩ := trodAll_nil r1
  obtain rfl : args = #[v0, v1] := by cases args; simp_all
  obtain ⟨rfl, rfl⟩ := trodVars_none hV
  have hlt0 : ∀ x ∈ p0, x.block < W.heap.size := fun x hx => by exact hW'.lt x (by simp [hx])
  obtain ⟨A0, c0, z0, rfl, ha0⟩ := open_secs (hval 0 30 v0 rfl rfl) h0 hlt0
  obtain ⟨n1, rfl, rfl, rfl, wf1⟩ := open_int Try.underlying3 (hval 1 3 v1 rfl rfl) h1
  clear hA0 hval0
  refine (exCableCut_walk A0 c0 z0 n1 W ha0 (wf_i64 wf1)).mono fun e W' ⟨he, hb⟩ => ?_
  subst he
  exact ⟨_, rfl, _, _, _, [], _, [], hW', (trodAll_cons_mk (shut_bool Try.underlying4 _) trodAll_mk0), (trodAll_cons_mk (read_again_secs h0 hlt0 hb) (trodAll_cons_mk (shut_int Try.underlying3 wf1) trodAll_mk0)), rfl, hb.frame _, fun h => by cases h⟩

/-- THE STATEMENT -/
theorem exCableCut_holds : Rows.FnExactCableCutSaid :=
  OpenClaim.holds_of_wide 11 Try.f11 rfl rfl rfl rfl rfl rfl rfl ⟨rfl, rfl, rfl, rfl, rfl⟩ rfl rfl rfl rfl rfl (by kernel_rfl) Try.func11 (by kernel_rfl)
    (of_decide_eq_true (by kernel_rfl)) (by unfold Func.isWrapper; first | (rw [if_pos (by decide +kernel)]; kernel_rfl) | (rw [if_neg (by decide +kernel)]; exact ⟨rfl, rfl⟩))
    (fun os started H enc _ => exCableCut_lifted os started H enc)
#print axioms exCableCut_holds
end Go.Proofs.Ytgidemhencbgdaa
