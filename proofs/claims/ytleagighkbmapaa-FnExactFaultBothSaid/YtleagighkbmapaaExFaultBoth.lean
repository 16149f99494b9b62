/-
  The exact law of FaultBoth: for all arguments the law answers true. No condition.
  (Written by a program of mine, genf.py.)
-/
import Derived.Test.YtleagighkbmapaaBaseD
import Derived.Test.YtleagighkbmapaaRowC
import Derived.Test.YtleagighkbmapaaBaseM
import Derived.Test.YtleagighkbmapaaBaseF
import Derived.Test.YtleagighkbmapaaRowG
import Derived.Test.YtleagighkbmapaaFltBS
import Derived.Deep.RegionHeld3
import Derived.Deep.RegionWith
namespace Go.Proofs.Ytleagighkbmapaa
open Go.ChangeShapes Go.WideShapes Go.ChangeAt Go.RowKit

set_option maxRecDepth 100000 in
set_option maxHeartbeats 4000000 in
theorem exFaultBoth_in (A0 : Option Addr) (c0 : Nat) (z0 : List Sec) (n1 : Int) (f2 : Rat2) (w : World) (ha0 : ArgC w A0 c0 z0) (hl : z0.length ≤ 1048576) (hn1 : -9223372036854775808 ≤ n1 ∧ n1 ≤ 9223372036854775807) :
    Calls Try.prog 11 #[.slice A0 z0.length c0, .int .i64 n1, .agg #[.int .i64 f2.t, .int .i64 f2.l]] w (RetB (.bool true) w) := by
  have Ha0 := Lib.hid ha0.held
  clear ha0
  have Hn1 := Lib.hid hn1
  clear hn1
  have Bt := Lib.hid (Below.refl w.heap.size w)
  obtain ⟨w0, hw0⟩ : ∃ w0, w.alloc (.cells #[.int .i64 f2.t, .int .i64 f2.l] 57) = w0 := ⟨_, rfl⟩
  have hs0 : w0.heap.size = w.heap.size + 1 := by rw [← hw0]; simp
  have rb0 : Below w.heap.size w w0 := by rw [← hw0]; exact (Below.refl _ _).alloc (Nat.le_refl _) _
  have hT2 : TwoAt 57 w0 (w.heap.size) f2.t f2.l := by rw [← hw0]; exact TwoAt.new _ w f2.t f2.l
  replace Ha0 := Lib.hid (Ha0.out.go rb0)
  replace Bt := Lib.hid (below_step Bt.out rb0)
  have HT2 := Lib.hid hT2
  have Hw0 := Lib.hid hw0
  clear hw0 rb0 hT2
  go_enter Try.func11, Try.ntmps11
  go_wp2_with fail
  rw [Hw0.out]
  refine (szSectionS_yes A0 c0 z0.length (1048576) _ (by omega) (by omega)).mono ?_
  rintro e w9 ⟨rfl, rfl⟩
  go_wp2
  have rb1 := (Below.refl w0.heap.size w0).drew
  replace Ha0 := Lib.hid (Ha0.out.go rb1)
  replace HT2 := Lib.hid (HT2.out.go rb1)
  replace Bt := Lib.hid (below_step Bt.out rb1)
  clear rb1
  have szd1 : (w0.drew).heap.size = w0.heap.size := rfl
  have pk1 := And.intro (HT2.out).c0 (HT2.out).c1
  go_region_held3 (fun w9 => w9.cell? ⟨w.heap.size, 0, none⟩ = some (.int .i64 f2.t) ∧ w9.cell? ⟨w.heap.size, 1, none⟩ = some (.int .i64 f2.l)) (first | exact pk4 | exact pk3 | exact pk2 | exact pk1)
    (first | (go_at_call 23; refine (toSectionS_c A0 c0 z0 _ Ha0.out.arg).mono ?_; rintro e u2 ⟨B2, d2, rfl, ra2, ro2, rb2⟩; dsimp only [id]; have sz2 := rb2.size; replace Ha0 := Lib.hid (Ha0.out.go rb2); replace HT2 := Lib.hid (HT2.out.go rb2); replace Bt := Lib.hid (below_step Bt.out rb2); have Hx2 := Lib.hid (ro2.held (Nat.le_refl _) ra2.len); have Ox2 := Lib.hid ro2; clear ra2 ro2 rb2; have pk2 := And.intro (HT2.out).c0 (HT2.out).c1) | (go_at_call 43; refine (toRatio_c f2 _).mono ?_; rintro e u3 ⟨rfl, rb3⟩; have sz3 := rb3.size; replace Ha0 := Lib.hid (Ha0.out.go rb3); replace HT2 := Lib.hid (HT2.out.go rb3); replace Hx2 := Lib.hid (Hx2.out.go rb3); replace Ox2 := Lib.hid (Ox2.out.go rb3 (by omega)); replace Bt := Lib.hid (below_step Bt.out rb3); clear rb3; have pk3 := And.intro (HT2.out).c0 (HT2.out).c1) | (go_at_call 42; refine (specFaultBoth_b B2 d2 z0 n1 f2 _ Hx2.out.arg Hn1.out.2).mono ?_; rintro e u4 ⟨B4, d4, rfl, ra4, ro4, rb4⟩; dsimp only; have sz4 := rb4.size; replace Ha0 := Lib.hid (Ha0.out.go rb4); replace HT2 := Lib.hid (HT2.out.go rb4); replace Hx2 := Lib.hid (Hx2.out.go rb4); replace Ox2 := Lib.hid (Ox2.out.go rb4 (by omega)); replace Bt := Lib.hid (below_step Bt.out rb4); have Hx4 := Lib.hid (ro4.held (Nat.le_refl _) ra4.len); have Ox4 := Lib.hid ro4; clear ra4 ro4 rb4; have pk4 := And.intro (HT2.out).c0 (HT2.out).c1))
  clear pk1 pk2 pk3 pk4
  clear Hx2 Ox2
  go_wp2_with fail
  refine (toSectionS_c A0 c0 z0 _ Ha0.out.arg).mono ?_
  rintro e u5 ⟨B5, d5, rfl, ra5, ro5, rb5⟩
  dsimp only [id]
  have sz5 := rb5.size
  replace Ha0 := Lib.hid (Ha0.out.go rb5)
  replace HT2 := Lib.hid (HT2.out.go rb5)
  replace Hx4 := Lib.hid (Hx4.out.go rb5)
  replace Ox4 := Lib.hid (Ox4.out.go rb5 (by omega))
  replace Bt := Lib.hid (below_step Bt.out rb5)
  have Hx5 := Lib.hid (ro5.held (Nat.le_refl _) ra5.len)
  have Ox5 := Lib.hid ro5
  clear ra5 ro5 rb5
  have cct20 := HT2.out.c0
  have cct21 := HT2.out.c1
  go_wp2_with fail
  refine (toRatio_c f2 _).mono ?_
  rintro e u6 ⟨rfl, rb6⟩
  have sz6 := rb6.size
  replace Ha0 := Lib.hid (Ha0.out.go rb6)
  replace HT2 := Lib.hid (HT2.out.go rb6)
  replace Hx4 := Lib.hid (Hx4.out.go rb6)
  replace Ox4 := Lib.hid (Ox4.out.go rb6 (by omega))
  replace Hx5 := Lib.hid (Hx5.out.go rb6)
  replace Ox5 := Lib.hid (Ox5.out.go rb6 (by omega))
  replace Bt := Lib.hid (below_step Bt.out rb6)
  clear rb6
  go_wp2_with fail
  refine (implFaultBoth_b B5 d5 z0 n1 f2 _ Hx5.out.arg Hn1.out.2).mono ?_
  rintro e u7 ⟨B7, d7, rfl, ra7, ro7, rb7⟩
  dsimp only
  have sz7 := rb7.size
  replace Ha0 := Lib.hid (Ha0.out.go rb7)
  replace HT2 := Lib.hid (HT2.out.go rb7)
  replace Hx4 := Lib.hid (Hx4.out.go rb7)
  replace Ox4 := Lib.hid (Ox4.out.go rb7 (by omega))
  replace Hx5 := Lib.hid (Hx5.out.go rb7)
  replace Ox5 := Lib.hid (Ox5.out.go rb7 (by omega))
  replace Bt := Lib.hid (below_step Bt.out rb7)
  have Hx7 := Lib.hid (ro7.held (Nat.le_refl _) ra7.len)
  have Ox7 := Lib.hid ro7
  clear ra7 ro7 rb7
  have hlr0 : List.length (findsL z0 n1 (bothP z0 n1 f2)) ≤ 2097152 := Hx7.out.arg.len
  go_wp2_with fail
  refine (eqFaultS_c B7 B4 d7 d4 (findsL z0 n1 (bothP z0 n1 f2)) (findsL z0 n1 (bothP z0 n1 f2)) _ Hx7.out.arg Hx4.out.arg).mono ?_
  rintro e u8 ⟨rfl, rb8⟩
  have sz8 := rb8.size
  replace Ha0 := Lib.hid (Ha0.out.go rb8)
  replace HT2 := Lib.hid (HT2.out.go rb8)
  replace Hx4 := Lib.hid (Hx4.out.go rb8)
  replace Ox4 := Lib.hid (Ox4.out.go rb8 (by omega))
  replace Hx5 := Lib.hid (Hx5.out.go rb8)
  replace Ox5 := Lib.hid (Ox5.out.go rb8 (by omega))
  replace Hx7 := Lib.hid (Hx7.out.go rb8)
  replace Ox7 := Lib.hid (Ox7.out.go rb8 (by omega))
  replace Bt := Lib.hid (below_step Bt.out rb8)
  clear rb8
  go_wp2_with fail
  refine (toSectionS_c A0 c0 z0 _ Ha0.out.arg).mono ?_
  rintro e u9 ⟨B9, d9, rfl, ra9, ro9, rb9⟩
  dsimp only [id]
  have sz9 := rb9.size
  replace Ha0 := Lib.hid (Ha0.out.go rb9)
  replace HT2 := Lib.hid (HT2.out.go rb9)
  replace Hx4 := Lib.hid (Hx4.out.go rb9)
  replace Ox4 := Lib.hid (Ox4.out.go rb9 (by omega))
  replace Hx5 := Lib.hid (Hx5.out.go rb9)
  replace Ox5 := Lib.hid (Ox5.out.go rb9 (by omega))
  replace Hx7 := Lib.hid (Hx7.out.go rb9)
  replace Ox7 := Lib.hid (Ox7.out.go rb9 (by omega))
  replace Bt := Lib.hid (below_step Bt.out rb9)
  have Hx9 := Lib.hid (ro9.held (Nat.le_refl _) ra9.len)
  have Ox9 := Lib.hid ro9
  clear ra9 ro9 rb9
  go_wp2_with fail
  refine (eqSectionS_c B5 B9 d5 d9 z0 z0 _ Hx5.out.arg Hx9.out.arg).mono ?_
  rintro e u10 ⟨rfl, rb10⟩
  have sz10 := rb10.size
  replace Ha0 := Lib.hid (Ha0.out.go rb10)
  replace HT2 := Lib.hid (HT2.out.go rb10)
  replace Hx4 := Lib.hid (Hx4.out.go rb10)
  replace Ox4 := Lib.hid (Ox4.out.go rb10 (by omega))
  replace Hx5 := Lib.hid (Hx5.out.go rb10)
  replace Ox5 := Lib.hid (Ox5.out.go rb10 (by omega))
  replace Hx7 := Lib.hid (Hx7.out.go rb10)
  replace Ox7 := Lib.hid (Ox7.out.go rb10 (by omega))
  replace Hx9 := Lib.hid (Hx9.out.go rb10)
  replace Ox9 := Lib.hid (Ox9.out.go rb10 (by omega))
  replace Bt := Lib.hid (below_step Bt.out rb10)
  clear rb10
  clear Hx9 Ox9
  go_wp2_with fail
  refine (markSectionS_c B5 d5 z0 1 _ _ _ Hx5.out.arg.len (by omega) (by omega) Ox5.out).mono ?_
  rintro e u11 ⟨rfl, rg11, ro11⟩
  have sz11 := rg11.size
  have rr11 := Ox5.out.range
  replace Ha0 := Lib.hid (Ha0.out.grown rg11 (fun r e => by have := rr11 r e; omega))
  replace HT2 := Lib.hid (HT2.out.grown rg11 (fun r e => by have := rr11 r e; omega))
  replace Hx4 := Lib.hid (Hx4.out.grown rg11 (fun r e => by have := rr11 r e; omega))
  replace Ox4 := Lib.hid (Ox4.out.kept rg11 (fun r e => by have := rr11 r e; omega))
  replace Hx7 := Lib.hid (Hx7.out.grown rg11 (fun r e => by have := rr11 r e; omega))
  replace Ox7 := Lib.hid (Ox7.out.kept rg11 (fun r e => by have := rr11 r e; omega))
  replace Bt := Lib.hid (below_row Bt.out rg11 (fun r e => by have := rr11 r e; omega))
  replace Ox5 := Lib.hid ro11
  replace Hx5 := Lib.hid ((owC_marks Ox5.out).held (by have := Hx5.out.2.1; omega) (by rw [marksC_length]; exact Hx5.out.arg.len))
  clear ro11 rg11 rr11
  go_wp2_with fail
  refine (eqFaultS_c B7 B4 d7 d4 (findsL z0 n1 (bothP z0 n1 f2)) (findsL z0 n1 (bothP z0 n1 f2)) _ Hx7.out.arg Hx4.out.arg).mono ?_
  rintro e u12 ⟨rfl, rb12⟩
  have sz12 := rb12.size
  replace Ha0 := Lib.hid (Ha0.out.go rb12)
  replace HT2 := Lib.hid (HT2.out.go rb12)
  replace Hx4 := Lib.hid (Hx4.out.go rb12)
  replace Ox4 := Lib.hid (Ox4.out.go rb12 (by omega))
  replace Hx5 := Lib.hid (Hx5.out.go rb12)
  replace Ox5 := Lib.hid (Ox5.out.go rb12 (by omega))
  replace Hx7 := Lib.hid (Hx7.out.go rb12)
  replace Ox7 := Lib.hid (Ox7.out.go rb12 (by omega))
  replace Bt := Lib.hid (below_step Bt.out rb12)
  clear rb12
  clear Hx5 Ox5
  go_wp2_with fail
  refine (markFaultS_c B7 d7 (findsL z0 n1 (bothP z0 n1 f2)) 1 _ _ _ Hx7.out.arg.len (by omega) (by omega) Ox7.out).mono ?_
  rintro e u13 ⟨rfl, rg13, ro13⟩
  have sz13 := rg13.size
  have rr13 := Ox7.out.range
  replace Ha0 := Lib.hid (Ha0.out.grown rg13 (fun r e => by have := rr13 r e; omega))
  replace HT2 := Lib.hid (HT2.out.grown rg13 (fun r e => by have := rr13 r e; omega))
  replace Hx4 := Lib.hid (Hx4.out.grown rg13 (fun r e => by have := rr13 r e; omega))
  replace Ox4 := Lib.hid (Ox4.out.kept rg13 (fun r e => by have := rr13 r e; omega))
  replace Bt := Lib.hid (below_row Bt.out rg13 (fun r e => by have := rr13 r e; omega))
  replace Ox7 := Lib.hid ro13
  replace Hx7 := Lib.hid ((owF_marks Ox7.out).held (by have := Hx7.out.2.1; omega) (by rw [marksF_length]; exact Hx7.out.arg.len))
  clear ro13 rg13 rr13
  go_wp2_with fail
  refine (heldFaultS_c B7 d7 (List.length (findsL z0 n1 (bothP z0 n1 f2))) 1 _ (by omega) (by omega) Hx7.out.arg).mono ?_
  rintro e w9 ⟨rfl, rfl⟩
  go_wp2
  have rb14 := (Below.refl u13.heap.size u13).drew
  replace Ha0 := Lib.hid (Ha0.out.go rb14)
  replace HT2 := Lib.hid (HT2.out.go rb14)
  replace Hx4 := Lib.hid (Hx4.out.go rb14)
  replace Ox4 := Lib.hid (Ox4.out.go rb14 (by omega))
  replace Hx7 := Lib.hid (Hx7.out.go rb14)
  replace Ox7 := Lib.hid (Ox7.out.go rb14 (by omega))
  replace Bt := Lib.hid (below_step Bt.out rb14)
  clear rb14
  have szd14 : (u13.drew).heap.size = u13.heap.size := rfl
  have pk14 := And.intro (HT2.out).c0 (HT2.out).c1
  go_region_held3 (fun w9 => w9.cell? ⟨w.heap.size, 0, none⟩ = some (.int .i64 f2.t) ∧ w9.cell? ⟨w.heap.size, 1, none⟩ = some (.int .i64 f2.l)) (first | exact pk17 | exact pk16 | exact pk15 | exact pk14)
    (first | (go_at_call 23; refine (toSectionS_c A0 c0 z0 _ Ha0.out.arg).mono ?_; rintro e u15 ⟨B15, d15, rfl, ra15, ro15, rb15⟩; dsimp only [id]; have sz15 := rb15.size; replace Ha0 := Lib.hid (Ha0.out.go rb15); replace HT2 := Lib.hid (HT2.out.go rb15); replace Hx4 := Lib.hid (Hx4.out.go rb15); replace Ox4 := Lib.hid (Ox4.out.go rb15 (by omega)); replace Hx7 := Lib.hid (Hx7.out.go rb15); replace Ox7 := Lib.hid (Ox7.out.go rb15 (by omega)); replace Bt := Lib.hid (below_step Bt.out rb15); have Hx15 := Lib.hid (ro15.held (Nat.le_refl _) ra15.len); have Ox15 := Lib.hid ro15; clear ra15 ro15 rb15; have pk15 := And.intro (HT2.out).c0 (HT2.out).c1) | (go_at_call 43; refine (toRatio_c f2 _).mono ?_; rintro e u16 ⟨rfl, rb16⟩; have sz16 := rb16.size; replace Ha0 := Lib.hid (Ha0.out.go rb16); replace HT2 := Lib.hid (HT2.out.go rb16); replace Hx4 := Lib.hid (Hx4.out.go rb16); replace Ox4 := Lib.hid (Ox4.out.go rb16 (by omega)); replace Hx7 := Lib.hid (Hx7.out.go rb16); replace Ox7 := Lib.hid (Ox7.out.go rb16 (by omega)); replace Hx15 := Lib.hid (Hx15.out.go rb16); replace Ox15 := Lib.hid (Ox15.out.go rb16 (by omega)); replace Bt := Lib.hid (below_step Bt.out rb16); clear rb16; have pk16 := And.intro (HT2.out).c0 (HT2.out).c1) | (go_at_call 44; refine (implFaultBoth_b B15 d15 z0 n1 f2 _ Hx15.out.arg Hn1.out.2).mono ?_; rintro e u17 ⟨B17, d17, rfl, ra17, ro17, rb17⟩; dsimp only; have sz17 := rb17.size; replace Ha0 := Lib.hid (Ha0.out.go rb17); replace HT2 := Lib.hid (HT2.out.go rb17); replace Hx4 := Lib.hid (Hx4.out.go rb17); replace Ox4 := Lib.hid (Ox4.out.go rb17 (by omega)); replace Hx7 := Lib.hid (Hx7.out.go rb17); replace Ox7 := Lib.hid (Ox7.out.go rb17 (by omega)); replace Hx15 := Lib.hid (Hx15.out.go rb17); replace Ox15 := Lib.hid (Ox15.out.go rb17 (by omega)); replace Bt := Lib.hid (below_step Bt.out rb17); have Hx17 := Lib.hid (ro17.held (Nat.le_refl _) ra17.len); have Ox17 := Lib.hid ro17; clear ra17 ro17 rb17; have pk17 := And.intro (HT2.out).c0 (HT2.out).c1))
  clear pk14 pk15 pk16 pk17
  go_wp2_with fail
  refine (eqFaultS_c B17 B4 d17 d4 (findsL z0 n1 (bothP z0 n1 f2)) (findsL z0 n1 (bothP z0 n1 f2)) _ Hx17.out.arg Hx4.out.arg).mono ?_
  rintro e u18 ⟨rfl, rb18⟩
  have sz18 := rb18.size
  replace Ha0 := Lib.hid (Ha0.out.go rb18)
  replace HT2 := Lib.hid (HT2.out.go rb18)
  replace Hx4 := Lib.hid (Hx4.out.go rb18)
  replace Ox4 := Lib.hid (Ox4.out.go rb18 (by omega))
  replace Hx7 := Lib.hid (Hx7.out.go rb18)
  replace Ox7 := Lib.hid (Ox7.out.go rb18 (by omega))
  replace Hx15 := Lib.hid (Hx15.out.go rb18)
  replace Ox15 := Lib.hid (Ox15.out.go rb18 (by omega))
  replace Hx17 := Lib.hid (Hx17.out.go rb18)
  replace Ox17 := Lib.hid (Ox17.out.go rb18 (by omega))
  replace Bt := Lib.hid (below_step Bt.out rb18)
  clear rb18
  go_wp2_with fail
  refine (heldFaultS_c B7 d7 (List.length (findsL z0 n1 (bothP z0 n1 f2))) 1 _ (by omega) (by omega) Hx7.out.arg).mono ?_
  rintro e w9 ⟨rfl, rfl⟩
  go_wp2
  go_ret
  exact ⟨rfl, Bt.out⟩

theorem exFaultBoth_walk (A0 : Option Addr) (c0 : Nat) (z0 : List Sec) (n1 : Int) (f2 : Rat2) (w : World) (ha0 : ArgC0 w A0 c0 z0) (hn1 : -9223372036854775808 ≤ n1 ∧ n1 ≤ 9223372036854775807) :
    Calls Try.prog 11 #[.slice A0 z0.length c0, .int .i64 n1, .agg #[.int .i64 f2.t, .int .i64 f2.l]] w (RetB (.bool true) w) := by
  by_cases hl0 : 1048576 < z0.length
  · have hc0 := ha0.1
    have hm0 := ha0.2.1
    have hk0 : (1048576 : Int) < (z0.length : Int) := by omega
    clear ha0
    go_enter Try.func11, Try.ntmps11
    go_wp2_with fail
    refine (szSectionS_no A0 c0 z0.length (1048576) _ hk0 (by omega) hc0 hm0).mono ?_
    rintro e w9 ⟨rfl, rfl⟩
    go_wp2
    go_ret
    exact ⟨rfl, (Below.refl _ _).alloc (Nat.le_refl _) _⟩
  exact exFaultBoth_in A0 c0 z0 n1 f2 w (ha0.arg (by omega)) (by omega) hn1

set_option maxRecDepth 100000 in
theorem exFaultBoth_lifted (os : Os) (started : os.Started) (H : Type) (enc : TypeId × Value → H) :
    ReturnsInHanded {} Try.checked os 11 .any (Rows.fnExactFaultBothSpec.pre6 enc Try.prog Try.f11 Rows.fnExactFaultBothRow.domain false) (Rows.fnExactFaultBothSpec.post enc Try.prog Try.f11 false true false false) := by
  refine returnsInHanded_of_change (C := Try.checked) row_own started (by kernel_rfl) Try.func11
    (ChangeSpec.witness6 (enc := enc) (C := Try.checked) false ⟨#[], #[.slice none 0 0, .int .i64 0, .agg #[.int .i64 0, .int .i64 0]], []⟩ 8 (by kernel_rfl) (by kernel_rfl) (by kernel_rfl) (by kernel_rfl)) ?_
  intro W base args ds gs before hval0 hW hcnd _
  have hval : ∀ (j : Nat) t v, Try.f11.params[j]? = some t → args[j]? = some v → Value.okWide Try.prog W .any base t v := hval0
  have hW' := hW
  obtain ⟨p, q, hA0, hV, rfl, _, _⟩ := hW
  have hA : DataW.TrodAll enc Try.prog W 0 (fun _ => true) true Try.f11.params.toList args.toList ds p := hA0
  rw [Try.params11] at hA hval
  obtain ⟨v0, vs0, d0, ds0, p0, q0, hargs, rfl, rfl, h0, r0⟩ := trodAll_cons hA
  obtain ⟨v1, vs1, d1, ds1, p1, q1, rfl, rfl, rfl, h1, r1⟩ := trodAll_cons r0
  obtain ⟨v2, vs2, d2, ds2, p2, q2, rfl, rfl, rfl, h2, r2⟩ := trodAll_cons r1
  obtain ⟨rfl, rfl, rfl⟩ := trodAll_nil r2
  obtain rfl : args = #[v0, v1, v2] := by cases args; simp_all
  obtain ⟨rfl, rfl⟩ := trodVars_none hV
  have hlt0 : ∀ x ∈ p0, x.block < W.heap.size := fun x hx => by exact hW'.lt x (by simp [hx])
  obtain ⟨A0, c0, z0, rfl, ha0⟩ := open_secs (hval 0 33 v0 rfl rfl) h0 hlt0
  obtain ⟨n1, rfl, rfl, rfl, wf1⟩ := open_int Try.underlying3 (hval 1 3 v1 rfl rfl) h1
  obtain ⟨f2, rfl, rfl, rfl, wf2a, wf2b⟩ := open_ratio (hval 2 57 v2 rfl rfl) h2
  clear hA0 hval0
  refine (exFaultBoth_walk A0 c0 z0 n1 f2 W ha0 (wf_i64 wf1)).mono fun e W' ⟨he, hb⟩ => ?_
  subst he
  exact ⟨_, rfl, _, _, _, [], _, [], hW', (trodAll_cons_mk (shut_bool Try.underlying4 _) trodAll_mk0), (trodAll_cons_mk (read_again_secs h0 hlt0 hb) (trodAll_cons_mk (shut_int Try.underlying3 wf1) (trodAll_cons_mk (shut_ratio wf2a wf2b) trodAll_mk0))), rfl, hb.frame _, fun h => by cases h⟩

/-- THE STATEMENT -/
theorem exFaultBoth_holds : Rows.FnExactFaultBothSaid :=
  OpenClaim.holds_of_wide 11 Try.f11 rfl rfl rfl rfl rfl rfl rfl ⟨rfl, rfl, rfl, rfl, rfl⟩ rfl rfl rfl rfl rfl (by kernel_rfl) Try.func11 (by kernel_rfl)
    (of_decide_eq_true (by kernel_rfl)) (by unfold Func.isWrapper; first | (rw [if_pos (by decide +kernel)]; kernel_rfl) | (rw [if_neg (by decide +kernel)]; exact ⟨rfl, rfl⟩))
    (fun os started H enc _ => exFaultBoth_lifted os started H enc)
#print axioms exFaultBoth_holds
end Go.Proofs.Ytleagighkbmapaa
