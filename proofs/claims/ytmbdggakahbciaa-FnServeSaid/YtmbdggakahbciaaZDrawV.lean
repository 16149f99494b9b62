/-
  The drawn servings: l91At, DrawServeValid, DrawServeWaste.
-/
import Derived.Test.YtmbdggakahbciaaZDrawN0
import Derived.Test.YtmbdggakahbciaaSvBS
import Derived.Test.YtmbdggakahbciaaAppI
namespace Go.Proofs.Ytmbdggakahbciaa
open Go.RowKit

theorem own_kept_I {w w' : World} {R base : Nat} {e : TypeId} {n : Nat} {v : Value} {xs : List Value} (h : w.ownsRow base e 1 v n xs) (hg : w.grownBy w' (some R)) (hR : R < base) : w'.ownsRow base e 1 v n xs := by
  refine h.kept hg ?_
  cases hb : v.ownBlock with
  | none => exact .inl rfl
  | some g => exact .inr fun e => by have := (h.lt g hb).1; simp at e; omega

/-- some index -/
def RetAt (R : Nat) (A : Option Addr) (n c p : Nat) (w : World) (e : Ending) (w' : World) : Prop :=
  ∃ x q, e = .returned (.int .i64 x) ∧ Reader w' R A n c q ∧ q ≤ p + 2 ∧ w.grownBy w' (some R)

set_option maxRecDepth 100000 in
set_option maxHeartbeats 2000000 in
theorem l91At_c (R : Nat) (A : Option Addr) (n c p k : Nat) (w : World) (h : Reader w R A n c p) (hRw : R < w.heap.size) (hp : p ≤ 50000) (hk : k ≤ 12) :
    Calls Try.prog 47 #[.pointer (some ⟨R, 0, none⟩), .int .i64 k] w (RetAt R A n c p w) := by
  have two : ∀ (p' : Nat) (w' : World), Reader w' R A n c p' → R < w'.heap.size → p' ≤ p + 1 → w.grownBy w' (some R) → Calls Try.prog 39 #[.pointer (some ⟨R, 0, none⟩), .int .i64 2] (w'.alloc (.cells #[.int .i64 (-1), .int .i64 k] 3))
      fun e w4 => ∃ k4 : Int, e = .returned (.int .i64 k4) ∧ 0 ≤ k4 ∧ k4 < 2 ∧ w4.cell? ⟨w'.heap.size, 0, none⟩ = some (.int .i64 (-1)) ∧ w4.cell? ⟨w'.heap.size, 1, none⟩ = some (.int .i64 k) ∧ Reader w4 R A n c (p' + 1) ∧ w.grownBy w4 (some R) := by
    intro p' w' hr hRw' hp' hg
    have hga : w'.grownBy (w'.alloc (.cells #[.int .i64 (-1), .int .i64 k] 3)) (some R) := grown_alloc (World.grownBy.refl w' _) _
    refine (pick_c R A n c p' 2 _ (hr.kept (grown_alloc (World.grownBy.refl w' none) _) (by simp)) (by omega) (by omega) (by omega)).mono ?_
    rintro e w4 ⟨k4, rfl, k40, k41, hr4, hg4⟩
    have hrow := (hg4.block w'.heap.size (by simp) (by simp; omega)).trans (heap_alloc_new w' _)
    have hc0 := cell_of_row _ _ 0 _ _ _ hrow
    have hc1 := cell_of_row _ _ 1 _ _ _ hrow
    exact ⟨k4, rfl, k40, k41, hc0, hc1, hr4, grown_then hg (grown_then hga hg4)⟩
  have Two := Lib.hid two
  have H0 := Lib.hid h
  clear h two
  by_cases hk0 : k = 0
  · subst hk0
    go_enter Try.func47, Try.ntmps47
    go_wp2_with fail
    refine (Two.out p w H0.out hRw (by omega) (World.grownBy.refl _ _)).mono ?_
    rintro e w4 ⟨k4, rfl, k40, k41, c0, c1, hr4, hg4⟩
    have Hr4 := Lib.hid hr4
    have Hg4 := Lib.hid hg4
    clear hr4 hg4
    obtain rfl | rfl : k4 = 0 ∨ k4 = 1 := by omega
    · go_wp2
      go_ret
      exact ⟨_, p + 1, rfl, Hr4.out, by omega, Hg4.out⟩
    · go_wp2
      go_ret
      exact ⟨_, p + 1, rfl, Hr4.out, by omega, Hg4.out⟩
  · have gkb : ((k : Int) == 0) = false := beq_false_of_ne (by omega)
    go_enter Try.func47, Try.ntmps47
    go_wp2_with fail
    refine (pick_c R A n c p 20 _ H0.out (by omega) (by omega) (by omega)).mono ?_
    rintro e w2 ⟨k2, rfl, k20, k21, hr2, hg2⟩
    have s2 := hg2.size
    have Hr2 := Lib.hid hr2
    have Hg2 := Lib.hid hg2
    clear hr2 hg2
    by_cases h2 : k2 = 0
    · subst h2
      go_wp2_with fail
      refine (Two.out (p + 1) w2 Hr2.out (by omega) (by omega) Hg2.out).mono ?_
      rintro e w4 ⟨k4, rfl, k40, k41, c0, c1, hr4, hg4⟩
      have Hr4 := Lib.hid hr4
      have Hg4 := Lib.hid hg4
      clear hr4 hg4
      obtain rfl | rfl : k4 = 0 ∨ k4 = 1 := by omega
      · go_wp2
        go_ret
        exact ⟨_, p + 1 + 1, rfl, Hr4.out, by omega, Hg4.out⟩
      · go_wp2
        go_ret
        exact ⟨_, p + 1 + 1, rfl, Hr4.out, by omega, Hg4.out⟩
    · have g2b : (k2 == 0) = false := by simpa using h2
      go_wp2_with fail
      refine (pick_c R A n c (p + 1) (k : Int) _ Hr2.out (by omega) (by omega) (by omega)).mono ?_
      rintro e w3 ⟨k3, rfl, k30, k31, hr3, hg3⟩
      have Hr3 := Lib.hid hr3
      have Hg3 := Lib.hid (grown_then Hg2.out hg3)
      clear hr3 hg3
      go_wp2
      go_ret
      exact ⟨k3, p + 1 + 1, rfl, Hr3.out, by omega, Hg3.out⟩

/-- spares, needs and some list -/
def RetSv (w : World) (e : Ending) (w' : World) : Prop :=
  ∃ B d zs B2 d2 ys B3 d3 xs, e = .returned (.tuple #[.slice B (zs : List Spr).length d, .slice B2 (ys : List Spr).length d2, .slice B3 (xs : List Int).length d3]) ∧ zs.length ≤ 12 ∧ ys.length ≤ 3 ∧ ArgZ w' B d zs ∧ ArgZ w' B2 d2 ys ∧ Arg w' B3 d3 xs ∧ Below w.heap.size w w'

set_option maxRecDepth 100000 in
set_option maxHeartbeats 4000000 in
theorem DrawServeValid_c (A : Option Addr) (n c : Nat) (w : World) (hn : n ≤ 9223372036854775807) (hnc : n ≤ c) (hb : Bytes w.heap.size w A n) :
    Calls Try.prog 19 #[.slice A n c] w (RetSv w) := by
  obtain ⟨i0, hi, hz0, hz1, hz2⟩ := info_parts intInf
  have Hb := Lib.hid hb
  clear hb
  go_enter Try.func19, Try.ntmps19
  go_wp2_with fail
  refine (l6Open_c A n c _ hn hnc Hb.out).mono ?_
  rintro e w0 ⟨n1, c1, rfl, hr0, hb0, hs0⟩
  have H0 := Lib.hid hr0
  have HB0 := Lib.hid hb0
  obtain ⟨R, hR⟩ : ∃ R, w.heap.size = R := ⟨_, rfl⟩
  rw [hR] at H0 hs0
  have hRR : w.heap.size ≤ R := by omega
  clear hr0 hb0
  go_wp2_with fail
  refine (l91Needs_c R A n1 c1 0 _ H0.out hs0 (by omega)).mono ?_
  rintro e w1 ⟨B, d, zs, B2, d2, ys, q, rfl, hzl, hyl, ho1, ho2, hr1, hq, hg1⟩
  have s1 := hg1.size
  have HO1 := Lib.hid ho1
  have HP1 := Lib.hid ho2
  have HR1 := Lib.hid hr1
  have HB1 := Lib.hid (draw_below HB0.out hRR hg1)
  clear ho1 ho2 hr1 hg1 H0
  go_wp2_with fail
  refine (specServeBest_b B d zs B2 d2 ys _ (HO1.out.arg (by omega) (Nat.le_refl _)) (HP1.out.arg (by omega) (Nat.le_refl _))).mono ?_
  rintro e w2 ⟨B3, d3, rfl, ra2, ro2, rb2⟩
  dsimp only
  have s2 := rb2.size
  have HO2 := Lib.hid (HO1.out.kept (grown_of_below rb2 none) (by simp))
  have HP2 := Lib.hid (HP1.out.kept (grown_of_below rb2 none) (by simp))
  have HR2 := Lib.hid (HR1.out.kept (grown_of_below rb2 none) (by simp))
  have HB2 := Lib.hid (below_step HB1.out rb2)
  have HX2 := Lib.hid ro2
  have hxl := ra2.len
  clear ra2 ro2 rb2 HO1 HP1 HR1 HB1
  cases hv : serveB zs ys
  · clear hv
    have Hown0 := Lib.hid (show (w2.alloc (.cells #[] 3)).ownsRow w2.heap.size 3 1 (.slice (some ⟨w2.heap.size, 0, none⟩) 0 0) ([] : List Int).length (([] : List Int).map (Value.int .i64)) from own_none w2 _)
    have hga : w2.grownBy (w2.alloc (.cells #[] 3)) none := World.grownBy_alloc w2 _ none
    have Hza := Lib.hid (HO2.out.kept hga (by simp))
    have Hya := Lib.hid (HP2.out.kept hga (by simp))
    have Hra := Lib.hid (HR2.out.kept hga (by simp))
    have Hba := Lib.hid (HB2.out.alloc HB2.out.size (.cells #[] 3))
    have hw1z : w1.heap.size ≤ w2.heap.size := by omega
    have hws := Hba.out.size
    clear hga
    go_wp2
    go_loopw [10, 11] (fun ov iv wr => ∃ (i : Nat) (v : Value) (xs : List Int) (qr : Nat), i ≤ ys.length ∧ iv = .int .i64 i ∧ v = ov ∧ xs.length = i ∧ wr.ownsRow w2.heap.size 3 1 v xs.length (xs.map (Value.int .i64)) ∧ Reader wr R A n1 c1 qr ∧ qr ≤ 300 + 2 * i ∧ OwZ 30 w0.heap.size w1.heap.size wr (.slice B zs.length d) zs ∧ OwZ 30 w0.heap.size w1.heap.size wr (.slice B2 ys.length d2) ys ∧ Below w.heap.size w wr ∧ w2.heap.size ≤ wr.heap.size) (fun _ iv _ => ys.length - (intOf iv).toNat)
    case atStart => exact ⟨0, _, [], q, Nat.zero_le _, rfl, rfl, rfl, Hown0.out, Hra.out, by omega, Hza.out, Hya.out, Hba.out, by simp⟩
    case round =>
      obtain ⟨i, v, xs, qr, hi3, rfl, rfl, hxi, hok, hrd, hqr, hzz, hyy, hbb, hsz⟩ := hrel
      have Hok := Lib.hid hok
      have Hrd := Lib.hid hrd
      have Hzz := Lib.hid hzz
      have Hyy := Lib.hid hyy
      have Hbb := Lib.hid hbb
      clear hok hrd hzz hyy hbb
      by_cases hlt : i < ys.length
      · have g1 : (i : Int) < (ys.length : Int) := by omega
        go_wp2_with fail
        refine (l91At_c R A n1 c1 qr zs.length _ Hrd.out (by omega) (by omega) hzl).mono ?_
        rintro e w5 ⟨x, q5, rfl, hr5, hq5, hg5⟩
        have s5 := hg5.size
        have Hr5 := Lib.hid hr5
        have Hz5 := Lib.hid (Hzz.out.kept hg5 (fun r e => by cases e; exact .inl hs0))
        have Hy5 := Lib.hid (Hyy.out.kept hg5 (fun r e => by cases e; exact .inl hs0))
        have Hb5 := Lib.hid (draw_below Hbb.out hRR hg5)
        have Hown5 := Lib.hid (own_kept_I Hok.out hg5 (by omega))
        clear hr5 hg5
        go_wp2_with (at_builtin; refine wpList_append_ints rfl (.tmp 41) (.tmp 46) 36 rfl w2.heap.size 3 i0 (.int .i64 0) Try.underlying36 hi hz0 hz1 hz2 rfl v xs rfl (Hown5.out.alloc _) (some ⟨w5.heap.size, 0, none⟩) 1 [x] rfl (arg_one w5 x _) (by simp; omega) (by simp; omega) ?_; intro v6 w6 hown6 hg6; have hga6 : w5.grownBy w6 v.ownBlock := grown_then (grown_alloc (World.grownBy.refl w5 _) _) hg6; have hgl := fun r e => (Hown5.out.lt r e).1; have H6 := Lib.hid (And.intro (Hr5.out.kept hga6 (fun r e => by have := hgl r e; omega)) (And.intro (Hz5.out.kept hga6 (fun r e => .inr (by have := hgl r e; omega))) (And.intro (Hy5.out.kept hga6 (fun r e => .inr (by have := hgl r e; omega))) (And.intro (Hb5.out.grown hga6 Hb5.out.size (fun r e => by have := hgl r e; omega)) hown6)))); have s6 := hga6.size; clear hown6 hg6 hga6 hgl)
        go_roundw
        case rel => exact ⟨i + 1, _, xs ++ [x], q5, by omega, by go_num, rfl, by simp [hxi], H6.out.2.2.2.2, H6.out.1, by omega, H6.out.2.1, H6.out.2.2.1, H6.out.2.2.2.1, by omega⟩
        case measure => simp [intOf]; omega
      · obtain rfl : i = ys.length := by omega
        obtain ⟨A9, c9, rfl, _, _, _⟩ := (Ow.of_own Hok.out).form
        have Hx9 := Lib.hid ((Ow.of_own Hok.out).arg (by omega) (Nat.le_refl _))
        go_wp2
        go_ret3
        exact ⟨B, d, zs, B2, d2, ys, A9, c9, xs, rfl, hzl, hyl, Hzz.out.arg (by omega) (by omega), Hyy.out.arg (by omega) (by omega), Hx9.out, Hbb.out⟩
  · have Hxl := Lib.hid hxl
    clear hv
    go_wp2_with fail
    refine (pick_c R A n1 c1 q 2 _ HR2.out (by omega) (by omega) (by omega)).mono ?_
    rintro e w3 ⟨k3, rfl, k30, k31, hr3, hg3⟩
    have s3 := hg3.size
    have HO3 := Lib.hid (HO2.out.kept hg3 (fun r e => by cases e; exact .inl hs0))
    have HP3 := Lib.hid (HP2.out.kept hg3 (fun r e => by cases e; exact .inl hs0))
    have HX3 := Lib.hid (HX2.out.kept hg3 (fun r e => by cases e; exact .inl (by omega)))
    have HR3 := Lib.hid hr3
    have HB3 := Lib.hid (draw_below HB2.out hRR hg3)
    clear hr3 hg3
    by_cases hk : k3 = 0
    · subst hk
      go_wp2
      go_ret3
      exact ⟨B, d, zs, B2, d2, ys, B3, d3, serveL zs ys, rfl, hzl, hyl, HO3.out.arg (by omega) (by omega), HP3.out.arg (by omega) (by omega), HX3.out.arg Hxl.out (by omega), HB3.out⟩
    · have hkb : (k3 == 0) = false := by simpa using hk
      clear HX2 HX3
      have Hown0 := Lib.hid (show (w3.alloc (.cells #[] 3)).ownsRow w3.heap.size 3 1 (.slice (some ⟨w3.heap.size, 0, none⟩) 0 0) ([] : List Int).length (([] : List Int).map (Value.int .i64)) from own_none w3 _)
      have hga : w3.grownBy (w3.alloc (.cells #[] 3)) none := World.grownBy_alloc w3 _ none
      have Hza := Lib.hid (HO3.out.kept hga (by simp))
      have Hya := Lib.hid (HP3.out.kept hga (by simp))
      have Hra := Lib.hid (HR3.out.kept hga (by simp))
      have Hba := Lib.hid (HB3.out.alloc HB3.out.size (.cells #[] 3))
      have hw1z : w1.heap.size ≤ w3.heap.size := by omega
      have hws := Hba.out.size
      clear hga
      go_wp2
      go_loopw [10, 11] (fun ov iv wr => ∃ (i : Nat) (v : Value) (xs : List Int) (qr : Nat), i ≤ ys.length ∧ iv = .int .i64 i ∧ v = ov ∧ xs.length = i ∧ wr.ownsRow w3.heap.size 3 1 v xs.length (xs.map (Value.int .i64)) ∧ Reader wr R A n1 c1 qr ∧ qr ≤ 300 + 2 * i ∧ OwZ 30 w0.heap.size w1.heap.size wr (.slice B zs.length d) zs ∧ OwZ 30 w0.heap.size w1.heap.size wr (.slice B2 ys.length d2) ys ∧ Below w.heap.size w wr ∧ w3.heap.size ≤ wr.heap.size) (fun _ iv _ => ys.length - (intOf iv).toNat)
      case atStart => exact ⟨0, _, [], (q + 1), Nat.zero_le _, rfl, rfl, rfl, Hown0.out, Hra.out, by omega, Hza.out, Hya.out, Hba.out, by simp⟩
      case round =>
        obtain ⟨i, v, xs, qr, hi3, rfl, rfl, hxi, hok, hrd, hqr, hzz, hyy, hbb, hsz⟩ := hrel
        have Hok := Lib.hid hok
        have Hrd := Lib.hid hrd
        have Hzz := Lib.hid hzz
        have Hyy := Lib.hid hyy
        have Hbb := Lib.hid hbb
        clear hok hrd hzz hyy hbb
        by_cases hlt : i < ys.length
        · have g1 : (i : Int) < (ys.length : Int) := by omega
          go_wp2_with fail
          refine (l91At_c R A n1 c1 qr zs.length _ Hrd.out (by omega) (by omega) hzl).mono ?_
          rintro e w5 ⟨x, q5, rfl, hr5, hq5, hg5⟩
          have s5 := hg5.size
          have Hr5 := Lib.hid hr5
          have Hz5 := Lib.hid (Hzz.out.kept hg5 (fun r e => by cases e; exact .inl hs0))
          have Hy5 := Lib.hid (Hyy.out.kept hg5 (fun r e => by cases e; exact .inl hs0))
          have Hb5 := Lib.hid (draw_below Hbb.out hRR hg5)
          have Hown5 := Lib.hid (own_kept_I Hok.out hg5 (by omega))
          clear hr5 hg5
          go_wp2_with (at_builtin; refine wpList_append_ints rfl (.tmp 41) (.tmp 46) 36 rfl w3.heap.size 3 i0 (.int .i64 0) Try.underlying36 hi hz0 hz1 hz2 rfl v xs rfl (Hown5.out.alloc _) (some ⟨w5.heap.size, 0, none⟩) 1 [x] rfl (arg_one w5 x _) (by simp; omega) (by simp; omega) ?_; intro v6 w6 hown6 hg6; have hga6 : w5.grownBy w6 v.ownBlock := grown_then (grown_alloc (World.grownBy.refl w5 _) _) hg6; have hgl := fun r e => (Hown5.out.lt r e).1; have H6 := Lib.hid (And.intro (Hr5.out.kept hga6 (fun r e => by have := hgl r e; omega)) (And.intro (Hz5.out.kept hga6 (fun r e => .inr (by have := hgl r e; omega))) (And.intro (Hy5.out.kept hga6 (fun r e => .inr (by have := hgl r e; omega))) (And.intro (Hb5.out.grown hga6 Hb5.out.size (fun r e => by have := hgl r e; omega)) hown6)))); have s6 := hga6.size; clear hown6 hg6 hga6 hgl)
          go_roundw
          case rel => exact ⟨i + 1, _, xs ++ [x], q5, by omega, by go_num, rfl, by simp [hxi], H6.out.2.2.2.2, H6.out.1, by omega, H6.out.2.1, H6.out.2.2.1, H6.out.2.2.2.1, by omega⟩
          case measure => simp [intOf]; omega
        · obtain rfl : i = ys.length := by omega
          obtain ⟨A9, c9, rfl, _, _, _⟩ := (Ow.of_own Hok.out).form
          have Hx9 := Lib.hid ((Ow.of_own Hok.out).arg (by omega) (Nat.le_refl _))
          go_wp2
          go_ret3
          exact ⟨B, d, zs, B2, d2, ys, A9, c9, xs, rfl, hzl, hyl, Hzz.out.arg (by omega) (by omega), Hyy.out.arg (by omega) (by omega), Hx9.out, Hbb.out⟩

end Go.Proofs.Ytmbdggakahbciaa
