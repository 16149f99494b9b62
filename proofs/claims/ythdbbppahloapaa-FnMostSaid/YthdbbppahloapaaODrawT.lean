/-
  Drawn orders and stowages: l92Stowage.
-/
import Derived.Test.YthdbbppahloapaaODrawL
import Derived.Test.YthdbbppahloapaaStwS
import Derived.Test.YthdbbppahloapaaApI0
import Derived.Deep.OwnRows
import Derived.RegionTactic
namespace Go.Proofs.Ythdbbppahloapaa
open Go.RowKit

/-- a row of zeros in a block of its own, as an argument -/
theorem arg_zero (w : World) (n : Nat) (t : TypeId) (h : n ≤ 2097152) : Arg (w.alloc (.cells (madeCells #[.int .i64 0] n) t)) (some ⟨w.heap.size, 0, none⟩) n (List.replicate n 0) := by
  refine ⟨by simpa using h, by simp, by unfold maxLen; omega, fun _ => ⟨w.heap.size, 0, rfl, Nat.zero_le _, by simp, fun j hj => ?_⟩⟩
  have hj2 : j < n := by simpa using hj
  have h2 := (World.rowIs_made w (.int .i64 0) n t).cell hj2
  rw [Nat.zero_add, h2]
  simp [hj2]
theorem mkL_len (L : List Int) : (mkL L).length ≤ L.length := by
  unfold mkL
  split
  · rw [stT_len]; exact Nat.le_refl _
  · exact Nat.zero_le _

/-- WHAT A DRAWN STOWAGE IS: two lists of at most 20 ints each; nothing but the reader turned. -/
def RetTwoL (R : Nat) (w : World) (e : Ending) (w' : World) : Prop :=
  ∃ B d zs C k ts, e = .returned (.tuple #[.slice B (zs : List Int).length d, .slice C (ts : List Int).length k]) ∧ zs.length ≤ 20 ∧ ts.length ≤ 20 ∧ Arg w' B d zs ∧ Arg w' C k ts ∧ w.grownBy w' (some R)

set_option maxHeartbeats 2000000 in
theorem l92Stowage_c (R : Nat) (A : Option Addr) (n c p : Nat) (w : World) (h : Reader w R A n c p) (hRw : R < w.heap.size) (hp : p ≤ 50000) :
    Calls Try.prog 35 #[.pointer (some ⟨R, 0, none⟩)] w (RetTwoL R w) := by
  obtain ⟨i0, hi, hz0, hz1, hz2⟩ := info_parts int_info
  have H0 := Lib.hid h
  clear h
  go_enter Try.func35, Try.ntmps35
  go_wp2_with fail
  refine (l92Orders_c R A n c p 8 _ H0.out hRw (by omega) (by omega) (by omega)).mono ?_
  rintro e w1 ⟨B, d, zs, q, rfl, hl, ha, ho, hr, hq, hg⟩
  have hs1 := hg.size
  have Ha := Lib.hid ha
  have Ho := Lib.hid ho
  have H1 := Lib.hid hr
  have Hg1 := Lib.hid hg
  clear ha ho hr hg H0
  go_wp2_with fail
  refine (specStowageMake_b B d zs _ Ha.out).mono ?_
  rintro e w2 ⟨B5, d5, rfl, ra5, ro5, rb5⟩
  dsimp only
  have hs2 := rb5.size
  have H2 := Lib.hid (H1.out.kept (grown_of_below rb5 none) (by simp))
  have Hg2 := Lib.hid (grown_then Hg1.out (grown_of_below rb5 (some R)))
  have Ho2 := Lib.hid (Ho.out.go rb5 (Nat.le_refl _))
  have htl := mkL_len zs
  obtain ⟨ts, hts⟩ : ∃ ts, mkL zs = ts := ⟨_, rfl⟩
  rw [hts] at ra5 htl ⊢
  have T2 := Lib.hid ra5
  clear ra5 ro5 rb5 hts H1 Hg1 Ho Ha
  cases mkB zs
  · have hmk := run_make_row (P := Try.prog) 23 3 i0 (.int .i64 0) Try.underlying23 hi hz0 hz1 rfl .i64 .i64 zs.length (by rw [hz2]; omega) (by omega)
    clear hi hz0 hz1 hz2
    go_wp2
    go_region
    all_goals
      go_wp2
      go_ret2
      exact ⟨B, d, zs, some ⟨w2.heap.size, 0, none⟩, zs.length, List.replicate zs.length 0, by rw [List.length_replicate]; rfl, hl, by simpa using hl,
        ((Ho2.out.kept (grown_drew (World.grownBy.refl w2 none)) (by simp)).kept (World.grownBy_alloc _ _ none) (by simp)).arg (by omega) (by simp; omega),
        arg_zero w2.drew zs.length _ (by omega), grown_alloc (grown_drew Hg2.out) _⟩
  rcases Nat.eq_zero_or_pos ts.length with h0 | hpos
  · obtain rfl : ts = [] := List.eq_nil_of_length_eq_zero h0
    go_wp2_with (at_builtin; refine wpList_append_ints rfl (.tmp 21) (.tmp 22) 23 rfl w2.heap.size 3 i0 (.int .i64 0) Try.underlying23 hi hz0 hz1 hz2 rfl (.slice (some ⟨w2.heap.size, 0, none⟩) 0 0) [] rfl (own_none w2 _) B5 d5 [] rfl (T2.out.go (below_none w2 _)) (by simp) (by simp) ?_; intro v1 w3 hown3 hg3; have H3 := Lib.hid (next1 hown3 hg3); clear hown3 hg3; obtain ⟨C, k, rfl, _, _, _⟩ := (Ow.of_own H3.out.1).form)
    go_ret2
    exact ⟨B, d, zs, C, k, [], rfl, hl, by simp, (Ho2.out.below H3.out.2 hs2).arg (by omega) (Nat.le_trans hs2 H3.out.2.size), (Ow.of_own H3.out.1).arg (by simp) (Nat.le_refl _), grown_then Hg2.out (grown_of_below H3.out.2 _)⟩
  have g0 : (0 : Int) < (ts.length : Int) := by omega
  go_wp2_with (at_builtin; refine wpList_append_ints rfl (.tmp 21) (.tmp 22) 23 rfl w2.heap.size 3 i0 (.int .i64 0) Try.underlying23 hi hz0 hz1 hz2 rfl (.slice (some ⟨w2.heap.size, 0, none⟩) 0 0) [] rfl (own_none w2 _) B5 d5 ts rfl (T2.out.go (below_none w2 _)) (by simp; omega) (by simp) ?_; intro v1 w3 hown3 hg3; have H3 := Lib.hid (next1 hown3 hg3); clear hown3 hg3; obtain ⟨C, k, rfl, _, _, _⟩ := (Ow.of_own H3.out.1).form)
  have hs3 := H3.out.2.size
  have R3 := Lib.hid (H2.out.kept (grown_of_below H3.out.2 none) (by simp))
  have Hg3 := Lib.hid (grown_then Hg2.out (grown_of_below H3.out.2 (some R)))
  have Ho3 := Lib.hid (Ho2.out.below H3.out.2 hs2)
  have O3 := Lib.hid H3.out.1
  clear H3 H2 Hg2 Ho2 T2
  refine (pick_c R A n c q 2 _ R3.out (by omega) (by omega) (by omega)).mono ?_
  rintro e w4 ⟨k1, rfl, k10, k11, hr4, hg4⟩
  have hs4 := hg4.size
  have R4 := Lib.hid hr4
  have Hg4 := Lib.hid (grown_then Hg3.out hg4)
  have Ho4 := Lib.hid (Ho3.out.kept hg4 (fun r e => by cases e; exact .inl hRw))
  have O4 := Lib.hid (own_read O3.out (by omega) hg4)
  clear hr4 hg4 R3 Hg3 Ho3 O3
  rcases (show k1 = 0 ∨ k1 = 1 by omega) with rfl | rfl
  · go_wp2_with fail
    refine (pick_c R A n c (q + 1) (ts.length : Int) _ R4.out (by omega) (by omega) (by omega)).mono ?_
    rintro e w5 ⟨k2, rfl, k20, k21, hr5, hg5⟩
    obtain ⟨k2, rfl⟩ := Int.eq_ofNat_of_zero_le k20
    have hs5 := hg5.size
    have R5 := Lib.hid hr5
    have Hg5 := Lib.hid (grown_then Hg4.out hg5)
    have Ho5 := Lib.hid (Ho4.out.kept hg5 (fun r e => by cases e; exact .inl hRw))
    have O5 := Lib.hid (own_read O4.out (by omega) hg5)
    clear hr5 hg5 R4 Hg4 Ho4 O4
    go_wp2_with fail
    refine (pick_c R A n c (q + 1 + 1) 7 _ R5.out (by omega) (by omega) (by omega)).mono ?_
    rintro e w6 ⟨k3, rfl, k30, k31, hr6, hg6⟩
    have hs6 := hg6.size
    have Hg6 := Lib.hid (grown_then Hg5.out hg6)
    have Ho6 := Lib.hid (Ho5.out.kept hg6 (fun r e => by cases e; exact .inl hRw))
    have O6 := Lib.hid (own_read O5.out (by omega) hg6)
    clear hr6 hg6 R5 Hg5 Ho5 O5
    obtain ⟨g, cap, hform, hck, hfk, hgb, ho', hg'⟩ := own_put (y := ts) (i := k2) O6.out (by omega) (k3 - 1)
    injection hform with e1 e2 e3
    subst e1
    subst e3
    have hs7 := hg'.size
    have q1 : IntKind.i64.wrap (k3 - 1) = k3 - 1 := IntWalk.i64_in _ (by omega)
    have HO7 := Lib.hid ((Ow.of_own ho').arg (by rw [List.length_set]; omega) (Nat.le_refl _))
    have Hg7 := Lib.hid (grown_new Hg6.out hg' (fun r e => by cases e; omega))
    have Ho7 := Lib.hid ((Ho6.out.kept hg' (fun r e => by cases e; exact .inr (by omega))).arg (by omega) (by omega))
    have g3 : (k2 : Int) < (ts.length : Int) := by omega
    have g4 : (0 : Int) ≤ (k2 : Int) := by omega
    clear ho' hg' e2
    go_wp2
    go_ret2
    exact ⟨B, d, zs, some ⟨g, 0, none⟩, k, ts.set k2 (k3 - 1), by rw [List.length_set]; rfl, hl, by rw [List.length_set]; omega, Ho7.out, HO7.out, Hg7.out⟩
  · go_wp2
    go_ret2
    exact ⟨B, d, zs, C, k, ts, rfl, hl, by omega, Ho4.out.arg (by omega) (by omega), (Ow.of_own O4.out).arg (by omega) (Nat.le_refl _), Hg4.out⟩

end Go.Proofs.Ythdbbppahloapaa
