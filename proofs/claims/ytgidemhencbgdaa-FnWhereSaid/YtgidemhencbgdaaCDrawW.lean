/-
  The drawn cables with a number of ohms: DrawCableWhere; and DrawCableText where the seat has it.
-/
import Derived.Test.YtgidemhencbgdaaCDraw
import Derived.Deep.RegionWith
namespace Go.Proofs.Ytgidemhencbgdaa
open Go.RowKit

theorem draw_below {w a b : World} {R : Nat} (h : Below w.heap.size w a) (hR : w.heap.size ≤ R) (hg : a.grownBy b (some R)) : Below w.heap.size w b := h.grown hg h.size (fun r e => by cases e; exact hR)

/-- a cable of at most 20 sections and a number of ohms -/
def RetWhere (w : World) (e : Ending) (w' : World) : Prop :=
  ∃ B d zs x, e = .returned (.tuple #[.slice B (zs : List Sec).length d, .int .i64 x]) ∧ zs.length ≤ 20 ∧ -1 ≤ x ∧ x ≤ 9223372036854775807 ∧ ArgC w' B d zs ∧ Below w.heap.size w w'
theorem RetWhere.mk {hi : Nat} {w a w' : World} {R : Nat} {B : Option Addr} {d : Nat} {zs : List Sec} {x : Int} (hl : zs.length ≤ 20) (h0 : -1 ≤ x) (h1 : x ≤ 9223372036854775807) (ho : OwC 58 a.heap.size hi w' (.slice B zs.length d) zs) (hh : hi ≤ w'.heap.size) (hb : Below w.heap.size w a) (hR : w.heap.size ≤ R) (hg : a.grownBy w' (some R)) :
    RetWhere w (.returned (.tuple #[.slice B zs.length d, .int .i64 x])) w' := ⟨B, d, zs, x, rfl, hl, h0, h1, ho.arg (by omega) hh, draw_below hb hR hg⟩

theorem three {j : Nat} (h : (j : Int) < 3) : ∃ x : Int, -1 ≤ x ∧ x ≤ 9223372036854775807 ∧ (#[Value.int .i64 (-1), .int .i64 9223372036854775807, .int .i64 0])[j]? = some (.int .i64 x) := by
  obtain rfl | rfl | rfl : j = 0 ∨ j = 1 ∨ j = 2 := by omega
  · exact ⟨-1, by omega, by omega, rfl⟩
  · exact ⟨9223372036854775807, by omega, by omega, rfl⟩
  · exact ⟨0, by omega, by omega, rfl⟩

set_option maxHeartbeats 4000000 in
theorem DrawCableWhere_c (A : Option Addr) (n c : Nat) (w : World) (hn : n ≤ 9223372036854775807) (hnc : n ≤ c) (hb : Bytes w.heap.size w A n) :
    Calls Try.prog 15 #[.slice A n c] w (RetWhere w) := by
  have Hb := Lib.hid hb
  clear hb
  go_enter Try.func15, Try.ntmps15
  go_wp2_with fail
  refine (l6Open_c A n c _ hn hnc Hb.out).mono ?_
  rintro e w0 ⟨n1, c1, rfl, hr0, hb0, hs0⟩
  have H0 := Lib.hid hr0
  have HB0 := Lib.hid hb0
  obtain ⟨R, hR⟩ : ∃ R, w.heap.size = R := ⟨_, rfl⟩
  rw [hR] at H0 hs0
  have hRR : w.heap.size ≤ R := by omega
  have HR := Lib.hid hR
  clear hr0 hb0
  go_wp2_with fail
  clear hR
  refine (l91Cable_c R A n1 c1 0 4 _ H0.out hs0 (by omega) (by omega) (by omega)).mono ?_
  rintro e w1 ⟨B, d, zs, q, rfl, hzl, _, ho1, hr1, hq, hg1⟩
  have s1 := hg1.size
  have HO1 := Lib.hid ho1
  have HR1 := Lib.hid hr1
  have HG1 := Lib.hid hg1
  clear ho1 hr1 hg1 H0
  go_wp2_with fail
  refine (pick_c R A n1 c1 q 16 _ HR1.out (by omega) (by omega) (by omega)).mono ?_
  rintro e w2 ⟨k2, rfl, k20, k21, hr2, hg2⟩
  have s2 := hg2.size
  have HO2 := Lib.hid (HO1.out.kept hg2 (fun r e => by cases e; exact .inl hs0))
  have HR2 := Lib.hid hr2
  have HG2 := Lib.hid (grown_then HG1.out hg2)
  clear hr2 hg2 HO1 HR1 HG1
  obtain rfl | hk2 := Classical.em (k2 = 0)
  · obtain ⟨wd, hwd⟩ : ∃ wd, wd = w2.drew := ⟨_, rfl⟩
    obtain ⟨wa, hwa⟩ : ∃ wa, wa = (w2.alloc (.cells #[.int .i64 (-1), .int .i64 9223372036854775807, .int .i64 0] 3)).drew := ⟨_, rfl⟩
    have hd : w2.grownBy wd (some R) := by rw [hwd]; have r := World.grownBy.refl w2 (some R); exact ⟨r.os, r.tape, r.output, r.size, r.block⟩
    have hal : w2.grownBy wa (some R) := by
      rw [hwa]
      have r := grown_alloc (World.grownBy.refl w2 (some R)) (.cells #[.int .i64 (-1), .int .i64 9223372036854775807, .int .i64 0] 3)
      exact ⟨r.os, r.tape, r.output, r.size, r.block⟩
    have row : wa.heap[w2.heap.size]? = some (.cells #[.int .i64 (-1), .int .i64 9223372036854775807, .int .i64 0] 3 (0, 0)) := by rw [hwa]; exact heap_alloc_new w2 _
    have HOd := Lib.hid (HO2.out.kept hd (fun r e => by cases e; exact .inl hs0))
    have HRd := Lib.hid (show Reader wd R A n1 c1 (q + 1) by rw [hwd]; exact HR2.out)
    have HGd := Lib.hid (grown_then HG2.out hd)
    have HOa := Lib.hid (HO2.out.kept hal (fun r e => by cases e; exact .inl hs0))
    have HRa := Lib.hid (show Reader wa R A n1 c1 (q + 1) by rw [hwa]; exact HR2.out.kept (grown_drew (grown_alloc (World.grownBy.refl w2 none) _)) (by simp))
    have HGa := Lib.hid (grown_then HG2.out hal)
    have Row := Lib.hid row
    have Hwd := Lib.hid hwd
    have Hwa := Lib.hid hwa
    have sa : w2.heap.size < wa.heap.size := by rw [hwa]; show w2.heap.size < (w2.alloc _).heap.size; simp
    have sd : wd.heap.size = w2.heap.size := by rw [hwd]; rfl
    clear HO2 HR2 HG2 hd hal row hwd hwa
    go_wp2
    go_region_with (first
      | (rw [← Hwa.out]; go_at_call 45; refine (pick_c R A n1 c1 (q + 1) 3 wa HRa.out (by omega) (by omega) (by omega)).mono ?_; rintro e w9 ⟨k, rfl, k0, k1, hr9, hg9⟩; obtain ⟨j, rfl⟩ := Int.eq_ofNat_of_zero_le k0; obtain ⟨x, x0, x1, hx⟩ := three k1; have hcB := (cell_of_row w9 _ j _ _ _ ((hg9.block w2.heap.size sa (by simp; omega)).trans Row.out)).trans hx; have s9 := hg9.size; have HO9 := Lib.hid (HOa.out.kept hg9 (fun r e => by cases e; exact .inl hs0)); have HG9 := Lib.hid (grown_then HGa.out hg9); clear hr9 hg9 hx)
      | (rw [← Hwd.out]; go_at_call 45; refine (pick_c R A n1 c1 (q + 1) 3 wd HRd.out (by omega) (by omega) (by omega)).mono ?_; rintro e w9 ⟨k, rfl, k0, k1, hr9, hg9⟩; obtain ⟨j, rfl⟩ := Int.eq_ofNat_of_zero_le k0; obtain ⟨x, x0, x1, hx⟩ := three k1; have hcA := (World.cell?_alloc_at (w := w9) #[Value.int .i64 (-1), .int .i64 9223372036854775807, .int .i64 0] 3 w9.heap.size j rfl).trans hx; have s9 := hg9.size; have HO9 := Lib.hid (HOd.out.kept hg9 (fun r e => by cases e; exact .inl hs0)); have HG9 := Lib.hid (grown_then HGd.out hg9); clear hr9 hg9 hx))
    all_goals
      go_wp2
      go_ret2
      first
        | exact RetWhere.mk hzl x0 x1 HO9.out (by omega) HB0.out hRR HG9.out
        | exact RetWhere.mk hzl x0 x1 (HO9.out.kept (grown_alloc (World.grownBy.refl w9 none) _) (by simp)) (by simp; omega) HB0.out hRR (grown_alloc HG9.out _)
  · have b0 : (k2 == 0) = false := by simpa using hk2
    go_wp2_with fail
    refine (pick_c R A n1 c1 (q + 1) 70 _ HR2.out (by omega) (by omega) (by omega)).mono ?_
    rintro e w3 ⟨k3, rfl, k30, k31, hr3, hg3⟩
    have s3 := hg3.size
    have HO3 := Lib.hid (HO2.out.kept hg3 (fun r e => by cases e; exact .inl hs0))
    have HG3 := Lib.hid (grown_then HG2.out hg3)
    clear hr3 hg3
    go_wp2
    go_ret2
    exact RetWhere.mk hzl (by omega) (by omega) HO3.out (by omega) HB0.out hRR HG3.out

end Go.Proofs.Ytgidemhencbgdaa
