/-
  The drawn cables with a mile: l91Mile.
-/
import Derived.Test.YtodboccadccpfaaCDraw
import Derived.Test.YtodboccadccpfaaCMiles
import Derived.Deep.RegionWith
namespace Go.Proofs.Ytodboccadccpfaa
open Go.RowKit

/-- a cable of at most 20 sections and a mile -/
def RetMile (R : Nat) (A : Option Addr) (n c p : Nat) (w : World) (e : Ending) (w' : World) : Prop :=
  ∃ B d zs x q, e = .returned (.tuple #[.slice B (zs : List Sec).length d, .int .i64 x]) ∧ zs.length ≤ 20 ∧ -1 ≤ x ∧ x ≤ 1000 ∧ OwC 129 w.heap.size w'.heap.size w' (.slice B zs.length d) zs ∧ Reader w' R A n c q ∧ q ≤ p + 200 ∧ w.grownBy w' (some R)
theorem RetMile.mk {hi R : Nat} {A : Option Addr} {n c p q : Nat} {w w' : World} {B : Option Addr} {d : Nat} {zs : List Sec} {x : Int} (hl : zs.length ≤ 20) (h0 : -1 ≤ x) (h1 : x ≤ 1000) (ho : OwC 129 w.heap.size hi w' (.slice B zs.length d) zs) (hh : hi ≤ w'.heap.size) (hg : w.grownBy w' (some R)) (hr : Reader w' R A n c q) (hq : q ≤ p + 200) :
    RetMile R A n c p w (.returned (.tuple #[.slice B zs.length d, .int .i64 x])) w' := ⟨B, d, zs, x, q, rfl, hl, h0, h1, ho.more (Nat.le_refl _) hh, hr, hq, hg⟩
theorem threeM {all : Int} (h0 : -1 ≤ all) (h1 : all ≤ 400) {j : Nat} (h : (j : Int) < 3) : ∃ x : Int, -1 ≤ x ∧ x ≤ 1000 ∧ (#[Value.int .i64 (-1), .int .i64 (all + 1), .int .i64 all])[j]? = some (.int .i64 x) := by
  obtain rfl | rfl | rfl : j = 0 ∨ j = 1 ∨ j = 2 := by omega
  · exact ⟨-1, by omega, by omega, rfl⟩
  · exact ⟨all + 1, by omega, by omega, rfl⟩
  · exact ⟨all, by omega, by omega, rfl⟩
theorem milesI_bd (ss : List Sec) : -1 ≤ milesI ss ∧ milesI ss ≤ 400 := by
  cases h : cabB ss
  · rw [milesI_no h]; omega
  · rw [milesI_yes h]
    have := cab_miles h
    omega

set_option maxRecDepth 100000 in
set_option maxHeartbeats 4000000 in
theorem l91Mile_c (R : Nat) (A : Option Addr) (n c p : Nat) (w : World) (h : Reader w R A n c p) (hRw : R < w.heap.size) (hp : p ≤ 40000) :
    Calls Try.prog 110 #[.pointer (some ⟨R, 0, none⟩)] w (RetMile R A n c p w) := by
  have H0 := Lib.hid h
  clear h
  go_enter Try.func110, Try.ntmps110
  go_wp2_with fail
  refine (l91Cable_c R A n c p 4 _ H0.out hRw (by omega) (by omega) (by omega)).mono ?_
  rintro e w1 ⟨B, d, zs, q, rfl, hzl, ha1, ho1, hr1, hq, hg1⟩
  have s1 := hg1.size
  have HA1 := Lib.hid ha1
  have HO1 := Lib.hid ho1
  have HR1 := Lib.hid hr1
  have HG1 := Lib.hid hg1
  clear ha1 ho1 hr1 hg1 H0
  have hbd := milesI_bd zs
  obtain ⟨all, hal⟩ : ∃ all, milesI zs = all := ⟨_, rfl⟩
  rw [hal] at hbd
  obtain ⟨hall0, hall1⟩ := hbd
  have Hal := Lib.hid hal
  have qa : IntKind.i64.wrap (all + 1) = all + 1 := IntWalk.i64_in _ (by omega)
  clear hal
  go_wp2_with fail
  refine (specCableMiles_b B d zs _ HA1.out).mono ?_
  rintro e w2 ⟨rfl, hb2⟩
  rw [Hal.out]
  have s2 := hb2.size
  have HO2 := Lib.hid (HO1.out.go hb2 (Nat.le_refl _))
  have HR2 := Lib.hid (HR1.out.kept (grown_of_below hb2 none) (by simp))
  have HG2 := Lib.hid (grown_then HG1.out (grown_of_below hb2 (some R)))
  clear hb2 HA1 HO1 HR1 HG1
  by_cases hneg : all < 0
  · obtain ⟨wd, hwd⟩ : ∃ wd, wd = w2.drew := ⟨_, rfl⟩
    obtain ⟨wa, hwa⟩ : ∃ wa, wa = (w2.alloc (.cells #[.int .i64 (-1), .int .i64 (all + 1), .int .i64 all] 3)).drew := ⟨_, rfl⟩
    have hd : w2.grownBy wd (some R) := by rw [hwd]; have r := World.grownBy.refl w2 (some R); exact ⟨r.os, r.tape, r.output, r.size, r.block⟩
    have hal : w2.grownBy wa (some R) := by
      rw [hwa]
      have r := grown_alloc (World.grownBy.refl w2 (some R)) (.cells #[.int .i64 (-1), .int .i64 (all + 1), .int .i64 all] 3)
      exact ⟨r.os, r.tape, r.output, r.size, r.block⟩
    have row : wa.heap[w2.heap.size]? = some (.cells #[.int .i64 (-1), .int .i64 (all + 1), .int .i64 all] 3 (0, 0)) := by rw [hwa]; exact heap_alloc_new w2 _
    have HOd := Lib.hid (HO2.out.kept hd (fun r e => by cases e; exact .inl hRw))
    have HRd := Lib.hid (show Reader wd R A n c (q) by rw [hwd]; exact HR2.out)
    have HGd := Lib.hid (grown_then HG2.out hd)
    have HOa := Lib.hid (HO2.out.kept hal (fun r e => by cases e; exact .inl hRw))
    have HRa := Lib.hid (show Reader wa R A n c (q) by rw [hwa]; exact HR2.out.kept (grown_drew (grown_alloc (World.grownBy.refl w2 none) _)) (by simp))
    have HGa := Lib.hid (grown_then HG2.out hal)
    have Row := Lib.hid row
    have Hwd := Lib.hid hwd
    have Hwa := Lib.hid hwa
    have sa : w2.heap.size < wa.heap.size := by rw [hwa]; show w2.heap.size < (w2.alloc _).heap.size; simp
    have sd : wd.heap.size = w2.heap.size := by rw [hwd]; rfl
    clear HO2 HR2 HG2 hd hal row hwd hwa
    go_wp2
    go_region_with (first
      | (rw [← Hwa.out]; go_at_call 53; refine (pick_c R A n c (q) 3 wa HRa.out (by omega) (by omega) (by omega)).mono ?_; rintro e w9 ⟨k, rfl, k0, k1, hr9, hg9⟩; obtain ⟨j, rfl⟩ := Int.eq_ofNat_of_zero_le k0; obtain ⟨x, x0, x1, hx⟩ := threeM hall0 hall1 k1; have hcB := (cell_of_row w9 _ j _ _ _ ((hg9.block w2.heap.size sa (by simp; omega)).trans Row.out)).trans hx; have s9 := hg9.size; have HO9 := Lib.hid (HOa.out.kept hg9 (fun r e => by cases e; exact .inl hRw)); have HG9 := Lib.hid (grown_then HGa.out hg9); have HR9 := Lib.hid hr9; clear hr9 hg9 hx)
      | (rw [← Hwd.out]; go_at_call 53; refine (pick_c R A n c (q) 3 wd HRd.out (by omega) (by omega) (by omega)).mono ?_; rintro e w9 ⟨k, rfl, k0, k1, hr9, hg9⟩; obtain ⟨j, rfl⟩ := Int.eq_ofNat_of_zero_le k0; obtain ⟨x, x0, x1, hx⟩ := threeM hall0 hall1 k1; have hcA := (World.cell?_alloc_at (w := w9) #[Value.int .i64 (-1), Value.int .i64 (all + 1), Value.int .i64 all] 3 w9.heap.size j rfl).trans hx; have s9 := hg9.size; have HO9 := Lib.hid (HOd.out.kept hg9 (fun r e => by cases e; exact .inl hRw)); have HG9 := Lib.hid (grown_then HGd.out hg9); have HR9 := Lib.hid hr9; clear hr9 hg9 hx))
    all_goals
      go_wp2
      go_ret2
      first
        | exact RetMile.mk hzl x0 x1 HO9.out (by omega) HG9.out HR9.out (by omega)
        | exact RetMile.mk hzl x0 x1 (HO9.out.kept (grown_alloc (World.grownBy.refl w9 none) _) (by simp)) (by simp; omega) (grown_alloc HG9.out _) (HR9.out.kept (grown_alloc (World.grownBy.refl w9 none) _) (by simp)) (by omega)
  · have b9 : decide (all < 0) = false := by simp; omega
    go_wp2_with fail
    refine (pick_c R A n c q 12 _ HR2.out (by omega) (by omega) (by omega)).mono ?_
    rintro e w3 ⟨k2, rfl, k20, k21, hr3, hg3⟩
    have s3 := hg3.size
    have HO3 := Lib.hid (HO2.out.kept hg3 (fun r e => by cases e; exact .inl hRw))
    have HR3 := Lib.hid hr3
    have HG3 := Lib.hid (grown_then HG2.out hg3)
    clear hr3 hg3 HO2 HR2 HG2
    obtain rfl | hk2 := Classical.em (k2 = 0)
    · obtain ⟨wd, hwd⟩ : ∃ wd, wd = w3.drew := ⟨_, rfl⟩
      obtain ⟨wa, hwa⟩ : ∃ wa, wa = (w3.alloc (.cells #[.int .i64 (-1), .int .i64 (all + 1), .int .i64 all] 3)).drew := ⟨_, rfl⟩
      have hd : w3.grownBy wd (some R) := by rw [hwd]; have r := World.grownBy.refl w3 (some R); exact ⟨r.os, r.tape, r.output, r.size, r.block⟩
      have hal : w3.grownBy wa (some R) := by
        rw [hwa]
        have r := grown_alloc (World.grownBy.refl w3 (some R)) (.cells #[.int .i64 (-1), .int .i64 (all + 1), .int .i64 all] 3)
        exact ⟨r.os, r.tape, r.output, r.size, r.block⟩
      have row : wa.heap[w3.heap.size]? = some (.cells #[.int .i64 (-1), .int .i64 (all + 1), .int .i64 all] 3 (0, 0)) := by rw [hwa]; exact heap_alloc_new w3 _
      have HOd := Lib.hid (HO3.out.kept hd (fun r e => by cases e; exact .inl hRw))
      have HRd := Lib.hid (show Reader wd R A n c (q + 1) by rw [hwd]; exact HR3.out)
      have HGd := Lib.hid (grown_then HG3.out hd)
      have HOa := Lib.hid (HO3.out.kept hal (fun r e => by cases e; exact .inl hRw))
      have HRa := Lib.hid (show Reader wa R A n c (q + 1) by rw [hwa]; exact HR3.out.kept (grown_drew (grown_alloc (World.grownBy.refl w3 none) _)) (by simp))
      have HGa := Lib.hid (grown_then HG3.out hal)
      have Row := Lib.hid row
      have Hwd := Lib.hid hwd
      have Hwa := Lib.hid hwa
      have sa : w3.heap.size < wa.heap.size := by rw [hwa]; show w3.heap.size < (w3.alloc _).heap.size; simp
      have sd : wd.heap.size = w3.heap.size := by rw [hwd]; rfl
      clear HO3 HR3 HG3 hd hal row hwd hwa
      go_wp2
      go_region_with (first
        | (rw [← Hwa.out]; go_at_call 53; refine (pick_c R A n c (q + 1) 3 wa HRa.out (by omega) (by omega) (by omega)).mono ?_; rintro e w9 ⟨k, rfl, k0, k1, hr9, hg9⟩; obtain ⟨j, rfl⟩ := Int.eq_ofNat_of_zero_le k0; obtain ⟨x, x0, x1, hx⟩ := threeM hall0 hall1 k1; have hcB := (cell_of_row w9 _ j _ _ _ ((hg9.block w3.heap.size sa (by simp; omega)).trans Row.out)).trans hx; have s9 := hg9.size; have HO9 := Lib.hid (HOa.out.kept hg9 (fun r e => by cases e; exact .inl hRw)); have HG9 := Lib.hid (grown_then HGa.out hg9); have HR9 := Lib.hid hr9; clear hr9 hg9 hx)
        | (rw [← Hwd.out]; go_at_call 53; refine (pick_c R A n c (q + 1) 3 wd HRd.out (by omega) (by omega) (by omega)).mono ?_; rintro e w9 ⟨k, rfl, k0, k1, hr9, hg9⟩; obtain ⟨j, rfl⟩ := Int.eq_ofNat_of_zero_le k0; obtain ⟨x, x0, x1, hx⟩ := threeM hall0 hall1 k1; have hcA := (World.cell?_alloc_at (w := w9) #[Value.int .i64 (-1), Value.int .i64 (all + 1), Value.int .i64 all] 3 w9.heap.size j rfl).trans hx; have s9 := hg9.size; have HO9 := Lib.hid (HOd.out.kept hg9 (fun r e => by cases e; exact .inl hRw)); have HG9 := Lib.hid (grown_then HGd.out hg9); have HR9 := Lib.hid hr9; clear hr9 hg9 hx))
      all_goals
        go_wp2
        go_ret2
        first
          | exact RetMile.mk hzl x0 x1 HO9.out (by omega) HG9.out HR9.out (by omega)
          | exact RetMile.mk hzl x0 x1 (HO9.out.kept (grown_alloc (World.grownBy.refl w9 none) _) (by simp)) (by simp; omega) (grown_alloc HG9.out _) (HR9.out.kept (grown_alloc (World.grownBy.refl w9 none) _) (by simp)) (by omega)
    · have b0 : (k2 == 0) = false := by simpa using hk2
      go_wp2_with fail
      refine (pick_c R A n c (q + 1) (all + 1) _ HR3.out (by omega) (by omega) (by omega)).mono ?_
      rintro e w4 ⟨k3, rfl, k30, k31, hr4, hg4⟩
      have s4 := hg4.size
      have HO4 := Lib.hid (HO3.out.kept hg4 (fun r e => by cases e; exact .inl hRw))
      have HG4 := Lib.hid (grown_then HG3.out hg4)
      have HR4 := Lib.hid hr4
      clear hr4 hg4
      go_wp2
      go_ret2
      exact RetMile.mk hzl (by omega) (by omega) HO4.out (by omega) HG4.out HR4.out (by omega)

end Go.Proofs.Ytodboccadccpfaa
