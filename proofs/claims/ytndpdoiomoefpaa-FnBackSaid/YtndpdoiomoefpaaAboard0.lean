/-
  The drawn floors with a length of cable: l91Aboard, DrawPayReach.
-/
import Derived.Test.YtndpdoiomoefpaaDraws0
import Derived.Deep.RegionWith
namespace Go.Proofs.Ytndpdoiomoefpaa
open Go.RowKit

/-- a floor of at most 20 ints and a length from -1 to 1001 -/
def RetAboard (R : Nat) (w : World) (e : Ending) (w' : World) : Prop :=
  ∃ B d zs x, e = .returned (.tuple #[.slice B (zs : List Int).length d, .int .i64 x]) ∧ zs.length ≤ 20 ∧ -1 ≤ x ∧ x ≤ 1001 ∧ Arg w' B d zs ∧ w.grownBy w' (some R)
theorem RetAboard.mk {R hi : Nat} {w w' : World} {B : Option Addr} {d : Nat} {zs : List Int} {x : Int} (hl : zs.length ≤ 20) (h0 : -1 ≤ x) (h1 : x ≤ 1001) (ho : Ow 3 w.heap.size hi w' (.slice B zs.length d) zs) (hh : hi ≤ w'.heap.size) (hg : w.grownBy w' (some R)) :
    RetAboard R w (.returned (.tuple #[.slice B zs.length d, .int .i64 x])) w' := ⟨B, d, zs, x, rfl, hl, h0, h1, ho.arg (by omega) hh, hg⟩

def fourV : Array Value := #[.int .i64 (-1), .int .i64 0, .int .i64 1000, .int .i64 1001]
theorem four {j : Nat} (h : (j : Int) < 4) : ∃ x : Int, -1 ≤ x ∧ x ≤ 1001 ∧ (#[Value.int .i64 (-1), .int .i64 0, .int .i64 1000, .int .i64 1001])[j]? = some (.int .i64 x) := by
  obtain rfl | rfl | rfl | rfl : j = 0 ∨ j = 1 ∨ j = 2 ∨ j = 3 := by omega
  · exact ⟨-1, by omega, by omega, rfl⟩
  · exact ⟨0, by omega, by omega, rfl⟩
  · exact ⟨1000, by omega, by omega, rfl⟩
  · exact ⟨1001, by omega, by omega, rfl⟩

set_option maxRecDepth 100000 in
set_option maxHeartbeats 4000000 in
theorem l91Aboard_c (R : Nat) (A : Option Addr) (n c p : Nat) (w : World) (h : Reader w R A n c p) (hRw : R < w.heap.size) (hp : p ≤ 40000) :
    Calls Try.prog 93 #[.pointer (some ⟨R, 0, none⟩)] w (RetAboard R w) := by
  have H0 := Lib.hid h
  clear h
  go_enter Try.func93, Try.ntmps93
  go_wp2_with fail
  refine (l91Floor_c R A n c p 7 _ H0.out hRw (by omega) (by omega) (by omega)).mono ?_
  rintro e w1 ⟨B, d, zs, q, rfl, hzl, _, ho1, hr1, hq, hg1⟩
  have s1 := hg1.size
  have HO1 := Lib.hid ho1
  have HR1 := Lib.hid hr1
  have HG1 := Lib.hid hg1
  clear ho1 hr1 hg1 H0
  go_wp2_with fail
  refine (pick_c R A n c q 12 _ HR1.out (by omega) (by omega) (by omega)).mono ?_
  rintro e w2 ⟨k2, rfl, k20, k21, hr2, hg2⟩
  have s2 := hg2.size
  have HO2 := Lib.hid (HO1.out.kept hg2 (fun r e => by cases e; exact .inl hRw))
  have HR2 := Lib.hid hr2
  have HG2 := Lib.hid (grown_then HG1.out hg2)
  clear hr2 hg2 HO1 HR1 HG1
  obtain rfl | hk2 := Classical.em (k2 = 0)
  · obtain ⟨wd, hwd⟩ : ∃ wd, wd = w2.drew := ⟨_, rfl⟩
    obtain ⟨wa, hwa⟩ : ∃ wa, wa = (w2.alloc (.cells #[.int .i64 (-1), .int .i64 0, .int .i64 1000, .int .i64 1001] 3)).drew := ⟨_, rfl⟩
    have hd : w2.grownBy wd (some R) := by rw [hwd]; have r := World.grownBy.refl w2 (some R); exact ⟨r.os, r.tape, r.output, r.size, r.block⟩
    have hal : w2.grownBy wa (some R) := by
      rw [hwa]
      have r := grown_alloc (World.grownBy.refl w2 (some R)) (.cells #[.int .i64 (-1), .int .i64 0, .int .i64 1000, .int .i64 1001] 3)
      exact ⟨r.os, r.tape, r.output, r.size, r.block⟩
    have row : wa.heap[w2.heap.size]? = some (.cells #[.int .i64 (-1), .int .i64 0, .int .i64 1000, .int .i64 1001] 3 (0, 0)) := by rw [hwa]; exact heap_alloc_new w2 _
    have HOd := Lib.hid (HO2.out.kept hd (fun r e => by cases e; exact .inl hRw))
    have HRd := Lib.hid (show Reader wd R A n c (q + 1) by rw [hwd]; exact HR2.out)
    have HGd := Lib.hid (grown_then HG2.out hd)
    have HOa := Lib.hid (HO2.out.kept hal (fun r e => by cases e; exact .inl hRw))
    have HRa := Lib.hid (show Reader wa R A n c (q + 1) by rw [hwa]; exact HR2.out.kept (grown_drew (grown_alloc (World.grownBy.refl w2 none) _)) (by simp))
    have HGa := Lib.hid (grown_then HG2.out hal)
    have Row := Lib.hid row
    have Hwd := Lib.hid hwd
    have Hwa := Lib.hid hwa
    have sa : w2.heap.size < wa.heap.size := by rw [hwa]; show w2.heap.size < (w2.alloc _).heap.size; simp
    have sd : wd.heap.size = w2.heap.size := by rw [hwd]; rfl
    clear HO2 HR2 HG2 hd hal row hwd hwa
    go_wp2
    go_region_with (first
      | (rw [← Hwa.out]; go_at_call 83; refine (pick_c R A n c (q + 1) 4 wa HRa.out (by omega) (by omega) (by omega)).mono ?_; rintro e w9 ⟨k, rfl, k0, k1, hr9, hg9⟩; obtain ⟨j, rfl⟩ := Int.eq_ofNat_of_zero_le k0; obtain ⟨x, x0, x1, hx⟩ := four k1; have hcB := (cell_of_row w9 _ j _ _ _ ((hg9.block w2.heap.size sa (by simp; omega)).trans Row.out)).trans hx; have s9 := hg9.size; have HO9 := Lib.hid (HOa.out.kept hg9 (fun r e => by cases e; exact .inl hRw)); have HG9 := Lib.hid (grown_then HGa.out hg9); clear hr9 hg9 hx)
      | (rw [← Hwd.out]; go_at_call 83; refine (pick_c R A n c (q + 1) 4 wd HRd.out (by omega) (by omega) (by omega)).mono ?_; rintro e w9 ⟨k, rfl, k0, k1, hr9, hg9⟩; obtain ⟨j, rfl⟩ := Int.eq_ofNat_of_zero_le k0; obtain ⟨x, x0, x1, hx⟩ := four k1; have hcA := (World.cell?_alloc_at (w := w9) #[Value.int .i64 (-1), .int .i64 0, .int .i64 1000, .int .i64 1001] 3 w9.heap.size j rfl).trans hx; have s9 := hg9.size; have HO9 := Lib.hid (HOd.out.kept hg9 (fun r e => by cases e; exact .inl hRw)); have HG9 := Lib.hid (grown_then HGd.out hg9); clear hr9 hg9 hx))
    all_goals
      go_wp2
      go_ret2
      first
        | exact RetAboard.mk hzl x0 x1 HO9.out (by omega) HG9.out
        | exact RetAboard.mk hzl x0 x1 (HO9.out.kept (grown_alloc (World.grownBy.refl w9 none) _) (by simp)) (by simp; omega) (grown_alloc HG9.out _)
  · have b0 : (k2 == 0) = false := by simpa using hk2
    go_wp2_with fail
    refine (pick_c R A n c (q + 1) 110 _ HR2.out (by omega) (by omega) (by omega)).mono ?_
    rintro e w3 ⟨k3, rfl, k30, k31, hr3, hg3⟩
    have s3 := hg3.size
    have HO3 := Lib.hid (HO2.out.kept hg3 (fun r e => by cases e; exact .inl hRw))
    have HG3 := Lib.hid (grown_then HG2.out hg3)
    clear hr3 hg3
    go_wp2
    go_ret2
    exact RetAboard.mk hzl (by omega) (by omega) HO3.out (by omega) HG3.out
end Go.Proofs.Ytndpdoiomoefpaa
