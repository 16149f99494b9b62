/-
  slices.Clone; FloorPart of both.
-/
import Derived.Test.YtndpdoiomoefpaaPoints
import Derived.WalkSpells
namespace Go.Proofs.Ytndpdoiomoefpaa
open Go.RowKit

theorem src_cells {w : World} {b off : Nat} {zs : List Int} (h : ∀ j, j < zs.length → w.cell? ⟨b, off + j, none⟩ = some (.int .i64 (zs[j]?.getD 0))) :
    ∀ j u, (zs.map (Value.int .i64))[j]? = some u → w.cell? ((⟨b, off, none⟩ : Addr).add j) = some u := by
  intro j u hu
  rw [List.getElem?_map] at hu
  have hj : j < zs.length := by
    rcases Nat.lt_or_ge j zs.length with h1 | h1
    · exact h1
    · rw [List.getElem?_eq_none h1] at hu; cases hu
  rw [List.getElem?_eq_getElem hj] at hu
  simp at hu
  subst hu
  rw [show (⟨b, off, none⟩ : Addr).add j = ⟨b, off + j, none⟩ by unfold Addr.add; split <;> simp_all, h j hj]
  simp [hj]
theorem ints_one (zs : List Int) : ∀ u ∈ zs.map (Value.int .i64), u.oneCell' = true := by
  intro u hu
  obtain ⟨z, _, rfl⟩ := List.mem_map.1 hu
  rfl

set_option maxRecDepth 100000 in
/-- slices.Clone of a slice that isn't nil -/
theorem clone_c (b off c : Nat) (zs : List Int) (w : World) (ha : Arg w (some ⟨b, off, none⟩) c zs) (hn : 1 ≤ zs.length) :
    Calls Try.prog 79 #[.slice (some ⟨b, off, none⟩) zs.length c] w (RetS 3 id zs w) := by
  obtain ⟨i0, hi, hz0, hz1, hz2⟩ := info_parts int_info
  have hl := ha.len
  obtain ⟨b', off', e, _, hbh, hc⟩ := ha.rd (by omega)
  injection e with e
  injection e with e1 e2 e3
  subst e1; subst e2
  have hbb : Below w.heap.size w (w.alloc (.cells #[] 3)) := (Below.refl _ _).alloc (Nat.le_refl _) _
  have hown : (w.alloc (.cells #[] 3)).ownsRow w.heap.size 3 1 (.slice (some ⟨w.heap.size, 0, none⟩) 0 0) 0 [] := World.ownsRow_made w #[] 0 (Nat.le_refl _) (by simp) rfl
  have Hsrc := Lib.hid (src_cells (w := w.alloc (.cells #[] 3)) (fun j hj => (hbb.cell (p := ⟨b, off + j, none⟩) hbh).trans (hc j hj)))
  have H1 := Lib.hid (ints_one zs)
  have Hlen : Hid ((zs.map (Value.int .i64)).length = zs.length * 1) := by rw [List.length_map, Nat.mul_one]; rfl
  clear ha hc e3
  have hnil := Lib.run_eql_slice_nil (P := Try.prog) w 23 3 (some ⟨b, off, none⟩) zs.length c 0 0 Try.underlying23
  go_enter Try.func79, Try.ntmps79
  go_wp2_with (at_builtin; refine wpList_append_own _ rfl _ _ 23 rfl w.heap.size 3 i0 (.int .i64 0) 1 8 Try.underlying23 hi hz0 hz1 hz2 rfl (by decide) (.slice (some ⟨w.heap.size, 0, none⟩) 0 0) 0 [] rfl hown ⟨b, off, none⟩ zs.length c (zs.map (Value.int .i64)) rfl Hlen.out Hsrc.out H1.out (by unfold maxLen; omega) (by omega) (by simp) ?_; intro v' w3 hown3 hg3 _)
  have hb3 : Below w.heap.size w w3 := hbb.grown hg3 (by simp) (fun r e => by simp [Value.ownBlock] at e; omega)
  go_ret
  rw [Nat.zero_add, List.nil_append] at hown3
  exact RetS.mk (f := id) hl hown3 hb3

/-- what FloorPart hands back -/
def partB (zs : List Int) (a b : Int) : Bool := twoB zs a b && !decide (a = b)
def floorPartL (zs : List Int) (a b : Int) : List Int := if partB zs a b then subL zs a.toNat b.toNat else []

set_option maxRecDepth 100000 in
set_option maxHeartbeats 1000000 in
theorem implFloorPart_b (A : Option Addr) (c : Nat) (zs : List Int) (a b : Int) (w : World) (ha : Arg w A c zs) :
    Calls Try.prog 20 #[.slice A zs.length c, .int .i64 a, .int .i64 b] w (RetS 3 (fun v => .tuple #[v, .bool (partB zs a b)]) (floorPartL zs a b) w) := by
  have hl := ha.len
  cases hv : validB zs
  · have Hp := Lib.hid (show partB zs a b = false by unfold partB twoB; rw [hv]; rfl)
    have Hh := Lib.hid (show floorPartL zs a b = [] by unfold floorPartL; rw [Hp.out]; rfl)
    have Hv := Lib.hid hv
    have Ha := Lib.hid ha
    clear hv ha
    go_enter Try.func20, Try.ntmps20
    go_wp2_with fail
    refine (implFloorValid_c A c zs _ Ha.out).mono ?_
    rintro e w' ⟨rfl, rfl⟩
    rw [Hv.out]
    go_wp2
    go_ret2
    rw [Hh.out, Hp.out]
    exact RetS.nil (f := fun v => .tuple #[v, .bool false]) (Below.refl _ _)
  · cases hp : ptsB zs a b
    · have Hp := Lib.hid (show partB zs a b = false by unfold partB twoB; rw [hv, hp]; rfl)
      have Hh := Lib.hid (show floorPartL zs a b = [] by unfold floorPartL; rw [Hp.out]; rfl)
      have Hv := Lib.hid hv
      have Hq := Lib.hid hp
      have Ha := Lib.hid ha
      clear hv ha hp
      go_enter Try.func20, Try.ntmps20
      go_wp2_with fail
      refine (implFloorValid_c A c zs _ Ha.out).mono ?_
      rintro e w' ⟨rfl, rfl⟩
      rw [Hv.out]
      go_wp2_with fail
      refine (pointsInOrder_c A c zs a b _ hl).mono ?_
      rintro e w' ⟨rfl, rfl⟩
      rw [Hq.out]
      go_wp2
      go_ret2
      rw [Hh.out, Hp.out]
      exact RetS.nil (f := fun v => .tuple #[v, .bool false]) (Below.refl _ _)
    · obtain ⟨p1, p2, p3⟩ := ptsB_true hp
      obtain ⟨f, rfl⟩ := Int.eq_ofNat_of_zero_le p1
      obtain ⟨t, rfl⟩ := Int.eq_ofNat_of_zero_le (Int.le_trans p1 p2)
      have hft : f ≤ t := by omega
      have htl : t < zs.length := by omega
      by_cases heq : f = t
      · have Hp := Lib.hid (show partB zs (f : Int) (t : Int) = false by unfold partB; rw [heq]; simp)
        have Hh := Lib.hid (show floorPartL zs (f : Int) (t : Int) = [] by unfold floorPartL; rw [Hp.out]; rfl)
        have Hv := Lib.hid hv
        have Hq := Lib.hid hp
        have Ha := Lib.hid ha
        have hb : ((f : Int) == (t : Int)) = true := by simp [heq]
        clear hv ha hp heq
        go_enter Try.func20, Try.ntmps20
        go_wp2_with fail
        refine (implFloorValid_c A c zs _ Ha.out).mono ?_
        rintro e w' ⟨rfl, rfl⟩
        rw [Hv.out]
        go_wp2_with fail
        refine (pointsInOrder_c A c zs _ _ _ hl).mono ?_
        rintro e w' ⟨rfl, rfl⟩
        rw [Hq.out]
        go_wp2
        go_ret2
        rw [Hh.out, Hp.out]
        exact RetS.nil (f := fun v => .tuple #[v, .bool false]) (Below.refl _ _)
      · have Hp := Lib.hid (show partB zs (f : Int) (t : Int) = true by unfold partB twoB; rw [hv, hp, decide_eq_false (by omega)]; rfl)
        have Hh := Lib.hid (show floorPartL zs (f : Int) (t : Int) = subL zs f t by unfold floorPartL; rw [Hp.out]; simp)
        obtain ⟨bk, off, rfl, hsub⟩ := ha.sub hft htl
        have hcl := ha.2.1
        have hcm := ha.2.2.1
        unfold maxLen at hcm
        have Hs := Lib.hid hsub
        have hsl := subL_length hft htl
        have Hsl := Lib.hid hsl
        have Hv := Lib.hid hv
        have Hq := Lib.hid hp
        have Ha := Lib.hid ha
        have hb : ((f : Int) == (t : Int)) = false := by rw [beq_eq_false_iff_ne]; omega
        clear hv ha hp hsub hsl
        go_enter Try.func20, Try.ntmps20
        go_wp2_with fail
        refine (implFloorValid_c _ c zs _ Ha.out).mono ?_
        rintro e w' ⟨rfl, rfl⟩
        rw [Hv.out]
        go_wp2_with fail
        refine (pointsInOrder_c _ c zs _ _ _ hl).mono ?_
        rintro e w' ⟨rfl, rfl⟩
        rw [Hq.out]
        go_wp2_with fail
        have hcl2 := clone_c bk (off + f) (c - f) (subL zs f t) w Hs.out (by rw [Hsl.out]; omega)
        rw [Hsl.out] at hcl2
        refine hcl2.mono ?_
        clear hcl2
        rintro e w1 ⟨B, d, rfl, ra, ro, rb⟩
        dsimp only [id]
        have Ro := Lib.hid ro
        have Ra := Lib.hid ra
        clear ro ra
        go_wp2
        go_ret2
        rw [Hp.out, Hh.out]
        exact ⟨B, d, by rw [Hsl.out]; rfl, Ra.out, Ro.out, rb⟩

set_option maxRecDepth 100000 in
set_option maxHeartbeats 1000000 in
theorem specFloorPart_b (A : Option Addr) (c : Nat) (zs : List Int) (a b : Int) (w : World) (ha : Arg w A c zs) :
    Calls Try.prog 21 #[.slice A zs.length c, .int .i64 a, .int .i64 b] w (RetS 3 (fun v => .tuple #[v, .bool (partB zs a b)]) (floorPartL zs a b) w) := by
  obtain ⟨i0, hi, hz0, hz1, hz2⟩ := info_parts int_info
  have hl := ha.len
  have hbb : Below w.heap.size w (w.alloc (.cells #[] 3)) := (Below.refl _ _).alloc (Nat.le_refl _) _
  have hown : (w.alloc (.cells #[] 3)).ownsRow w.heap.size 3 1 (.slice (some ⟨w.heap.size, 0, none⟩) 0 0) 0 [] := World.ownsRow_made w #[] 0 (Nat.le_refl _) (by simp) rfl
  cases htw : twoB zs a b
  · have Hp := Lib.hid (show partB zs a b = false by unfold partB; rw [htw]; rfl)
    have Hh := Lib.hid (show floorPartL zs a b = [] by unfold floorPartL; rw [Hp.out]; rfl)
    have Ht := Lib.hid htw
    have Ha := Lib.hid ha
    clear htw ha
    go_enter Try.func21, Try.ntmps21
    go_wp2_with fail
    refine (l1Two_c A c zs a b _ Ha.out).mono ?_
    rintro e w' ⟨rfl, rfl⟩
    rw [Ht.out]
    go_wp2
    go_ret2
    rw [Hh.out, Hp.out]
    exact RetS.mk (f := fun v => .tuple #[v, .bool false]) (by simp) hown hbb
  · have ht2 := htw
    unfold twoB at ht2
    rw [Bool.and_eq_true] at ht2
    obtain ⟨p1, p2, p3⟩ := ptsB_true ht2.2
    obtain ⟨f, rfl⟩ := Int.eq_ofNat_of_zero_le p1
    obtain ⟨t, rfl⟩ := Int.eq_ofNat_of_zero_le (Int.le_trans p1 p2)
    have hft : f ≤ t := by omega
    have htl : t < zs.length := by omega
    clear ht2
    by_cases heq : f = t
    · have Hp := Lib.hid (show partB zs (f : Int) (t : Int) = false by unfold partB; rw [heq]; simp)
      have Hh := Lib.hid (show floorPartL zs (f : Int) (t : Int) = [] by unfold floorPartL; rw [Hp.out]; rfl)
      have Ht := Lib.hid htw
      have Ha := Lib.hid ha
      have hb : ((f : Int) == (t : Int)) = true := by simp [heq]
      clear htw ha heq
      go_enter Try.func21, Try.ntmps21
      go_wp2_with fail
      refine (l1Two_c A c zs _ _ _ Ha.out).mono ?_
      rintro e w' ⟨rfl, rfl⟩
      rw [Ht.out]
      go_wp2
      go_ret2
      rw [Hh.out, Hp.out]
      exact RetS.mk (f := fun v => .tuple #[v, .bool false]) (by simp) hown hbb
    · have Hp := Lib.hid (show partB zs (f : Int) (t : Int) = true by unfold partB; rw [htw, decide_eq_false (by omega)]; rfl)
      have Hh := Lib.hid (show floorPartL zs (f : Int) (t : Int) = subL zs f t by unfold floorPartL; rw [Hp.out]; simp)
      obtain ⟨bk, off, rfl, hsub⟩ := ha.sub hft htl
      have hcl := ha.2.1
      have hcm := ha.2.2.1
      unfold maxLen at hcm
      have hsl := subL_length hft htl
      obtain ⟨b', off', e, _, hbh, hc⟩ := hsub.rd (by omega)
      injection e with e
      injection e with e1 e2 e3
      subst e1; subst e2
      have Hsrc := Lib.hid (src_cells (w := w.alloc (.cells #[] 3)) (zs := subL zs f t) (fun j hj => (hbb.cell (p := ⟨bk, off + f + j, none⟩) hbh).trans (hc j hj)))
      have H1 := Lib.hid (ints_one (subL zs f t))
      have Hlen : Hid (((subL zs f t).map (Value.int .i64)).length = (t + 1 - f) * 1) := by rw [List.length_map, hsl, Nat.mul_one]; rfl
      have Hsl := Lib.hid hsl
      have Ht := Lib.hid htw
      have Ha := Lib.hid ha
      have hb : ((f : Int) == (t : Int)) = false := by rw [beq_eq_false_iff_ne]; omega
      clear htw ha hsub hsl hc e3
      go_enter Try.func21, Try.ntmps21
      go_wp2_with fail
      refine (l1Two_c _ c zs _ _ _ Ha.out).mono ?_
      rintro e w' ⟨rfl, rfl⟩
      rw [Ht.out]
      go_wp2_with (at_builtin; refine wpList_append_own _ rfl _ _ 23 rfl w.heap.size 3 i0 (.int .i64 0) 1 8 Try.underlying23 hi hz0 hz1 hz2 rfl (by decide) (.slice (some ⟨w.heap.size, 0, none⟩) 0 0) 0 [] rfl hown ⟨bk, off + f, none⟩ (t + 1 - f) (c - f) ((subL zs f t).map (Value.int .i64)) rfl Hlen.out Hsrc.out H1.out (by unfold maxLen; omega) (by omega) (by simp) ?_; intro v' w3 hown3 hg3 _)
      have hb3 : Below w.heap.size w w3 := hbb.grown hg3 (by simp) (fun r e => by simp [Value.ownBlock] at e; omega)
      go_ret2
      rw [Hp.out, Hh.out]
      rw [Nat.zero_add, List.nil_append] at hown3
      exact RetS.mk (f := fun v => .tuple #[v, .bool true]) (by rw [Hsl.out]; omega) (by rw [Hsl.out]; exact hown3) hb3

end Go.Proofs.Ytndpdoiomoefpaa
