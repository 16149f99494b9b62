/-
  FloorLength of the program.
-/
import Derived.Test.YtndpdoiomoefpaaMiles
import Derived.Test.YtndpdoiomoefpaaPoints
namespace Go.Proofs.Ytndpdoiomoefpaa
open Go.RowKit Go.Shelf

attribute [local go_sem] Oper.semAt_some

/-- the sum as the program adds it, wraps and all -/
def sumW (l : List Int) : Int := l.foldl (fun s v => wrap64 (s + v)) 0
theorem sumW_snoc (l : List Int) (x : Int) : sumW (l ++ [x]) = wrap64 (sumW l + x) := by simp [sumW]
theorem sumW_to (g : Nat → Int) : ∀ k, (∀ j, j < k → 0 ≤ g j ∧ g j ≤ 1000000) → k ≤ 2097152 → sumW ((List.range k).map g) = ((List.range k).map g).sum ∧ 0 ≤ ((List.range k).map g).sum ∧ ((List.range k).map g).sum ≤ 1000000 * (k : Int)
  | 0, _, _ => by simp [sumW]
  | k + 1, h, hk => by
    obtain ⟨e, h0, h1⟩ := sumW_to g k (fun j hj => h j (by omega)) (by omega)
    have hg := h k (by omega)
    rw [List.range_succ, List.map_append, List.map_cons, List.map_nil, sumW_snoc, e, List.sum_append]
    simp only [List.sum_cons, List.sum_nil, Int.add_zero]
    refine ⟨IntWalk.wrap64_in _ ⟨by omega, by omega⟩, by omega, by omega⟩

theorem needAt_sub {zs : List Int} {f t j : Nat} (h : j + 1 < t + 1 - f) : needAt (subL zs f t) j = needAt zs (f + j) := by
  unfold needAt
  rw [subL_at h, subL_at (show j < t + 1 - f by omega), Nat.add_assoc]
theorem depths_sub {zs : List Int} (hd : Depths zs) {f t : Nat} (h1 : f ≤ t) (h2 : t < zs.length) : Depths (subL zs f t) := fun j hj => by
  rw [subL_length h1 h2] at hj
  rw [subL_at hj]
  exact hd _ (by omega)
theorem sum_sub {zs : List Int} (hv : validB zs = true) {f t : Nat} (h1 : f ≤ t) (h2 : t < zs.length) :
    sumW ((milesTo ((subL zs f t).length - 1) ((subL zs f t).length - 1)).map (fun i => needAt (subL zs f t) i.val)) = lenTo zs f (t - f) := by
  have hl := subL_length h1 h2
  rw [milesTo_map _ _ (Nat.le_refl _) (needAt (subL zs f t))]
  have he : (subL zs f t).length - 1 = t - f := by omega
  rw [he]
  have hc : (List.range (t - f)).map (needAt (subL zs f t)) = (List.range (t - f)).map fun j => needAt zs (f + j) := by
    apply List.map_congr_left
    intro j hj
    rw [List.mem_range] at hj
    exact needAt_sub (by omega)
  rw [hc]
  have h16 := (validB_true hv).2.1
  exact (sumW_to (fun j => needAt zs (f + j)) (t - f) (fun j hj => by have := needAt_bd hv (i := f + j) (by omega); omega) (by omega)).1

set_option maxRecDepth 100000 in
set_option maxHeartbeats 2000000 in
theorem implFloorLength_b (A : Option Addr) (c : Nat) (zs : List Int) (a b : Int) (w : World) (ha : Arg w A c zs) :
    Calls Try.prog 23 #[.slice A zs.length c, .int .i64 a, .int .i64 b] w (RetB (.int .i64 (floorLengthI zs a b)) w) := by
  have hl := ha.len
  cases hv : validB zs
  · have htw : floorLengthI zs a b = -1 := by unfold floorLengthI twoB; rw [hv]; rfl
    have Ht := Lib.hid htw
    have Hv := Lib.hid hv
    have Ha := Lib.hid ha
    clear htw hv ha
    go_enter Try.func23, Try.ntmps23
    go_wp2_with fail
    refine (implFloorValid_c A c zs _ Ha.out).mono ?_
    rintro e w' ⟨rfl, rfl⟩
    rw [Hv.out]
    go_wp2
    go_ret
    exact ⟨by rw [Ht.out]; rfl, Below.refl _ _⟩
  · cases hp : ptsB zs a b
    · have htw : floorLengthI zs a b = -1 := by unfold floorLengthI twoB; rw [hv, hp]; rfl
      have Ht := Lib.hid htw
      have Hv := Lib.hid hv
      have Hp := Lib.hid hp
      have Ha := Lib.hid ha
      clear htw hv hp ha
      go_enter Try.func23, Try.ntmps23
      go_wp2_with fail
      refine (implFloorValid_c A c zs _ Ha.out).mono ?_
      rintro e w' ⟨rfl, rfl⟩
      rw [Hv.out]
      go_wp2_with fail
      refine (pointsInOrder_c A c zs a b _ hl).mono ?_
      rintro e w' ⟨rfl, rfl⟩
      rw [Hp.out]
      go_wp2
      go_ret
      exact ⟨by rw [Ht.out]; rfl, Below.refl _ _⟩
    · obtain ⟨p1, p2, p3⟩ := ptsB_true hp
      obtain ⟨f, rfl⟩ := Int.eq_ofNat_of_zero_le p1
      obtain ⟨t, rfl⟩ := Int.eq_ofNat_of_zero_le (Int.le_trans p1 p2)
      have hft : f ≤ t := by omega
      have htl : t < zs.length := by omega
      obtain ⟨bk, off, rfl, hsub⟩ := ha.sub hft htl
      have htw : floorLengthI zs (f : Int) (t : Int) = lenTo zs f (t - f) := by unfold floorLengthI twoB; rw [hv, hp]; simp
      have hcl := ha.2.1
      have hcm := ha.2.2.1
      have hsl := subL_length hft htl
      have Ht := Lib.hid htw
      have Hv := Lib.hid hv
      have Hp := Lib.hid hp
      have Ha := Lib.hid ha
      have Hs := Lib.hid hsub
      have Hsl := Lib.hid hsl
      unfold maxLen at hcm
      clear htw hv hp ha hsub hsl
      refine (callsIn_wide (n := 5)).1 ?_
      refine callsIn_of_wp_marks Try.func23 rfl trivial ?_ rfl
      simp only [Try.ntmps23, List.size_toArray, List.length_cons, List.length_nil, Nat.reduceAdd, Nat.reduceSub, Array.replicate_succ, Array.replicate_zero, List.push_toArray, List.append_toArray, List.nil_append, List.cons_append]
      gi_wp2_with (first
        | (refine ⟨trivial, ?_⟩; gi_at_call 77; refine (callsIn_wide.2 (implFloorValid_c _ c zs _ Ha.out)).mono ?_; rintro e w' ⟨rfl, rfl⟩; rw [Hv.out])
        | (refine ⟨trivial, ?_⟩; gi_at_call 78; refine (callsIn_wide.2 (pointsInOrder_c _ c zs _ _ _ hl)).mono ?_; rintro e w' ⟨rfl, rfl⟩; rw [Hp.out])
        | (refine ⟨trivial, ?_⟩; gi_at_call 81; refine (callsIn_wide.2 (floorMiles_c _ _ _ _)).mono ?_; rintro e w2 ⟨rfl, rfl⟩))
      obtain ⟨WL, hWL⟩ : ∃ WL, (w.alloc (.cells #[.int .i64 0] 3)).alloc (.cells #[.slice (some ⟨bk, off + f, none⟩) (t + 1 - f) (c - f)] 23) = WL := ⟨_, rfl⟩
      have bO : Boxed WL w.heap.size 3 (.int .i64 0) := by rw [← hWL]; exact (Boxed.new w 3 _).alloc _
      have bF : Boxed WL (w.heap.size + 1) 23 (.slice (some ⟨bk, off + f, none⟩) (subL zs f t).length (c - f)) := by
        rw [← hWL, Hsl.out]
        have := Boxed.new (w.alloc (.cells #[.int .i64 0] 3)) 23 (.slice (some ⟨bk, off + f, none⟩) (t + 1 - f) (c - f))
        rwa [World.size_alloc] at this
      have hBL : Below w.heap.size w WL := by rw [← hWL]; exact ((Below.refl _ w).alloc (Nat.le_refl _) _).alloc (by simp) _
      have hsz : WL.heap.size = w.heap.size + 2 := by rw [← hWL]; simp
      have hrd : Rd 0 w.heap.size WL (some ⟨bk, off + f, none⟩) (subL zs f t) := Hs.out.rd.below hBL
      have HF := Lib.hid (depths_sub (validB_depths Hv.out) hft htl)
      rw [hWL]
      have HWL := Lib.hid hWL
      clear hWL
      refine wpIn_rangeFunc_ownG rfl (by decide) (gf := 110) (lb := #[.pointer (some ⟨w.heap.size + 1, 0, none⟩)]) rfl trivial (enters_of Try.func110 (by kernel_rfl) rfl)
        (miles_stops 4 (by decide) (w.heap.size + 1) w.heap.size _ (c - f) (subL zs f t) (by rw [Hsl.out]; omega) (by rw [Hsl.out]; omega) HF.out WL (by omega) (by omega) bF.cell hrd) KpB.t (KpB.b (by omega) (by omega)) (Below.refl _ _) (fun _ => rfl)
        (Sums w.heap.size w.heap.size (w.heap.size + 1) (.slice (some ⟨bk, off + f, none⟩) (subL zs f t).length (c - f)) w (fun pre : List (Fin ((subL zs f t).length - 1)) => sumW (pre.map (fun i => needAt (subL zs f t) i.val))))
        (fun _ _ _ => False)
        (Sums.own (Nat.le_refl _) (by omega))
        (fun _ _ _ _ _ hs _ _ => hs)
        ⟨⟨bO, bF⟩, hBL⟩
        ?a1 ?assign ?body ?done ?stop
      case assign =>
        intro l x W K hK
        gi_wp2
        exact hK
      case body =>
        rintro l pre x W ⟨⟨hv, hF⟩, hB⟩ hlt
        have hc := hv.cell
        have hfz := hv.frozen
        gi_wp2
        refine ⟨(KeepsOthers.setCell _ _ _).from _, ⟨(Below.refl w.heap.size W).setCell (p := ⟨w.heap.size, 0, none⟩) (Nat.le_refl _) _, (hF.other (by omega) _).trans hF.symm⟩, ⟨?_, hF.other (by omega) _⟩, hB.setCell (p := ⟨w.heap.size, 0, none⟩) (Nat.le_refl _) _⟩
        dsimp only
        rw [List.map_append, List.map_cons, List.map_nil, sumW_snoc]
        exact hv.set _
      case done =>
        rintro D ys W hD rfl ⟨⟨hv, hF⟩, hB⟩ hK
        have hc := hv.cell
        have HH := Lib.hid (hB.trans (belowK_b (w := w) (Nat.le_refl _) W D _ (.deferred none) (by omega) hK rfl rfl))
        dsimp only at hc
        rw [sum_sub Hv.out hft htl] at hc
        gi_wp2
        refine ⟨by simp, .inl ⟨_, _, rfl, run_takeDeferred hK, ?_⟩⟩
        refine ⟨_, results_tmp rfl _ _ _, ?_⟩
        exact ⟨by rw [Ht.out]; rfl, HH.out⟩
      case stop =>
        rintro D cc pre W _ _ h _
        exact h.elim

end Go.Proofs.Ytndpdoiomoefpaa
