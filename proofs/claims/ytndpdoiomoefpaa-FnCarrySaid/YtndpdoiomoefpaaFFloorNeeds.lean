/-
  FloorNeeds of the program.
-/
import Derived.Test.YtndpdoiomoefpaaMiles
namespace Go.Proofs.Ytndpdoiomoefpaa
open Go.RowKit Go.Shelf

attribute [local go_sem] Oper.semAt_some

set_option maxRecDepth 100000 in
set_option maxHeartbeats 2000000 in
theorem implFloorNeeds_b (A : Option Addr) (c : Nat) (zs : List Int) (w : World) (ha : Arg w A c zs) :
    Calls Try.prog 30 #[.slice A zs.length c] w (RetS 3 (fun v => .tuple #[v, .bool (validB zs)]) (floorNeedsL zs) w) := by
  cases hv : validB zs
  · have hfl : floorNeedsL zs = [] := by unfold floorNeedsL; rw [hv]; rfl
    have Hfl := Lib.hid hfl
    have Hv := Lib.hid hv
    have Ha := Lib.hid ha
    clear hv hfl ha
    go_enter Try.func30, Try.ntmps30
    go_wp2_with fail
    refine (implFloorValid_c A c zs _ Ha.out).mono ?_
    rintro e w' ⟨rfl, rfl⟩
    rw [Hv.out]
    go_wp2
    go_ret2
    rw [Hfl.out]
    exact RetS.nil (f := fun v => .tuple #[v, .bool false]) (Below.refl _ _)
  · obtain ⟨i0, hi, hz0, hz1, hz2⟩ := info_parts int_info
    have hfl : floorNeedsL zs = needsTo zs (zs.length - 1) := by unfold floorNeedsL needsL; rw [hv]; rfl
    have hb := validB_true hv
    have h2 := hb.1
    have h16 := hb.2.1
    have Hfl := Lib.hid hfl
    have Hv := Lib.hid hv
    have Ha := Lib.hid ha
    clear hv hfl ha hb
    refine (callsIn_wide (n := 5)).1 ?_
    refine callsIn_of_wp_marks Try.func30 rfl trivial ?_ rfl
    simp only [Try.ntmps30, List.size_toArray, List.length_cons, List.length_nil, Nat.reduceAdd, Nat.reduceSub, Array.replicate_succ, Array.replicate_zero, List.push_toArray, List.append_toArray, List.nil_append, List.cons_append]
    gi_wp2_with (first
      | (refine ⟨trivial, ?_⟩; gi_at_call 77; refine (callsIn_wide.2 (implFloorValid_c A c zs _ Ha.out)).mono ?_; rintro e w' ⟨rfl, rfl⟩; rw [Hv.out])
      | (gi_at_make; refine wpListIn_make_own _ rfl _ _ 23 rfl w.heap.size 3 i0 (.int .i64 0) 1 Try.underlying23 hi hz0 hz1 .i64 .i64 _ (zs.length - 1) rfl rfl (by omega) (by rw [hz2]; omega) (by unfold maxLen; omega) (Nat.le_refl _) ?_; intro w1 hown hg1)
      | (refine ⟨trivial, ?_⟩; gi_at_call 81; refine (callsIn_wide.2 (floorMiles_c _ _ _ _)).mono ?_; rintro e w2 ⟨rfl, rfl⟩))
    obtain ⟨WL, hWL⟩ : ∃ WL, (w1.alloc (.cells #[.slice (some ⟨w.heap.size, 0, none⟩) 0 (zs.length - 1)] 23)).alloc (.cells #[.slice A zs.length c] 23) = WL := ⟨_, rfl⟩
    have bO : Boxed WL w1.heap.size 23 (.slice (some ⟨w.heap.size, 0, none⟩) 0 (zs.length - 1)) := by rw [← hWL]; exact (Boxed.new w1 23 _).alloc _
    have bF : Boxed WL (w1.heap.size + 1) 23 (.slice A zs.length c) := by
      rw [← hWL]
      have := Boxed.new (w1.alloc (.cells #[.slice (some ⟨w.heap.size, 0, none⟩) 0 (zs.length - 1)] 23)) 23 (.slice A zs.length c)
      rwa [World.size_alloc] at this
    have hs1 := hg1.size
    have hB1 : Below w.heap.size w w1 := (Below.refl _ _).grown hg1 (Nat.le_refl _) (by simp)
    have hBL : Below w.heap.size w WL := by rw [← hWL]; exact (hB1.alloc hs1 _).alloc (by simp; omega) _
    have hsz : WL.heap.size = w1.heap.size + 2 := by rw [← hWL]; simp
    have hrow0 : WL.ownsRow w.heap.size 3 1 (.slice (some ⟨w.heap.size, 0, none⟩) 0 (zs.length - 1)) 0 [] := by rw [← hWL]; exact (hown.alloc _).alloc _
    have hrd : Rd 0 w.heap.size WL A zs := Ha.out.rd.below hBL
    have HF := Lib.hid (validB_depths Hv.out)
    have HO := Lib.hid hown
    have HG := Lib.hid hg1
    clear hown hg1
    rw [hWL]
    have HWL := Lib.hid hWL
    clear hWL
    refine wpIn_rangeFunc_ownG rfl (by decide) (gf := 110) (lb := #[.pointer (some ⟨w1.heap.size + 1, 0, none⟩)]) rfl trivial (enters_of Try.func110 (by kernel_rfl) rfl)
      (miles_stops 4 (by decide) (w1.heap.size + 1) w.heap.size A c zs (by omega) Ha.out.len HF.out WL (by omega) (by omega) bF.cell hrd) KpB.t (KpB.b (by omega) (by omega)) (Below.refl _ _) (fun _ => rfl)
      (Collects w.heap.size w1.heap.size (w1.heap.size + 1) (.slice A zs.length c) w (fun pre : List (Fin (zs.length - 1)) => pre.map (fun i => needAt zs i.val)))
      (fun _ _ _ => False)
      (Collects.own (Nat.le_refl _) (by omega))
      (fun _ _ _ _ _ hs _ _ => hs)
      ⟨⟨⟨_, bO, hrow0, trivial⟩, bF⟩, hBL⟩
      ?a1 ?assign ?body ?done ?stop
    case assign =>
      intro l x W K hK
      gi_wp2
      exact hK
    case body =>
      rintro l pre x W ⟨⟨⟨v, hv, hrow, _⟩, hF⟩, hB⟩ hlt
      have hc := hv.cell
      rw [List.length_map] at hrow
      have hsz2 := hB.size
      gi_wp2_with (gi_at_builtin; refine wpListIn_append_own _ rfl _ _ 23 rfl w.heap.size 3 i0 (.int .i64 0) 1 8 Try.underlying23 hi hz0 hz1 hz2 rfl (by decide) _ _ _ rfl (hrow.alloc _) ⟨W.heap.size, 0, none⟩ 1 1 [.int .i64 (needAt zs x.val)] rfl rfl (one_new _ _ _) (by simp [Value.oneCell']) (by unfold maxLen; omega) (by omega) (by simp; omega) ?_; intro v' w9 hown' hgrow _; obtain ⟨g', cap', rfl⟩ := ownsRow_succ hown'; obtain ⟨hv1, hv2, hr2, hk2, hb2⟩ := hv.appended (by decide) hrow hB.size hs1 hown' hgrow; have hF2 := ((hF.alloc _).kept hgrow (hF.not_row (by decide) hrow)).other (B' := w1.heap.size) (by omega) (.slice (some ⟨g', 0, none⟩) (pre.length + 1) cap'); have hc1 := hv1.cell; have hf1 := hv1.frozen)
      exact ⟨hk2.from _, ⟨hb2, hF2.trans hF.symm⟩, ⟨⟨_, hv2, by simpa using hr2, trivial⟩, hF2⟩, hB.trans hb2⟩
    case done =>
      rintro D ys W hD rfl hI hK
      obtain ⟨v, hc, hrow, hB⟩ := hI.done (Nat.le_refl _) (by omega) hK
      have hrow := Lib.hid hrow
      have hI := Lib.hid hI
      gi_wp2
      refine ⟨by simp, .inl ⟨_, _, rfl, run_takeDeferred hK, ?_⟩⟩
      refine ⟨_, results_tmp2 rfl _ _ _, ?_⟩
      rw [Hfl.out]
      refine RetS.mk (f := fun v => .tuple #[v, .bool true]) (by rw [needsTo_length]; omega) ?_ hB
      have h9 := hrow.out
      rw [milesTo_map _ _ (Nat.le_refl _) (needAt zs)] at h9
      exact h9
    case stop =>
      rintro D cc pre W _ _ h _
      exact h.elim

end Go.Proofs.Ytndpdoiomoefpaa
