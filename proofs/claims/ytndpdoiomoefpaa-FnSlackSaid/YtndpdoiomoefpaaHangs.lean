/-
  PayHangs of both.
-/
import Derived.Test.YtndpdoiomoefpaaPays
import Derived.Test.YtndpdoiomoefpaaMiles
namespace Go.Proofs.Ytndpdoiomoefpaa
open Go.RowKit Go.Shelf

attribute [local go_sem] Oper.semAt_some

/-- the mile i hangs -/
def hangB (zs ps : List Int) (i : Nat) : Bool := decide (ps[i]?.getD 0 < needAt zs i)
def hangsTo (zs ps : List Int) (k : Nat) : List Int := ((List.range k).filter (hangB zs ps)).map Int.ofNat
theorem hangsTo_zero (zs ps : List Int) : hangsTo zs ps 0 = [] := by simp [hangsTo]
theorem hangsTo_yes {zs ps : List Int} {k : Nat} (h : hangB zs ps k = true) : hangsTo zs ps (k + 1) = hangsTo zs ps k ++ [(k : Int)] := by
  simp [hangsTo, List.range_succ, List.filter_append, h]
theorem hangsTo_no {zs ps : List Int} {k : Nat} (h : hangB zs ps k = false) : hangsTo zs ps (k + 1) = hangsTo zs ps k := by
  simp [hangsTo, List.range_succ, List.filter_append, h]
theorem hangsTo_length (zs ps : List Int) (k : Nat) : (hangsTo zs ps k).length ≤ k := by
  have := List.length_filter_le (hangB zs ps) (List.range k)
  simpa [hangsTo] using this
/-- what PayHangs hands back -/
def payHangsL (zs ps : List Int) : List Int := if payB zs ps then hangsTo zs ps ps.length else []

theorem l1Need_n (A : Option Addr) (c : Nat) (zs : List Int) (k : Nat) (w : World) (ha : Arg w A c zs) (hv : validB zs = true) (h1 : k + 1 < zs.length) :
    Calls Try.prog 90 #[.slice A zs.length c, .int .i64 (k : Int)] w (RetQ (.int .i64 (needAt zs k)) w) := by
  have := l1Need_c A c zs (k : Int) w ha hv (by omega) (by omega)
  rwa [Int.toNat_natCast] at this

/-- .. and one more box lies as it lay (a captured argument) -/
def Collects2 {α : Type} (n₀ Bx Bs Bp : Nat) (fl pv : Value) (w : World) (f : List α → List Int) (pre : List α) (W : World) : Prop := Collects n₀ Bx Bs fl w f pre W ∧ Boxed W Bp 23 pv
theorem Collects2.own {α : Type} {n₀ Bx Bs Bp : Nat} {fl pv : Value} {w : World} {f : List α → List Int} {B : Nat} (hn : n₀ ≤ w.heap.size) (hB : n₀ ≤ B) : OwnFrom B (Collects2 (α := α) n₀ Bx Bs Bp fl pv w f) :=
  OwnFrom.and (Collects.own hn hB) (Own.from (boxed_own Bp 23 (fun _ => pv)) _)

def hangsOf (zs ps : List Int) (N : Nat) (pre : List (Fin N)) : List Int := (pre.filter (fun i => hangB zs ps i.val)).map (fun i => (i.val : Int))
theorem hangsOf_yes {zs ps : List Int} {N : Nat} (pre : List (Fin N)) {x : Fin N} (h : hangB zs ps x.val = true) : hangsOf zs ps N (pre ++ [x]) = hangsOf zs ps N pre ++ [(x.val : Int)] := by
  simp [hangsOf, List.filter_append, h]
theorem hangsOf_no {zs ps : List Int} {N : Nat} (pre : List (Fin N)) {x : Fin N} (h : hangB zs ps x.val = false) : hangsOf zs ps N (pre ++ [x]) = hangsOf zs ps N pre := by
  simp [hangsOf, List.filter_append, h]
theorem hangsOf_length (zs ps : List Int) (N : Nat) (pre : List (Fin N)) : (hangsOf zs ps N pre).length ≤ pre.length := by
  have := List.length_filter_le (fun i : Fin N => hangB zs ps i.val) pre
  simpa [hangsOf] using this
theorem hangsOf_all (zs ps : List Int) (N : Nat) : ∀ k, k ≤ N → hangsOf zs ps N (milesTo N k) = hangsTo zs ps k
  | 0, _ => by rw [milesTo_zero, hangsTo_zero]; rfl
  | k + 1, h => by
    have hk : k < N := by omega
    have ih := hangsOf_all zs ps N k (by omega)
    rw [milesTo_succ hk]
    cases hb : hangB zs ps k
    · rw [hangsOf_no (milesTo N k) (x := ⟨k, hk⟩) hb, hangsTo_no hb, ih]
    · rw [hangsOf_yes (milesTo N k) (x := ⟨k, hk⟩) hb, hangsTo_yes hb, ih]

set_option maxRecDepth 100000 in
set_option maxHeartbeats 2000000 in
theorem implPayHangs_b (A : Option Addr) (c : Nat) (zs : List Int) (B : Option Addr) (d : Nat) (ps : List Int) (w : World) (ha : Arg w A c zs) (hb : Arg w B d ps) :
    Calls Try.prog 35 #[.slice A zs.length c, .slice B ps.length d] w (RetS 3 id (payHangsL zs ps) w) := by
  have hl := ha.len
  have hl2 := hb.len
  have hbb : Below w.heap.size w (w.alloc (.cells #[.slice B ps.length d] 23)) := (Below.refl _ _).alloc (Nat.le_refl _) _
  have Ha := Lib.hid (ha.go hbb)
  have Hb := Lib.hid (hb.go hbb)
  have Ra := Lib.hid ha.rd
  have Rb := Lib.hid hb.rd
  clear ha hb
  cases hp : payB zs ps
  · have Hh := Lib.hid (show payHangsL zs ps = [] by unfold payHangsL; rw [hp]; rfl)
    have Hp := Lib.hid hp
    clear hp
    go_enter Try.func35, Try.ntmps35
    go_wp2_with fail
    refine (implPayValid_c A c zs B d ps _ Ha.out Hb.out).mono ?_
    rintro e w' ⟨rfl, rfl⟩
    rw [Hp.out]
    go_wp2
    go_ret
    rw [Hh.out]
    exact RetS.nil (f := id) hbb
  · have Hh := Lib.hid (show payHangsL zs ps = hangsTo zs ps ps.length by unfold payHangsL; rw [hp]; rfl)
    obtain ⟨i0, hi, hz0, hz1, hz2⟩ := info_parts int_info
    obtain ⟨hv, hlen, _⟩ := payB_true hp
    have h2 := (validB_true hv).1
    have h16 := (validB_true hv).2.1
    have Hd := Lib.hid (validB_depths hv)
    have Hp := Lib.hid hp
    have Hlen := Lib.hid hlen
    have hle : ps.length + 1 ≤ zs.length := by omega
    clear hp hv hlen
    refine (callsIn_wide (n := 5)).1 ?_
    refine callsIn_of_wp_marks Try.func35 rfl trivial ?_ rfl
    simp only [Try.ntmps35, List.size_toArray, List.length_cons, List.length_nil, Nat.reduceAdd, Nat.reduceSub, Array.replicate_succ, Array.replicate_zero, List.push_toArray, List.append_toArray, List.nil_append, List.cons_append]
    gi_wp2_with (first
      | (refine ⟨trivial, ?_⟩; gi_at_call 33; refine (callsIn_wide.2 (implPayValid_c A c zs B d ps _ Ha.out Hb.out)).mono ?_; rintro e w' ⟨rfl, rfl⟩; rw [Hp.out])
      | (refine ⟨trivial, ?_⟩; gi_at_call 81; refine (callsIn_wide.2 (floorMiles_c _ _ _ _)).mono ?_; rintro e w2 ⟨rfl, rfl⟩))
    obtain ⟨WL, hWL⟩ : ∃ WL, ((w.alloc (.cells #[.slice B ps.length d] 23)).alloc (.cells #[.slice none 0 0] 23)).alloc (.cells #[.slice A zs.length c] 23) = WL := ⟨_, rfl⟩
    have bP : Boxed WL w.heap.size 23 (.slice B ps.length d) := by rw [← hWL]; exact ((Boxed.new w 23 _).alloc _).alloc _
    have bO : Boxed WL (w.heap.size + 1) 23 (.slice none 0 0) := by
      rw [← hWL]
      have := (Boxed.new (w.alloc (.cells #[.slice B ps.length d] 23)) 23 (.slice none 0 0)).alloc (.cells #[.slice A zs.length c] 23)
      rwa [World.size_alloc] at this
    have bF : Boxed WL (w.heap.size + 2) 23 (.slice A zs.length c) := by
      rw [← hWL]
      have := Boxed.new ((w.alloc (.cells #[.slice B ps.length d] 23)).alloc (.cells #[.slice none 0 0] 23)) 23 (.slice A zs.length c)
      rwa [World.size_alloc, World.size_alloc] at this
    have hBL : Below w.heap.size w WL := by rw [← hWL]; exact (((Below.refl _ w).alloc (Nat.le_refl _) _).alloc (by simp) _).alloc (by simp; omega) _
    have hsz : WL.heap.size = w.heap.size + 3 := by rw [← hWL]; simp
    have hrd : Rd 0 w.heap.size WL A zs := Ra.out.below hBL
    rw [hWL]
    have HWL := Lib.hid hWL
    clear hWL
    refine wpIn_rangeFunc_ownG rfl (by decide) (gf := 110) (lb := #[.pointer (some ⟨w.heap.size + 2, 0, none⟩)]) rfl trivial (enters_of Try.func110 (by kernel_rfl) rfl)
      (miles_stops 4 (by decide) (w.heap.size + 2) w.heap.size A c zs (by omega) hl Hd.out WL (by omega) (by omega) bF.cell hrd) KpB.t (KpB.b (by omega) (by omega)) (Below.refl _ _) (fun _ => rfl)
      (Collects2 w.heap.size (w.heap.size + 1) (w.heap.size + 2) w.heap.size (.slice A zs.length c) (.slice B ps.length d) w (hangsOf zs ps (zs.length - 1)))
      (fun _ _ _ => False)
      (Collects2.own (Nat.le_refl _) (by omega))
      (fun _ _ _ _ _ hs _ _ => hs)
      ⟨⟨⟨⟨_, bO, World.ownsRow_nil _ _ _ _, trivial⟩, bF⟩, hBL⟩, bP⟩
      ?a1 ?assign ?body ?done ?stop
    case assign =>
      intro l x W K hK
      gi_wp2
      exact hK
    case body =>
      rintro l pre x W ⟨⟨⟨⟨v, hv, hrow, _⟩, hF⟩, hB⟩, hP⟩ hlt
      have hc := hv.cell
      have hcp := hP.cell
      have hhl := hangsOf_length zs ps (zs.length - 1) pre
      have hx := x.isLt
      have hxp : x.val < ps.length := by have := Hlen.out; omega
      obtain ⟨b, off, rfl, _, _, hcx⟩ := (Rb.out.below hB).at_ hxp
      have e0 : ps[x.val]?.getD 0 = ps[x.val] := by simp [hxp]
      have Hhb := Lib.hid (show hangB zs ps x.val = decide (ps[x.val] < needAt zs x.val) by unfold hangB; rw [e0])
      rw [e0] at hcx
      have hsz2 := hB.size
      clear e0
      by_cases hlt2 : ps[x.val] < needAt zs x.val
      · have Hs := Lib.hid (hangsOf_yes (zs := zs) (ps := ps) pre (x := x) (by rw [Hhb.out]; simpa using hlt2))
        gi_wp2_with (gi_at_builtin; refine wpListIn_append_own _ rfl _ _ 23 rfl w.heap.size 3 i0 (.int .i64 0) 1 8 Try.underlying23 hi hz0 hz1 hz2 rfl (by decide) _ _ _ rfl (hrow.alloc _) ⟨W.heap.size, 0, none⟩ 1 1 [.int .i64 (x.val : Int)] rfl rfl (one_new _ _ _) (by simp [Value.oneCell']) (by unfold maxLen; omega) (by omega) (by simp; omega) ?_; intro v' w9 hown' hgrow _; obtain ⟨g', cap', rfl⟩ := ownsRow_succ hown'; obtain ⟨hv1, hv2, hr2, hk2, hb2⟩ := hv.appended (by decide) hrow hB.size (Nat.le_succ _) hown' hgrow; have hF2 := ((hF.alloc _).kept hgrow (hF.not_row (by decide) hrow)).other (B' := w.heap.size + 1) (by omega) (.slice (some ⟨g', 0, none⟩) ((hangsOf zs ps (zs.length - 1) pre).length + 1) cap'); have hP2 := ((hP.alloc _).kept hgrow (hP.not_row (by decide) hrow)).other (B' := w.heap.size + 1) (by omega) (.slice (some ⟨g', 0, none⟩) ((hangsOf zs ps (zs.length - 1) pre).length + 1) cap'); have hc1 := hv1.cell; have hf1 := hv1.frozen)
        exact ⟨hk2.from _, ⟨hb2, hF2.trans hF.symm⟩, ⟨⟨⟨_, hv2, by rw [Hs.out, List.length_append, List.map_append]; exact hr2, trivial⟩, hF2⟩, hB.trans hb2⟩, hP2⟩
      · have Hs := Lib.hid (hangsOf_no (zs := zs) (ps := ps) pre (x := x) (by rw [Hhb.out]; simpa using hlt2))
        gi_wp2
        exact ⟨KeepsFrom.refl _ _, KpB.refl _ _ _, ⟨⟨⟨v, hv, by rw [Hs.out]; exact hrow, trivial⟩, hF⟩, hB⟩, hP⟩
    case done =>
      rintro D ys W hD rfl ⟨hI, _⟩ hK
      obtain ⟨v, hc, hrow, hB⟩ := hI.done (Nat.le_refl _) (by omega) hK
      have hrow := Lib.hid hrow
      have hI := Lib.hid hI
      gi_wp2
      refine ⟨by simp, .inl ⟨_, _, rfl, run_takeDeferred hK, ?_⟩⟩
      refine ⟨_, results_tmp rfl _ _ _, ?_⟩
      rw [Hh.out]
      have hhl := hangsTo_length zs ps ps.length
      refine RetS.mk (f := id) (by omega) ?_ hB
      have h9 := hrow.out
      rw [hangsOf_all zs ps _ _ (Nat.le_refl _), ← Hlen.out] at h9
      exact h9
    case stop =>
      rintro D cc pre W _ _ h _
      exact h.elim

end Go.Proofs.Ytndpdoiomoefpaa
