/-
  PaySlack of the program.
-/
import Derived.Test.YtndpdoiomoefpaaPays
import Derived.Test.YtndpdoiomoefpaaMiles
namespace Go.Proofs.Ytndpdoiomoefpaa
open Go.RowKit Go.Shelf

attribute [local go_sem] Oper.semAt_some

/-- the slack of the mile i -/
def slackAt (zs ps : List Int) (i : Nat) : Int := max (ps[i]?.getD 0 - needAt zs i) 0
def slackTo (zs ps : List Int) (k : Nat) : Int := ((List.range k).map (slackAt zs ps)).sum
theorem slackTo_zero (zs ps : List Int) : slackTo zs ps 0 = 0 := by simp [slackTo]
theorem slackTo_succ (zs ps : List Int) (k : Nat) : slackTo zs ps (k + 1) = slackTo zs ps k + slackAt zs ps k := by simp [slackTo, List.range_succ, List.sum_append]
theorem slackAt_bd {zs ps : List Int} (h : payB zs ps = true) {i : Nat} (hi : i < ps.length) : 0 ≤ slackAt zs ps i ∧ slackAt zs ps i ≤ 60 := by
  obtain ⟨hv, hl, ha⟩ := payB_true h
  have h1 := allB_true.1 ha i hi
  have h2 := needAt_bd hv (i := i) (by omega)
  unfold slackAt
  omega
theorem slackTo_bd {zs ps : List Int} (h : payB zs ps = true) : ∀ k, k ≤ ps.length → 0 ≤ slackTo zs ps k ∧ slackTo zs ps k ≤ 60 * (k : Int)
  | 0, _ => by rw [slackTo_zero]; omega
  | k + 1, hk => by
    have ih := slackTo_bd h k (by omega)
    have := slackAt_bd h (i := k) (by omega)
    rw [slackTo_succ]
    omega
/-- what PaySlack hands back -/
def paySlackI (zs ps : List Int) : Int := if payB zs ps then slackTo zs ps ps.length else -1

/-- the sum as the program adds it, wraps and all -/
def slackW (zs ps : List Int) {N : Nat} (pre : List (Fin N)) : Int := pre.foldl (fun s i => wrap64 (s + slackAt zs ps i.val)) 0
theorem slackW_snoc (zs ps : List Int) {N : Nat} (pre : List (Fin N)) (x : Fin N) : slackW zs ps (pre ++ [x]) = wrap64 (slackW zs ps pre + slackAt zs ps x.val) := by simp [slackW]
theorem slackW_all {zs ps : List Int} (h : payB zs ps = true) {N : Nat} (hN : N ≤ ps.length) (h16 : ps.length ≤ 16) : ∀ k, k ≤ N → slackW zs ps (milesTo N k) = slackTo zs ps k
  | 0, _ => by rw [milesTo_zero, slackTo_zero]; rfl
  | k + 1, hk => by
    have hkN : k < N := by omega
    have ih := slackW_all h hN h16 k (by omega)
    have hb := slackTo_bd h (k + 1) (by omega)
    rw [milesTo_succ hkN, slackW_snoc, ih]
    rw [slackTo_succ] at hb ⊢
    show wrap64 (slackTo zs ps k + slackAt zs ps k) = _
    exact IntWalk.wrap64_in _ ⟨by omega, by omega⟩

/-- A BODY THAT ADDS UP, one more box beside -/
def Sums2 {α : Type} (n₀ Bx Bs Bp : Nat) (fl pv : Value) (w : World) (f : List α → Int) (pre : List α) (W : World) : Prop := Sums n₀ Bx Bs fl w f pre W ∧ Boxed W Bp 23 pv
theorem Sums2.own {α : Type} {n₀ Bx Bs Bp : Nat} {fl pv : Value} {w : World} {f : List α → Int} {B : Nat} (hn : n₀ ≤ w.heap.size) (hB : n₀ ≤ B) : OwnFrom B (Sums2 (α := α) n₀ Bx Bs Bp fl pv w f) :=
  OwnFrom.and (Sums.own hn hB) (Own.from (boxed_own Bp 23 (fun _ => pv)) _)

theorem wrap64_eq (n : Int) : wrap64 n = IntKind.i64.wrap n := by rw [IntKind.wrap_i64, wrap64]
/-- the end of a round: the box is stored, an order has been drawn -/
theorem Sums2.step {α : Type} {B n₀ Bx Bs Bp : Nat} {fl pv : Value} {w W : World} {f : List α → Int} {pre : List α} {x : α} {q : Int} {Ix : Code → List α → World → Prop} {a : Act} (hv : Boxed W (Bx) 3 (.int .i64 (f pre))) (hF : Boxed W Bs 23 fl) (hP : Boxed W Bp 23 pv) (hB : Below n₀ w W)
    (hq : q = f (pre ++ [x])) (h1 : Bs ≠ Bx := by omega) (h2 : Bp ≠ Bx := by omega) (h3 : n₀ ≤ Bx := by omega) :
    ownPostG B (KpB n₀ Bs) (Sums2 n₀ Bx Bs Bp fl pv w f) Ix (pre ++ [x]) W Exit.normal a (W.setCell ⟨Bx, 0, none⟩ (.int .i64 q)).drew := by
  subst hq
  exact ⟨((KeepsOthers.setCell _ _ _).trans (KeepsOthers.drew _)).from _, ⟨((Below.refl n₀ W).setCell (p := ⟨Bx, 0, none⟩) h3 _).drew, (hF.other h1 _).trans hF.symm⟩, ⟨⟨hv.set _, hF.other h1 _⟩, (hB.setCell (p := ⟨Bx, 0, none⟩) h3 _).drew⟩, hP.other h2 _⟩

set_option maxRecDepth 100000 in
set_option maxHeartbeats 4000000 in
theorem implPaySlack_b (A : Option Addr) (c : Nat) (zs : List Int) (B : Option Addr) (d : Nat) (ps : List Int) (w : World) (ha : Arg w A c zs) (hb : Arg w B d ps) :
    Calls Try.prog 36 #[.slice A zs.length c, .slice B ps.length d] w (RetB (.int .i64 (paySlackI zs ps)) w) := by
  have hl := ha.len
  have hl2 := hb.len
  have hbb : Below w.heap.size w (w.alloc (.cells #[.slice B ps.length d] 23)) := (Below.refl _ _).alloc (Nat.le_refl _) _
  have Ha := Lib.hid (ha.go hbb)
  have Hb := Lib.hid (hb.go hbb)
  have Ra := Lib.hid ha.rd
  have Rb := Lib.hid hb.rd
  clear ha hb
  cases hp : payB zs ps
  · have Hh := Lib.hid (show paySlackI zs ps = -1 by unfold paySlackI; rw [hp]; rfl)
    have Hp := Lib.hid hp
    clear hp
    go_enter Try.func36, Try.ntmps36
    go_wp2_with fail
    refine (implPayValid_c A c zs B d ps _ Ha.out Hb.out).mono ?_
    rintro e w' ⟨rfl, rfl⟩
    rw [Hp.out]
    go_wp2
    go_ret
    exact ⟨by rw [Hh.out]; rfl, hbb⟩
  · have Hh := Lib.hid (show paySlackI zs ps = slackTo zs ps ps.length by unfold paySlackI; rw [hp]; rfl)
    obtain ⟨hv, hlen, hall⟩ := payB_true hp
    have h2 := (validB_true hv).1
    have h16 := (validB_true hv).2.1
    have Hd := Lib.hid (validB_depths hv)
    have Hp := Lib.hid hp
    have Hv := Lib.hid hv
    have Hlen := Lib.hid hlen
    have Hall := Lib.hid hall
    have hle : ps.length + 1 ≤ zs.length := by omega
    clear hp hv hlen hall
    refine (callsIn_wide (n := 5)).1 ?_
    refine callsIn_of_wp_marks Try.func36 rfl trivial ?_ rfl
    simp only [Try.ntmps36, List.size_toArray, List.length_cons, List.length_nil, Nat.reduceAdd, Nat.reduceSub, Array.replicate_succ, Array.replicate_zero, List.push_toArray, List.append_toArray, List.nil_append, List.cons_append]
    gi_wp2_with (first
      | (refine ⟨trivial, ?_⟩; gi_at_call 33; refine (callsIn_wide.2 (implPayValid_c A c zs B d ps _ Ha.out Hb.out)).mono ?_; rintro e w' ⟨rfl, rfl⟩; rw [Hp.out])
      | (refine ⟨trivial, ?_⟩; gi_at_call 81; refine (callsIn_wide.2 (floorMiles_c _ _ _ _)).mono ?_; rintro e w2 ⟨rfl, rfl⟩))
    obtain ⟨WL, hWL⟩ : ∃ WL, ((w.alloc (.cells #[.slice B ps.length d] 23)).alloc (.cells #[.int .i64 0] 3)).alloc (.cells #[.slice A zs.length c] 23) = WL := ⟨_, rfl⟩
    have bP : Boxed WL w.heap.size 23 (.slice B ps.length d) := by rw [← hWL]; exact ((Boxed.new w 23 _).alloc _).alloc _
    have bO : Boxed WL (w.heap.size + 1) 3 (.int .i64 0) := by
      rw [← hWL]
      have := (Boxed.new (w.alloc (.cells #[.slice B ps.length d] 23)) 3 (.int .i64 0)).alloc (.cells #[.slice A zs.length c] 23)
      rwa [World.size_alloc] at this
    have bF : Boxed WL (w.heap.size + 2) 23 (.slice A zs.length c) := by
      rw [← hWL]
      have := Boxed.new ((w.alloc (.cells #[.slice B ps.length d] 23)).alloc (.cells #[.int .i64 0] 3)) 23 (.slice A zs.length c)
      rwa [World.size_alloc, World.size_alloc] at this
    have hBL : Below w.heap.size w WL := by rw [← hWL]; exact (((Below.refl _ w).alloc (Nat.le_refl _) _).alloc (by simp) _).alloc (by simp; omega) _
    have hsz : WL.heap.size = w.heap.size + 3 := by rw [← hWL]; simp
    have hrd : Rd 0 w.heap.size WL A zs := Ra.out.below hBL
    rw [hWL]
    have HWL := Lib.hid hWL
    clear hWL
    refine wpIn_rangeFunc_ownG rfl (by decide) (gf := 110) (lb := #[.pointer (some ⟨w.heap.size + 2, 0, none⟩)]) rfl trivial (enters_of Try.func110 (by kernel_rfl) rfl)
      (miles_stops 4 (by decide) (w.heap.size + 2) w.heap.size A c zs (by omega) hl Hd.out WL (by omega) (by omega) bF.cell hrd) KpB.t (KpB.b (by omega) (by omega)) (Below.refl _ _) (fun _ => rfl)
      (Sums2 w.heap.size (w.heap.size + 1) (w.heap.size + 2) w.heap.size (.slice A zs.length c) (.slice B ps.length d) w (slackW zs ps (N := zs.length - 1)))
      (fun _ _ _ => False)
      (Sums2.own (Nat.le_refl _) (by omega))
      (fun _ _ _ _ _ hs _ _ => hs)
      ⟨⟨⟨bO, bF⟩, hBL⟩, bP⟩
      ?a1 ?assign ?body ?done ?stop
    case assign =>
      intro l x W K hK
      gi_wp2
      exact hK
    case body =>
      rintro l pre x W ⟨⟨⟨hv, hF⟩, hB⟩, hP⟩ hlt
      have hc := hv.cell
      have hfz := hv.frozen
      have hcp := hP.cell
      have hx := x.isLt
      have hxp : x.val < ps.length := by have := Hlen.out; omega
      obtain ⟨b, off, rfl, _, _, hcx⟩ := (Rb.out.below hB).at_ hxp
      have e0 : ps[x.val]?.getD 0 = ps[x.val] := by simp [hxp]
      have Hsa := Lib.hid (show slackAt zs ps x.val = max (ps[x.val] - needAt zs x.val) 0 by unfold slackAt; rw [e0])
      have hb1 := allB_true.1 Hall.out x.val hxp
      have hb2 := needAt_bd Hv.out (i := x.val) (by omega)
      rw [e0] at hcx hb1
      clear e0
      have g1 : (x.val : Int) < (ps.length : Int) := by omega
      have hm : Try.prog.follows Departure.mixedOrders = true := by kernel_rfl
      have q1 : IntKind.i64.wrap (ps[x.val] - needAt zs x.val) = ps[x.val] - needAt zs x.val := IntWalk.i64_in _ (by omega)
      by_cases hge : 0 ≤ ps[x.val] - needAt zs x.val
      · have Hw := Lib.hid (show IntKind.i64.wrap (slackW zs ps pre + (ps[x.val] - needAt zs x.val)) = slackW zs ps (pre ++ [x]) by
          rw [slackW_snoc, Hsa.out, Int.max_eq_left hge]
          exact (wrap64_eq _).symm)
        have hv9 := hv
        have Hv9 := Lib.hid hv9
        have HF9 := Lib.hid hF
        have HP9 := Lib.hid hP
        have HB9 := Lib.hid hB
        clear hv9 hv hF hP hB
        gi_wp2
        gi_region_with_o (fail)
        all_goals gi_wp2
        all_goals exact Sums2.step Hv9.out HF9.out HP9.out HB9.out Hw.out
      · have Hw := Lib.hid (show IntKind.i64.wrap (slackW zs ps pre) = slackW zs ps (pre ++ [x]) by
          rw [slackW_snoc, Hsa.out, Int.max_eq_right (by omega), Int.add_zero]
          exact (wrap64_eq _).symm)
        have hv9 := hv
        have Hv9 := Lib.hid hv9
        have HF9 := Lib.hid hF
        have HP9 := Lib.hid hP
        have HB9 := Lib.hid hB
        clear hv9 hv hF hP hB
        gi_wp2
        gi_region_with_o (fail)
        all_goals gi_wp2
        all_goals exact Sums2.step Hv9.out HF9.out HP9.out HB9.out Hw.out
    case done =>
      rintro D ys W hD rfl ⟨⟨⟨hv, hF⟩, hB⟩, _⟩ hK
      have hc := hv.cell
      have HH := Lib.hid (hB.trans (belowK_b (w := w) (Nat.le_refl _) W D _ (.deferred none) (by omega) hK rfl rfl))
      have hps : ps.length = zs.length - 1 := Hlen.out
      rw [slackW_all Hp.out (by omega) (by omega) _ (Nat.le_refl _), ← hps] at hc
      clear hps
      gi_wp2
      refine ⟨by simp, .inl ⟨_, _, rfl, run_takeDeferred hK, ?_⟩⟩
      refine ⟨_, results_tmp rfl _ _ _, ?_⟩
      exact ⟨by rw [Hh.out]; rfl, HH.out⟩
    case stop =>
      rintro D cc pre W _ _ h _
      exact h.elim

end Go.Proofs.Ytndpdoiomoefpaa
