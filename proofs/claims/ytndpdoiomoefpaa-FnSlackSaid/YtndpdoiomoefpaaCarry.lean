/-
  PayCarry of both.
-/
import Derived.Test.YtndpdoiomoefpaaNeed
import Derived.Test.YtndpdoiomoefpaaMiles
namespace Go.Proofs.Ytndpdoiomoefpaa
open Go.RowKit Go.Shelf

attribute [local go_sem] Oper.semAt_some

/-- what is left aboard after the first k miles -/
def leftTo (zs : List Int) (ab : Int) : Nat → Int
  | 0 => ab
  | k + 1 => leftTo zs ab k - min (leftTo zs ab k) (needAt zs k)
def carryTo (zs : List Int) (ab : Int) (k : Nat) : List Int := (List.range k).map fun j => min (leftTo zs ab j) (needAt zs j)
theorem carryTo_zero (zs : List Int) (ab : Int) : carryTo zs ab 0 = [] := by simp [carryTo]
theorem carryTo_succ (zs : List Int) (ab : Int) (k : Nat) : carryTo zs ab (k + 1) = carryTo zs ab k ++ [min (leftTo zs ab k) (needAt zs k)] := by simp [carryTo, List.range_succ]
theorem carryTo_length (zs : List Int) (ab : Int) (k : Nat) : (carryTo zs ab k).length = k := by simp [carryTo]
theorem leftTo_bd {zs : List Int} (hv : validB zs = true) {ab : Int} (h0 : 0 ≤ ab) (h1 : ab ≤ 1000) : ∀ k, k + 1 ≤ zs.length → 0 ≤ leftTo zs ab k ∧ leftTo zs ab k ≤ 1000
  | 0, _ => ⟨h0, h1⟩
  | k + 1, h => by
    have ih := leftTo_bd hv h0 h1 k (by omega)
    have hn := needAt_bd hv (i := k) (by omega)
    rw [leftTo]
    omega
def carryB (zs : List Int) (ab : Int) : Bool := validB zs && inB ab 0 1000
theorem carryB_true {zs : List Int} {ab : Int} (h : carryB zs ab = true) : validB zs = true ∧ 0 ≤ ab ∧ ab ≤ 1000 := by
  unfold carryB at h
  rw [Bool.and_eq_true, inB_true] at h
  exact h
/-- what PayCarry hands back -/
def payCarryL (zs : List Int) (ab : Int) : List Int := if carryB zs ab then carryTo zs ab (zs.length - 1) else []

theorem l1Need_k (A : Option Addr) (c : Nat) (zs : List Int) (k : Nat) (w : World) (ha : Arg w A c zs) (hv : validB zs = true) (h1 : k + 1 < zs.length) :
    Calls Try.prog 90 #[.slice A zs.length c, .int .i64 (k : Int)] w (RetB (.int .i64 (needAt zs k)) w) := by
  have := (l1Need_c A c zs (k : Int) w ha hv (by omega) (by omega)).mono (fun _ _ h => h.toB)
  rwa [Int.toNat_natCast] at this

set_option maxRecDepth 100000 in
set_option maxHeartbeats 1000000 in
theorem specPayCarry_b (A : Option Addr) (c : Nat) (zs : List Int) (ab : Int) (w : World) (ha : Arg w A c zs) :
    Calls Try.prog 46 #[.slice A zs.length c, .int .i64 ab] w (RetS 3 (fun v => .tuple #[v, .bool (carryB zs ab)]) (payCarryL zs ab) w) := by
  obtain ⟨i0, hi, hz0, hz1, hz2⟩ := info_parts int_info
  have hl := ha.len
  have hbb : Below w.heap.size w (w.alloc (.cells #[] 3)) := (Below.refl _ _).alloc (Nat.le_refl _) _
  have Ha := Lib.hid (ha.go hbb)
  have HaW := Lib.hid ha
  clear ha
  cases hcb : carryB zs ab
  · have Hh := Lib.hid (show payCarryL zs ab = [] by unfold payCarryL; rw [hcb]; rfl)
    have Hcb := Lib.hid hcb
    unfold carryB at hcb
    cases hv : validB zs
    · have Hv := Lib.hid hv
      clear hv hcb
      go_enter Try.func46, Try.ntmps46
      go_wp2_with fail
      refine (specFloorValid_c A c zs _ Ha.out).mono ?_
      rintro e w' ⟨rfl, rfl⟩
      rw [Hv.out]
      go_wp2
      go_ret2
      rw [Hh.out]
      exact RetS.mk (f := fun v => .tuple #[v, .bool false]) (by simp) (World.ownsRow_made w #[] 0 (Nat.le_refl _) (by simp) rfl) hbb
    · have Hv := Lib.hid hv
      have Hi := Lib.hid (show inB ab 0 1000 = false by rw [hv] at hcb; simpa using hcb)
      clear hv hcb
      go_enter Try.func46, Try.ntmps46
      go_wp2_with fail
      refine (specFloorValid_c A c zs _ Ha.out).mono ?_
      rintro e w' ⟨rfl, rfl⟩
      rw [Hv.out]
      go_wp2_with fail
      refine (l6In_c _ _ _ _).mono ?_
      rintro e w' ⟨rfl, rfl⟩
      rw [Hi.out]
      go_wp2
      go_ret2
      rw [Hh.out]
      exact RetS.mk (f := fun v => .tuple #[v, .bool false]) (by simp) (World.ownsRow_made w #[] 0 (Nat.le_refl _) (by simp) rfl) hbb
  · have Hh := Lib.hid (show payCarryL zs ab = carryTo zs ab (zs.length - 1) by unfold payCarryL; rw [hcb]; rfl)
    obtain ⟨hv, h0, h1⟩ := carryB_true hcb
    have Hi := Lib.hid (show inB ab 0 1000 = true by rw [inB_true]; exact ⟨h0, h1⟩)
    have h2 := (validB_true hv).1
    have h16 := (validB_true hv).2.1
    have Hv := Lib.hid hv
    have Hcb := Lib.hid hcb
    clear hv hcb
    go_enter Try.func46, Try.ntmps46
    go_wp2_with fail
    refine (specFloorValid_c A c zs _ Ha.out).mono ?_
    rintro e w' ⟨rfl, rfl⟩
    rw [Hv.out]
    go_wp2_with fail
    refine (l6In_c _ _ _ _).mono ?_
    rintro e w' ⟨rfl, rfl⟩
    rw [Hi.out]
    go_wp2
    go_loopw [1, 6, 7, 8] (fun q o i _ wr => ∃ (k : Nat) (v : Value), k ≤ zs.length - 1 ∧ i = .int .i64 k ∧ q = .int .i64 (leftTo zs ab k) ∧ v = o ∧ wr.ownsRow w.heap.size 3 1 v k ((carryTo zs ab k).map (Value.int .i64)) ∧ Below w.heap.size w wr) (fun _ _ i _ _ => zs.length - (intOf i).toNat)
    case atStart => exact ⟨0, _, Nat.zero_le _, rfl, rfl, rfl, World.ownsRow_made w #[] 0 (Nat.le_refl _) (by simp) rfl, hbb⟩
    case round =>
      obtain ⟨k, v, hk, rfl, rfl, rfl, hok, hbk⟩ := hrel
      have hlb := leftTo_bd Hv.out h0 h1 k (by omega)
      have Hs := Lib.hid (carryTo_succ zs ab k)
      have Hl : Hid (leftTo zs ab (k + 1) = leftTo zs ab k - min (leftTo zs ab k) (needAt zs k)) := by rw [leftTo]; rfl
      have Ha2 := Lib.hid (HaW.out.go hbk)
      by_cases hlt : k + 1 < zs.length
      · have hn := needAt_bd Hv.out (i := k) hlt
        have g1 : (k : Int) + 1 < (zs.length : Int) := by omega
        by_cases hle : ¬ (leftTo zs ab k ≤ needAt zs k)
        · have Hm := Lib.hid (show min (leftTo zs ab k) (needAt zs k) = needAt zs k from Int.min_eq_right (by omega))
          go_wp2_with fail
          refine (l1Need_k A c zs k _ Ha2.out Hv.out hlt).mono ?_
          rintro e w2 ⟨rfl, hb2⟩
          have hok2 := own_below hok hb2
          have hbk2 := below_step hbk hb2
          clear hok hbk hb2
          go_wp2_with (at_builtin; refine wpList_append_own _ rfl _ _ 23 rfl w.heap.size 3 i0 (.int .i64 0) 1 8 Try.underlying23 hi hz0 hz1 hz2 rfl (by decide) v k _ rfl (hok2.alloc _) ⟨w2.heap.size, 0, none⟩ 1 1 [.int .i64 (needAt zs k)] rfl rfl (one_new _ _ _) (by simp [Value.oneCell']) (by unfold maxLen; omega) (by omega) (by have := hbk2.size; simp; omega) ?_; intro v' w3 hown3 hg3 _)
          have hb3 : Below w.heap.size w w3 := (hbk2.alloc hbk2.size _).grown hg3 (by have := hbk2.size; simp; omega) (fun r e => (hok2.lt r e).1)
          go_roundw
          case rel => exact ⟨k + 1, v', by omega, by go_num, by rw [Hl.out, Hm.out], rfl, by rw [Hs.out, Hm.out, List.map_append]; exact hown3, hb3⟩
          case measure => simp [intOf]; omega
        · have Hm := Lib.hid (show min (leftTo zs ab k) (needAt zs k) = leftTo zs ab k from Int.min_eq_left (by omega))
          go_wp2_with fail
          refine (l1Need_k A c zs k _ Ha2.out Hv.out hlt).mono ?_
          rintro e w2 ⟨rfl, hb2⟩
          have hok2 := own_below hok hb2
          have hbk2 := below_step hbk hb2
          clear hok hbk hb2
          go_wp2_with (at_builtin; refine wpList_append_own _ rfl _ _ 23 rfl w.heap.size 3 i0 (.int .i64 0) 1 8 Try.underlying23 hi hz0 hz1 hz2 rfl (by decide) v k _ rfl (hok2.alloc _) ⟨w2.heap.size, 0, none⟩ 1 1 [.int .i64 (leftTo zs ab k)] rfl rfl (one_new _ _ _) (by simp [Value.oneCell']) (by unfold maxLen; omega) (by omega) (by have := hbk2.size; simp; omega) ?_; intro v' w3 hown3 hg3 _)
          have hb3 : Below w.heap.size w w3 := (hbk2.alloc hbk2.size _).grown hg3 (by have := hbk2.size; simp; omega) (fun r e => (hok2.lt r e).1)
          go_roundw
          case rel => exact ⟨k + 1, v', by omega, by go_num, by rw [Hl.out, Hm.out]; simp, rfl, by rw [Hs.out, Hm.out, List.map_append]; exact hown3, hb3⟩
          case measure => simp [intOf]; omega
      · obtain rfl : k = zs.length - 1 := by omega
        have g1 : ¬ (((zs.length - 1 : Nat) : Int) + 1 < (zs.length : Int)) := by omega
        go_wp2
        go_ret2
        rw [Hh.out]
        exact RetS.mk (f := fun v => .tuple #[v, .bool true]) (by rw [carryTo_length]; omega) (by rw [carryTo_length]; exact hok) hbk

/-! ### the program's own -/
def leftOf (zs : List Int) (ab : Int) {N : Nat} (pre : List (Fin N)) : Int := pre.foldl (fun a i => a - min a (needAt zs i.val)) ab
def carryOf (zs : List Int) (ab : Int) {N : Nat} : List (Fin N) → List Int
  | [] => []
  | x :: r => min ab (needAt zs x.val) :: carryOf zs (ab - min ab (needAt zs x.val)) r
theorem leftOf_snoc (zs : List Int) (ab : Int) {N : Nat} (pre : List (Fin N)) (x : Fin N) : leftOf zs ab (pre ++ [x]) = leftOf zs ab pre - min (leftOf zs ab pre) (needAt zs x.val) := by simp [leftOf]
theorem carryOf_snoc (zs : List Int) {N : Nat} (x : Fin N) : ∀ (pre : List (Fin N)) (ab : Int), carryOf zs ab (pre ++ [x]) = carryOf zs ab pre ++ [min (leftOf zs ab pre) (needAt zs x.val)]
  | [], ab => by simp [carryOf, leftOf]
  | y :: r, ab => by
    have ih := carryOf_snoc zs x r (ab - min ab (needAt zs y.val))
    rw [List.cons_append, carryOf, ih, carryOf]
    rfl
theorem carryOf_length (zs : List Int) {N : Nat} : ∀ (pre : List (Fin N)) (ab : Int), (carryOf zs ab pre).length = pre.length
  | [], _ => rfl
  | x :: r, ab => by rw [carryOf, List.length_cons, carryOf_length zs r, List.length_cons]
theorem leftOf_bd {zs : List Int} (hv : validB zs = true) {N : Nat} (hN : N + 1 ≤ zs.length) : ∀ (pre : List (Fin N)) (ab : Int), 0 ≤ ab → ab ≤ 1000 → 0 ≤ leftOf zs ab pre ∧ leftOf zs ab pre ≤ 1000
  | [], ab, h0, h1 => ⟨h0, h1⟩
  | x :: r, ab, h0, h1 => by
    have hx := x.isLt
    have hn := needAt_bd hv (i := x.val) (by omega)
    exact leftOf_bd hv hN r (ab - min ab (needAt zs x.val)) (by omega) (by omega)
theorem of_all (zs : List Int) (ab : Int) {N : Nat} : ∀ k, k ≤ N → leftOf zs ab (milesTo N k) = leftTo zs ab k ∧ carryOf zs ab (milesTo N k) = carryTo zs ab k
  | 0, _ => by rw [milesTo_zero, carryTo_zero]; exact ⟨rfl, rfl⟩
  | k + 1, h => by
    have hk : k < N := by omega
    obtain ⟨e1, e2⟩ := of_all zs ab (N := N) k (by omega)
    rw [milesTo_succ hk, leftOf_snoc, carryOf_snoc, e1, e2, carryTo_succ]
    exact ⟨by rw [leftTo], rfl⟩

/-- A BODY THAT PAYS OUT: the box Bx holds a slice that owns what has been paid (from nb on), Bp what is left. -/
def Carries {α : Type} (nb n₀ Bx Bs Bp : Nat) (fl : Value) (w : World) (f : List α → List Int) (g : List α → Int) (pre : List α) (W : World) : Prop :=
  (((∃ v, Boxed W Bx 23 v ∧ W.ownsRow nb 3 1 v (f pre).length ((f pre).map (Value.int .i64)) ∧ True) ∧ Boxed W Bs 23 fl) ∧ Boxed W Bp 3 (.int .i64 (g pre))) ∧ Below n₀ w W
theorem Carries.own {α : Type} {nb n₀ Bx Bs Bp : Nat} {fl : Value} {w : World} {f : List α → List Int} {g : List α → Int} {B : Nat} (hn : n₀ ≤ w.heap.size) (hB : n₀ ≤ B) : OwnFrom B (Carries (α := α) nb n₀ Bx Bs Bp fl w f g) :=
  OwnFrom.and (OwnFrom.and (OwnFrom.and (Own.from (holdsRow_own nb Bx 23 3 1 (fun pre => (f pre).length) (fun pre => (f pre).map (Value.int .i64)) (fun _ _ => True)) _) (Own.from (boxed_own Bs 23 (fun _ => fl)) _)) (Own.from (boxed_own Bp 3 (fun pre => .int .i64 (g pre))) _)) (ownFrom_below hn hB)

/-- what one round leaves: the append, the store of the slice, the store of what is left -/
theorem Carries.step {α : Type} {B nb n₀ Bx Bs Bp : Nat} {fl : Value} {w W w9 : World} {f : List α → List Int} {g : List α → Int} {pre : List α} {x : α} {y q : Int} {v v' : Value} {Ix : Code → List α → World → Prop} {a : Act} {tmp : Obj}
    (hv : Boxed W Bx 23 v) (hrow : W.ownsRow nb 3 1 v (f pre).length ((f pre).map (Value.int .i64))) (hF : Boxed W Bs 23 fl) (hP : Boxed W Bp 3 (.int .i64 (g pre))) (hB : Below n₀ w W) (hnb : nb ≤ W.heap.size)
    (hf : f (pre ++ [x]) = f pre ++ [y]) (hq : g (pre ++ [x]) = q)
    (hown' : w9.ownsRow nb 3 1 v' ((f pre).length + 1) ((f pre).map (Value.int .i64) ++ [.int .i64 y])) (hgrow : (W.alloc tmp).grownBy w9 v.ownBlock)
    (h1 : n₀ ≤ Bp) (h2 : Bp < nb) (h3 : nb ≤ Bx) (h4 : nb ≤ Bs) (h5 : Bs ≠ Bx) :
    Boxed (w9.setCell ⟨Bx, 0, none⟩ v') Bp 3 (.int .i64 (g pre)) ∧
    ownPostG B (KpB n₀ Bs) (Carries nb n₀ Bx Bs Bp fl w f g) Ix (pre ++ [x]) W Exit.normal a ((w9.setCell ⟨Bx, 0, none⟩ v').setCell ⟨Bp, 0, none⟩ (.int .i64 q)) := by
  obtain ⟨hv1, hv2, hr2, hk2, hb2⟩ := hv.appended (by decide) hrow hnb h3 hown' hgrow
  have hPn : some Bp ≠ v.ownBlock := fun e => by
    have := (hrow.lt Bp e.symm).1
    omega
  have hP2 := ((hP.alloc tmp).kept hgrow hPn).other (B' := Bx) (by omega) v'
  have hF2 := ((hF.alloc tmp).kept hgrow (hF.not_row (by decide) hrow)).other (B' := Bx) h5 v'
  refine ⟨hP2, hk2.trans (KeepsOthers.setCell _ _ _) |>.from _, ⟨(hb2.mono (by omega)).setCell (p := ⟨Bp, 0, none⟩) h1 _, (hF2.other (by omega) _).trans hF.symm⟩, ⟨⟨⟨_, hv2.other (by omega) _, ?_, trivial⟩, hF2.other (by omega) _⟩, ?_⟩, (hB.trans (hb2.mono (by omega))).setCell (p := ⟨Bp, 0, none⟩) h1 _⟩
  · rw [hf, List.length_append, List.map_append]
    refine hr2.kept (grownBy_setCell' _ _ _) (.inr fun e => ?_)
    have := (hr2.lt Bp e).1
    omega
  · rw [hq]
    exact hP2.set _

set_option maxRecDepth 100000 in
set_option maxHeartbeats 2000000 in
theorem implPayCarry_b (A : Option Addr) (c : Nat) (zs : List Int) (ab : Int) (w : World) (ha : Arg w A c zs) :
    Calls Try.prog 45 #[.slice A zs.length c, .int .i64 ab] w (RetS 3 (fun v => .tuple #[v, .bool (carryB zs ab)]) (payCarryL zs ab) w) := by
  have hl := ha.len
  have hbb : Below w.heap.size w (w.alloc (.cells #[.int .i64 ab] 3)) := (Below.refl _ _).alloc (Nat.le_refl _) _
  have Ha := Lib.hid (ha.go hbb)
  have Ra := Lib.hid ha.rd
  clear ha
  cases hcb : carryB zs ab
  · have Hh := Lib.hid (show payCarryL zs ab = [] by unfold payCarryL; rw [hcb]; rfl)
    unfold carryB at hcb
    cases hv : validB zs
    · have Hv := Lib.hid hv
      clear hv hcb
      go_enter Try.func45, Try.ntmps45
      go_wp2_with fail
      refine (implFloorValid_c A c zs _ Ha.out).mono ?_
      rintro e w' ⟨rfl, rfl⟩
      rw [Hv.out]
      go_wp2
      go_ret2
      rw [Hh.out]
      exact RetS.nil (f := fun v => .tuple #[v, .bool false]) hbb
    · have Hv := Lib.hid hv
      have Hi := Lib.hid (show inB ab 0 1000 = false by rw [hv] at hcb; simpa using hcb)
      clear hv hcb
      go_enter Try.func45, Try.ntmps45
      go_wp2_with fail
      refine (implFloorValid_c A c zs _ Ha.out).mono ?_
      rintro e w' ⟨rfl, rfl⟩
      rw [Hv.out]
      go_wp2_with fail
      refine (inRange_c _ _ _ _).mono ?_
      rintro e w' ⟨rfl, rfl⟩
      rw [Hi.out]
      go_wp2
      go_ret2
      rw [Hh.out]
      exact RetS.nil (f := fun v => .tuple #[v, .bool false]) hbb
  · have Hh := Lib.hid (show payCarryL zs ab = carryTo zs ab (zs.length - 1) by unfold payCarryL; rw [hcb]; rfl)
    obtain ⟨i0, hi, hz0, hz1, hz2⟩ := info_parts int_info
    obtain ⟨hv, h0, h1⟩ := carryB_true hcb
    have Hi := Lib.hid (show inB ab 0 1000 = true by rw [inB_true]; exact ⟨h0, h1⟩)
    have h2 := (validB_true hv).1
    have h16 := (validB_true hv).2.1
    have Hd := Lib.hid (validB_depths hv)
    have Hv := Lib.hid hv
    clear hv hcb
    refine (callsIn_wide (n := 5)).1 ?_
    refine callsIn_of_wp_marks Try.func45 rfl trivial ?_ rfl
    simp only [Try.ntmps45, List.size_toArray, List.length_cons, List.length_nil, Nat.reduceAdd, Nat.reduceSub, Array.replicate_succ, Array.replicate_zero, List.push_toArray, List.append_toArray, List.nil_append, List.cons_append]
    gi_wp2_with (first
      | (refine ⟨trivial, ?_⟩; gi_at_call 77; refine (callsIn_wide.2 (implFloorValid_c A c zs _ Ha.out)).mono ?_; rintro e w' ⟨rfl, rfl⟩; rw [Hv.out])
      | (refine ⟨trivial, ?_⟩; gi_at_call 94; refine (callsIn_wide.2 (inRange_c _ _ _ _)).mono ?_; rintro e w' ⟨rfl, rfl⟩; rw [Hi.out])
      | (gi_at_make; refine wpListIn_make_own _ rfl _ _ 23 rfl (w.heap.size + 1) 3 i0 (.int .i64 0) 1 Try.underlying23 hi hz0 hz1 .i64 .i64 _ (zs.length - 1) rfl rfl (by omega) (by rw [hz2]; omega) (by unfold maxLen; omega) (by simp) ?_; intro w1 hown hg1)
      | (refine ⟨trivial, ?_⟩; gi_at_call 81; refine (callsIn_wide.2 (floorMiles_c _ _ _ _)).mono ?_; rintro e w2 ⟨rfl, rfl⟩))
    have hs1 : w.heap.size + 1 ≤ w1.heap.size := by have := hg1.size; simp at this; omega
    have bP1 : Boxed w1 w.heap.size 3 (.int .i64 ab) := (Boxed.new w 3 _).kept hg1 (by simp)
    have hB1 : Below w.heap.size w w1 := hbb.grown hg1 (by simp) (fun r e => by cases e)
    obtain ⟨WL, hWL⟩ : ∃ WL, (w1.alloc (.cells #[.slice (some ⟨w.heap.size + 1, 0, none⟩) 0 (zs.length - 1)] 23)).alloc (.cells #[.slice A zs.length c] 23) = WL := ⟨_, rfl⟩
    have bP : Boxed WL w.heap.size 3 (.int .i64 ab) := by rw [← hWL]; exact (bP1.alloc _).alloc _
    have bO : Boxed WL w1.heap.size 23 (.slice (some ⟨w.heap.size + 1, 0, none⟩) 0 (zs.length - 1)) := by rw [← hWL]; exact (Boxed.new w1 23 _).alloc _
    have bF : Boxed WL (w1.heap.size + 1) 23 (.slice A zs.length c) := by
      rw [← hWL]
      have := Boxed.new (w1.alloc (.cells #[.slice (some ⟨w.heap.size + 1, 0, none⟩) 0 (zs.length - 1)] 23)) 23 (.slice A zs.length c)
      rwa [World.size_alloc] at this
    have hBL : Below w.heap.size w WL := by rw [← hWL]; exact (hB1.alloc (by omega) _).alloc (by simp; omega) _
    have hsz : WL.heap.size = w1.heap.size + 2 := by rw [← hWL]; simp
    have hrow0 : WL.ownsRow (w.heap.size + 1) 3 1 (.slice (some ⟨w.heap.size + 1, 0, none⟩) 0 (zs.length - 1)) 0 [] := by
      rw [← hWL]
      rw [World.size_alloc] at hown
      exact (hown.alloc _).alloc _
    have hrd : Rd 0 w.heap.size WL A zs := Ra.out.below hBL
    have HO := Lib.hid hown
    have HG := Lib.hid hg1
    clear hown hg1
    try simp only [World.size_alloc]
    rw [hWL]
    have HWL := Lib.hid hWL
    clear hWL
    refine wpIn_rangeFunc_ownG rfl (by decide) (gf := 110) (lb := #[.pointer (some ⟨w1.heap.size + 1, 0, none⟩)]) rfl trivial (enters_of Try.func110 (by kernel_rfl) rfl)
      (miles_stops 4 (by decide) (w1.heap.size + 1) w.heap.size A c zs (by omega) hl Hd.out WL (by omega) (by omega) bF.cell hrd) KpB.t (KpB.b (by omega) (by omega)) (Below.refl _ _) (fun _ => rfl)
      (Carries (w.heap.size + 1) w.heap.size w1.heap.size (w1.heap.size + 1) w.heap.size (.slice A zs.length c) w (carryOf zs ab (N := zs.length - 1)) (leftOf zs ab (N := zs.length - 1)))
      (fun _ _ _ => False)
      (Carries.own (Nat.le_refl _) (by omega))
      (fun _ _ _ _ _ hs _ _ => hs)
      ⟨⟨⟨⟨_, bO, hrow0, trivial⟩, bF⟩, bP⟩, hBL⟩
      ?a1 ?assign ?body ?done ?stop
    case assign =>
      intro l x W K hK
      gi_wp2
      exact hK
    case body =>
      rintro l pre x W ⟨⟨⟨⟨v, hv, hrow, _⟩, hF⟩, hP⟩, hB⟩ hlt
      have hc := hv.cell
      have hcp := hP.cell
      have hx := x.isLt
      have hsz2 := hB.size
      have hWb : w1.heap.size + 2 ≤ W.heap.size := by have := hF.lt; omega
      have hlb := leftOf_bd Hv.out (N := zs.length - 1) (by omega) pre ab h0 h1
      have hnb := needAt_bd Hv.out (i := x.val) (by omega)
      have hcl := carryOf_length zs pre ab
      have hcl2 : (carryOf zs ab pre).length < zs.length - 1 := by omega
      have Hcl := Lib.hid hcl
      clear hcl
      by_cases hle : needAt zs x.val ≤ leftOf zs ab pre
      · have Hf := Lib.hid (carryOf_snoc zs x pre ab)
        have Hq := Lib.hid (leftOf_snoc zs ab pre x)
        have Hm := Lib.hid (show min (leftOf zs ab pre) (needAt zs x.val) = needAt zs x.val from Int.min_eq_right hle)
        gi_wp2_with (gi_at_builtin; refine wpListIn_append_own _ rfl _ _ 23 rfl (w.heap.size + 1) 3 i0 (.int .i64 0) 1 8 Try.underlying23 hi hz0 hz1 hz2 rfl (by decide) _ _ _ rfl (hrow.alloc _) ⟨W.heap.size, 0, none⟩ 1 1 [.int .i64 (needAt zs x.val)] rfl rfl (one_new _ _ _) (by simp [Value.oneCell']) (by unfold maxLen; omega) (by omega) (by simp; omega) ?_; intro v' w9 hown' hgrow _; obtain ⟨g', cap', rfl⟩ := ownsRow_succ hown'; obtain ⟨hP2, hpost⟩ := Carries.step (B := w1.heap.size + 2) (n₀ := w.heap.size) (w := w) (fl := .slice A zs.length c) (Bs := w1.heap.size + 1) (Ix := fun _ _ _ => False) (f := carryOf zs ab (N := zs.length - 1)) (g := leftOf zs ab (N := zs.length - 1)) (x := x) (y := needAt zs x.val) (q := leftOf zs ab pre - needAt zs x.val) (a := { tmps := #[], defers := [] }) hv hrow hF hP hB (by omega) (by rw [Hf.out, Hm.out]) (by rw [Hq.out, Hm.out]) hown' hgrow (Nat.le_refl _) (by omega) (by omega) (by omega) (by omega); have hv1 := (hv.appended (by decide) hrow (by omega) (by omega) hown' hgrow).1; have hc1 := hv1.cell; have hf1 := hv1.frozen; have hc2 := hP2.cell; have hf2 := hP2.frozen)
        first
          | exact hpost
          | (rw [← hsz] at hpost; exact hpost)
      · have Hf := Lib.hid (carryOf_snoc zs x pre ab)
        have Hq := Lib.hid (leftOf_snoc zs ab pre x)
        have Hm := Lib.hid (show min (leftOf zs ab pre) (needAt zs x.val) = leftOf zs ab pre from Int.min_eq_left (by omega))
        gi_wp2_with (gi_at_builtin; refine wpListIn_append_own _ rfl _ _ 23 rfl (w.heap.size + 1) 3 i0 (.int .i64 0) 1 8 Try.underlying23 hi hz0 hz1 hz2 rfl (by decide) _ _ _ rfl (hrow.alloc _) ⟨W.heap.size, 0, none⟩ 1 1 [.int .i64 (leftOf zs ab pre)] rfl rfl (one_new _ _ _) (by simp [Value.oneCell']) (by unfold maxLen; omega) (by omega) (by simp; omega) ?_; intro v' w9 hown' hgrow _; obtain ⟨g', cap', rfl⟩ := ownsRow_succ hown'; obtain ⟨hP2, hpost⟩ := Carries.step (B := w1.heap.size + 2) (n₀ := w.heap.size) (w := w) (fl := .slice A zs.length c) (Bs := w1.heap.size + 1) (Ix := fun _ _ _ => False) (f := carryOf zs ab (N := zs.length - 1)) (g := leftOf zs ab (N := zs.length - 1)) (x := x) (y := leftOf zs ab pre) (q := 0) (a := { tmps := #[], defers := [] }) hv hrow hF hP hB (by omega) (by rw [Hf.out, Hm.out]) (by rw [Hq.out, Hm.out]; omega) hown' hgrow (Nat.le_refl _) (by omega) (by omega) (by omega) (by omega); have hv1 := (hv.appended (by decide) hrow (by omega) (by omega) hown' hgrow).1; have hc1 := hv1.cell; have hf1 := hv1.frozen; have hc2 := hP2.cell; have hf2 := hP2.frozen)
        first
          | exact hpost
          | (rw [← hsz] at hpost; exact hpost)
    case done =>
      rintro D ys W hD rfl ⟨⟨⟨⟨v, hv, hrow, _⟩, _⟩, _⟩, hB⟩ hK
      have hc := hv.cell
      obtain ⟨_, e2⟩ := of_all zs ab (N := zs.length - 1) (zs.length - 1) (Nat.le_refl _)
      rw [e2] at hrow
      have hrow9 := Lib.hid (ownsRow_putObj hrow (.deferred none) hK rfl)
      have HH := Lib.hid (hB.trans (belowK_b (w := w) (Nat.le_refl _) W D _ (.deferred none) (by omega) hK rfl rfl))
      clear hrow e2
      gi_wp2
      refine ⟨by simp, .inl ⟨_, _, rfl, run_takeDeferred hK, ?_⟩⟩
      refine ⟨_, results_tmp2 rfl _ _ _, ?_⟩
      rw [Hh.out]
      exact RetS.mk (f := fun v => .tuple #[v, .bool true]) (by rw [carryTo_length]; omega) (OwnsRow.more hrow9.out (by omega)) HH.out
    case stop =>
      rintro D cc pre W _ _ h _
      exact h.elim

end Go.Proofs.Ytndpdoiomoefpaa
