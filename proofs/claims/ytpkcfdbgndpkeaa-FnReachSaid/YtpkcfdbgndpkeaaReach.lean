/-
  PayReach of both.
-/
import Derived.Test.YtpkcfdbgndpkeaaCarry
import Derived.Test.YtpkcfdbgndpkeaaHangs
namespace Go.Proofs.Ytpkcfdbgndpkeaa
open Go.RowKit Go.Shelf

attribute [local go_sem] Oper.semAt_some

/-- how many miles the length is enough for: the first mile that gets less than it needs, or all -/
def reachTo (zs : List Int) (ab : Int) (N : Nat) : Nat := ((List.range N).find? fun i => hangB zs (carryTo zs ab N) i).getD N
/-- what PayReach hands back -/
def payReachI (zs : List Int) (ab : Int) : Int := if carryB zs ab then reachTo zs ab (zs.length - 1) else -1

theorem carryTo_at (zs : List Int) (ab : Int) {N i : Nat} (h : i < N) : (carryTo zs ab N)[i]?.getD 0 = min (leftTo zs ab i) (needAt zs i) := by simp [carryTo, h]
theorem hang_carry (zs : List Int) (ab : Int) {N i : Nat} (h : i < N) : hangB zs (carryTo zs ab N) i = decide (leftTo zs ab i < needAt zs i) := by
  unfold hangB
  rw [carryTo_at zs ab h]
  rw [Bool.eq_iff_iff]
  simp
  omega
/-- behind a mile that hangs all hang -/
theorem left_after {zs : List Int} (hv : validB zs = true) {ab : Int} (h0 : 0 ≤ ab) (h1 : ab ≤ 1000) {i : Nat} (hi : leftTo zs ab i < needAt zs i) : ∀ j, i < j → j + 1 < zs.length → leftTo zs ab j < needAt zs j
  | 0, h, _ => absurd h (by omega)
  | j + 1, h, hj => by
    have hb := leftTo_bd hv h0 h1 j (by omega)
    have hn := needAt_bd hv (i := j + 1) hj
    have hl : leftTo zs ab (j + 1) = leftTo zs ab j - min (leftTo zs ab j) (needAt zs j) := by rw [leftTo]
    have hlt : leftTo zs ab j < needAt zs j := by
      rcases Nat.lt_or_ge i j with h2 | h2
      · exact left_after hv h0 h1 hi j h2 (by omega)
      · obtain rfl : j = i := by omega
        exact hi
    omega
theorem reach_some {zs : List Int} {ab : Int} {N p : Nat} (hp : p < N) (h : hangB zs (carryTo zs ab N) p = true) (hn : ∀ j, j < p → hangB zs (carryTo zs ab N) j = false) : reachTo zs ab N = p := by
  unfold reachTo
  have : (List.range N).find? (fun i => hangB zs (carryTo zs ab N) i) = some p := by
    rw [List.find?_range_eq_some]
    exact ⟨h, by simpa using hp, fun j hj => by simp [hn j hj]⟩
  rw [this]
  rfl
theorem reach_none {zs : List Int} {ab : Int} {N : Nat} (hn : ∀ j, j < N → hangB zs (carryTo zs ab N) j = false) : reachTo zs ab N = N := by
  unfold reachTo
  have : (List.range N).find? (fun i => hangB zs (carryTo zs ab N) i) = none := by
    rw [List.find?_eq_none]
    intro j hj
    rw [List.mem_range] at hj
    simp [hn j hj]
  rw [this]
  rfl
theorem reach_cases {zs : List Int} {ab : Int} (N : Nat) : (∃ p, p < N ∧ hangB zs (carryTo zs ab N) p = true ∧ (∀ j, j < p → hangB zs (carryTo zs ab N) j = false) ∧ reachTo zs ab N = p) ∨ ((∀ j, j < N → hangB zs (carryTo zs ab N) j = false) ∧ reachTo zs ab N = N) := by
  have aux : ∀ k, k ≤ N → (∃ p, p < k ∧ hangB zs (carryTo zs ab N) p = true ∧ ∀ j, j < p → hangB zs (carryTo zs ab N) j = false) ∨ (∀ j, j < k → hangB zs (carryTo zs ab N) j = false) := by
    intro k
    induction k with
    | zero => exact fun _ => .inr fun j hj => absurd hj (by omega)
    | succ k ih =>
      intro hk
      rcases ih (by omega) with ⟨p, h1, h2, h3⟩ | h
      · exact .inl ⟨p, by omega, h2, h3⟩
      · cases hb : hangB zs (carryTo zs ab N) k
        · exact .inr fun j hj => by
            rcases Nat.lt_or_ge j k with h4 | h4
            · exact h j h4
            · obtain rfl : j = k := by omega
              exact hb
        · exact .inl ⟨k, by omega, hb, h⟩
  rcases aux N (Nat.le_refl _) with ⟨p, h1, h2, h3⟩ | h
  · exact .inl ⟨p, h1, h2, h3, reach_some h1 h2 h3⟩
  · exact .inr ⟨h, reach_none h⟩

/-- the carried pay-out is a pay-out -/
theorem carry_pay {zs : List Int} {ab : Int} (h : carryB zs ab = true) : payB zs (carryTo zs ab (zs.length - 1)) = true := by
  obtain ⟨hv, h0, h1⟩ := carryB_true h
  unfold payB
  rw [hv, carryTo_length]
  simp only [decide_true, Bool.and_true, Bool.true_and]
  rw [allB_true]
  intro j hj
  rw [carryTo_length] at hj
  rw [carryTo_at zs ab hj]
  have hb := leftTo_bd hv h0 h1 j (by omega)
  have hn := needAt_bd hv (i := j) (by omega)
  omega
/-- so many miles hang -/
theorem hangs_count {zs : List Int} {ab : Int} (h : carryB zs ab = true) : (hangsTo zs (carryTo zs ab (zs.length - 1)) (zs.length - 1)).length = zs.length - 1 - reachTo zs ab (zs.length - 1) := by
  obtain ⟨hv, h0, h1⟩ := carryB_true h
  obtain ⟨N, hN⟩ : ∃ N, zs.length - 1 = N := ⟨_, rfl⟩
  rw [hN]
  have key : ∀ k, k ≤ N → (hangsTo zs (carryTo zs ab N) k).length = k - reachTo zs ab N := by
    intro k
    induction k with
    | zero => intro _; rw [hangsTo_zero]; simp
    | succ k ih =>
      intro hk
      have ih := ih (by omega)
      rcases reach_cases (zs := zs) (ab := ab) N with ⟨p, hp1, hp2, hp3, he⟩ | ⟨hno, he⟩
      · rw [he] at ih ⊢
        rcases Nat.lt_or_ge k p with h2 | h2
        · rw [hangsTo_no (hp3 k h2), ih]; omega
        · have hk2 : hangB zs (carryTo zs ab N) k = true := by
            rcases Nat.lt_or_ge p k with h3 | h3
            · rw [hang_carry zs ab (by omega)] at hp2 ⊢
              simp only [decide_eq_true_eq] at hp2 ⊢
              exact left_after hv h0 h1 hp2 k h3 (by omega)
            · obtain rfl : k = p := by omega
              exact hp2
          rw [hangsTo_yes hk2, List.length_append, ih]
          simp
          omega
      · rw [he] at ih ⊢
        rw [hangsTo_no (hno k (by omega)), ih]
        omega
  exact key N (Nat.le_refl _)

set_option maxHeartbeats 1000000 in
theorem specPayReach_b (A : Option Addr) (c : Nat) (zs : List Int) (ab : Int) (w : World) (ha : Arg w A c zs) :
    Calls Try.prog 37 #[.slice A zs.length c, .int .i64 ab] w (RetB (.int .i64 (payReachI zs ab)) w) := by
  have Ha := Lib.hid ha
  clear ha
  cases hcb : carryB zs ab
  · have Hh := Lib.hid (show payReachI zs ab = -1 by unfold payReachI; rw [hcb]; rfl)
    have Hcb := Lib.hid hcb
    clear hcb
    go_enter Try.func37, Try.ntmps37
    go_wp2_with fail
    refine (specPayCarry_b A c zs ab _ Ha.out).mono ?_
    rintro e w1 ⟨B, d, rfl, ra, ro, rb⟩
    dsimp only
    rw [Hcb.out]
    clear ra ro
    go_wp2
    go_ret
    exact ⟨by rw [Hh.out]; rfl, rb⟩
  · have Hh := Lib.hid (show payReachI zs ab = reachTo zs ab (zs.length - 1) by unfold payReachI; rw [hcb]; rfl)
    have Hl := Lib.hid (show payCarryL zs ab = carryTo zs ab (zs.length - 1) by unfold payCarryL; rw [hcb]; rfl)
    have Hp := Lib.hid (show payHangsL zs (carryTo zs ab (zs.length - 1)) = hangsTo zs (carryTo zs ab (zs.length - 1)) (zs.length - 1) by unfold payHangsL; rw [carry_pay hcb, carryTo_length]; rfl)
    have Hc := Lib.hid (hangs_count hcb)
    have hle : reachTo zs ab (zs.length - 1) ≤ zs.length - 1 := by
      rcases reach_cases (zs := zs) (ab := ab) (zs.length - 1) with ⟨p, h1, _, _, he⟩ | ⟨_, he⟩ <;> omega
    have hl := Ha.out.len
    have Hcb := Lib.hid hcb
    clear hcb
    go_enter Try.func37, Try.ntmps37
    go_wp2_with fail
    refine (specPayCarry_b A c zs ab _ Ha.out).mono ?_
    rintro e w1 ⟨B, d, rfl, ra, ro, rb⟩
    dsimp only
    rw [Hcb.out]
    rw [Hl.out] at ra ⊢
    have Ra := Lib.hid ra
    have Ha1 := Lib.hid (Ha.out.go rb)
    clear ra ro
    go_wp2_with fail
    refine (specPayHangs_b A c zs B d (carryTo zs ab (zs.length - 1)) _ Ha1.out Ra.out).mono ?_
    rintro e w2 ⟨B2, d2, rfl, ra2, ro2, rb2⟩
    dsimp only [id]
    rw [Hp.out, Hc.out, carryTo_length]
    clear ra2 ro2
    have g1 : ((zs.length - 1 : Nat) : Int) - ((zs.length - 1 - reachTo zs ab (zs.length - 1) : Nat) : Int) = (reachTo zs ab (zs.length - 1) : Int) := by omega
    have G1 := Lib.hid g1
    clear g1
    go_wp2
    go_ret
    exact ⟨by rw [Hh.out, ← G1.out]; rfl, below_step rb rb2⟩

theorem rd_own {β : Type} {lo hi : Nat} {A : Option Addr} {zs : List Int} {B : Nat} (hB : hi ≤ B) : OwnFrom B (fun (_ : β) W => Rd lo hi W A zs) := fun _ _ _ _ hs hg hr =>
  hs.grown hg (fun r e => .inr (Nat.le_trans hB (hr r e).1))
/-- A BODY THAT LOOKS FOR THE FIRST ONE: the result's box Br; the boxes Bs, Bp and what the list holds lie as they lay. -/
def Looks {α : Type} (n₀ Br Bs Bp hp : Nat) (fl pv : Value) (A : Option Addr) (ps : List Int) (r : Value) (w : World) (p : List α → Prop) (pre : List α) (W : World) : Prop :=
  ((p pre ∧ Boxed W Br 3 r) ∧ (Boxed W Bs 23 fl ∧ Boxed W Bp 23 pv) ∧ Rd 0 hp W A ps) ∧ Below n₀ w W
theorem Looks.own {α : Type} {n₀ Br Bs Bp hp : Nat} {fl pv r : Value} {A : Option Addr} {ps : List Int} {w : World} {p : List α → Prop} {B : Nat} (hn : n₀ ≤ w.heap.size) (hB : n₀ ≤ B) (hh : hp ≤ B) : OwnFrom B (Looks (α := α) n₀ Br Bs Bp hp fl pv A ps r w p) :=
  OwnFrom.and (OwnFrom.and (OwnFrom.and (ownFrom_pure _ p) (Own.from (boxed_own Br 3 (fun _ => r)) _)) (OwnFrom.and (OwnFrom.and (Own.from (boxed_own Bs 23 (fun _ => fl)) _) (Own.from (boxed_own Bp 23 (fun _ => pv)) _)) (rd_own hh))) (ownFrom_below hn hB)
/-- .. it has found one: the result's box holds its index -/
def Found {N : Nat} (n₀ Br : Nat) (w : World) (h : Nat → Bool) (c : Code) (pre : List (Fin N)) (W : World) : Prop :=
  (∃ (ini : List (Fin N)) (x : Fin N), (c = .ret ∧ pre = ini ++ [x] ∧ (∀ j ∈ ini, h j.val = false) ∧ h x.val = true) ∧ Boxed W Br 3 (.int .i64 (x.val : Int))) ∧ Below n₀ w W
theorem Found.own {N : Nat} {n₀ Br : Nat} {w : World} {h : Nat → Bool} {B : Nat} (c : Code) (hn : n₀ ≤ w.heap.size) (hB : n₀ ≤ B) : OwnFrom B (Found (N := N) n₀ Br w h c) := by
  refine OwnFrom.and ?_ (ownFrom_below hn hB)
  intro s W W' row hs hg hr
  obtain ⟨ini, x, h1, hb⟩ := hs
  exact ⟨ini, x, h1, boxed_own Br 3 (fun _ : Unit => .int .i64 (x.val : Int)) () W W' row hb hg (fun r e => (hr r e).2)⟩

set_option maxRecDepth 100000 in
set_option maxHeartbeats 2000000 in
theorem implPayReach_b (A : Option Addr) (c : Nat) (zs : List Int) (ab : Int) (w : World) (ha : Arg w A c zs) :
    Calls Try.prog 36 #[.slice A zs.length c, .int .i64 ab] w (RetB (.int .i64 (payReachI zs ab)) w) := by
  have hbb : Below w.heap.size w (w.alloc (.cells #[.int .i64 0] 3)) := (Below.refl _ _).alloc (Nat.le_refl _) _
  have Ha := Lib.hid (ha.go hbb)
  have hl := ha.len
  have Ra := Lib.hid ha.rd
  clear ha
  cases hcb : carryB zs ab
  · have Hh := Lib.hid (show payReachI zs ab = -1 by unfold payReachI; rw [hcb]; rfl)
    have Hcb := Lib.hid hcb
    clear hcb
    go_enter Try.func36, Try.ntmps36
    go_wp2_with fail
    refine (implPayCarry_b A c zs ab _ Ha.out).mono ?_
    rintro e w1 ⟨B, d, rfl, ra, ro, rb⟩
    dsimp only
    rw [Hcb.out]
    have bR : Boxed w1 w.heap.size 3 (.int .i64 0) := (rb.block _ (by simp)).trans (Boxed.new w 3 _)
    have bR2 := bR.alloc (.cells #[.slice B (payCarryL zs ab).length d] 23)
    have hc := bR2.cell
    have hf := bR2.frozen
    clear ra ro
    have Rb := Lib.hid (below_step hbb rb)
    clear rb
    go_wp2
    have hc3 := (bR2.set (.int .i64 (-1))).cell
    refine bodyPost_ret (v := .int .i64 (-1)) (by simp [results, Try.results36, go_sem, hc3]) rfl ⟨by rw [Hh.out], ?_⟩
    exact (Rb.out.alloc Rb.out.size _).setCell (p := ⟨w.heap.size, 0, none⟩) (Nat.le_refl _) _
  · have Hh := Lib.hid (show payReachI zs ab = reachTo zs ab (zs.length - 1) by unfold payReachI; rw [hcb]; rfl)
    have Hl := Lib.hid (show payCarryL zs ab = carryTo zs ab (zs.length - 1) by unfold payCarryL; rw [hcb]; rfl)
    obtain ⟨hv, h0, h1⟩ := carryB_true hcb
    have h2 := (validB_true hv).1
    have h16 := (validB_true hv).2.1
    have Hd := Lib.hid (validB_depths hv)
    have Hcb := Lib.hid hcb
    have Hcl := Lib.hid (carryTo_length zs ab (zs.length - 1))
    clear hcb hv
    refine (callsIn_wide (n := 5)).1 ?_
    refine callsIn_of_wp_marks Try.func36 rfl trivial ?_ rfl
    simp only [Try.ntmps36, List.size_toArray, List.length_cons, List.length_nil, Nat.reduceAdd, Nat.reduceSub, Array.replicate_succ, Array.replicate_zero, List.push_toArray, List.append_toArray, List.nil_append, List.cons_append]
    gi_wp2_with (first
      | (refine ⟨trivial, ?_⟩; gi_at_call 64; refine (callsIn_wide.2 (implPayCarry_b A c zs ab _ Ha.out)).mono ?_; rintro e w1 ⟨B, d, rfl, ra, ro, rb⟩; dsimp only; rw [Hcb.out, Hl.out])
      | (refine ⟨trivial, ?_⟩; gi_at_call 52; refine (callsIn_wide.2 (floorMiles_c _ _ _ _)).mono ?_; rintro e w2 ⟨rfl, rfl⟩))
    have Rb := Lib.hid (below_step hbb rb)
    have hs1 : w.heap.size + 1 ≤ w1.heap.size := by have := rb.size; simpa using this
    have bR1 : Boxed w1 w.heap.size 3 (.int .i64 0) := (rb.block _ (by simp)).trans (Boxed.new w 3 _)
    obtain ⟨ps, hps⟩ : ∃ ps, carryTo zs ab (zs.length - 1) = ps := ⟨_, rfl⟩
    rw [Hl.out, hps] at ra
    rw [hps]
    have hpl : ps.length = zs.length - 1 := by rw [← hps]; exact Hcl.out
    have Hps := Lib.hid hps
    have Hpl := Lib.hid hpl
    clear ro hps
    obtain ⟨WL, hWL⟩ : ∃ WL, (w1.alloc (.cells #[.slice B ps.length d] 23)).alloc (.cells #[.slice A zs.length c] 23) = WL := ⟨_, rfl⟩
    have bR : Boxed WL w.heap.size 3 (.int .i64 0) := by rw [← hWL]; exact (bR1.alloc _).alloc _
    have bP : Boxed WL w1.heap.size 23 (.slice B ps.length d) := by rw [← hWL]; exact (Boxed.new w1 23 _).alloc _
    have bF : Boxed WL (w1.heap.size + 1) 23 (.slice A zs.length c) := by
      rw [← hWL]
      have := Boxed.new (w1.alloc (.cells #[.slice B ps.length d] 23)) 23 (.slice A zs.length c)
      rwa [World.size_alloc] at this
    have hB1L : Below w1.heap.size w1 WL := by rw [← hWL]; exact ((Below.refl _ w1).alloc (Nat.le_refl _) _).alloc (by simp) _
    have hBL : Below w.heap.size w WL := below_step Rb.out hB1L
    have hsz : WL.heap.size = w1.heap.size + 2 := by rw [← hWL]; simp
    have hrd : Rd 0 w.heap.size WL A zs := Ra.out.below hBL
    have Hpr := Lib.hid (ra.rd.below hB1L)
    rw [hWL]
    have HWL := Lib.hid hWL
    clear hWL ra hpl rb
    refine wpIn_rangeFunc_ownG rfl (by decide) (gf := 73) (lb := #[.pointer (some ⟨w1.heap.size + 1, 0, none⟩)]) rfl trivial (enters_of Try.func73 (by kernel_rfl) rfl)
      (miles_stops 4 (by decide) (w1.heap.size + 1) w.heap.size A c zs (by omega) hl Hd.out WL (by omega) (by omega) bF.cell hrd) KpB.t (KpB.b (by omega) (by omega)) (Below.refl _ _) (fun _ => rfl)
      (Looks w.heap.size w.heap.size (w1.heap.size + 1) w1.heap.size w1.heap.size (.slice A zs.length c) (.slice B ps.length d) B ps (.int .i64 0) w (fun pre : List (Fin (zs.length - 1)) => ∀ i ∈ pre, hangB zs ps i.val = false))
      (Found w.heap.size w.heap.size w (hangB zs ps))
      (Looks.own (Nat.le_refl _) (by omega) (by omega))
      (fun cc => Found.own cc (Nat.le_refl _) (by omega))
      ⟨⟨⟨by simp, bR⟩, ⟨bF, bP⟩, Hpr.out⟩, hBL⟩
      ?a1 ?assign ?body ?done ?stop
    case assign =>
      intro l x W K hK
      gi_wp2
      exact hK
    case body =>
      rintro l pre x W ⟨⟨⟨hno, hR⟩, ⟨hF, hP⟩, hRd⟩, hB⟩ hlt
      have hcR := hR.cell
      have hfR := hR.frozen
      have hcp := hP.cell
      have hx := x.isLt
      have hxp : x.val < ps.length := by have := Hpl.out; omega
      obtain ⟨b, off, rfl, _, _, hcx⟩ := hRd.at_ hxp
      have e0 : ps[x.val]?.getD 0 = ps[x.val] := by simp [hxp]
      have Hhb := Lib.hid (show hangB zs ps x.val = decide (ps[x.val] < needAt zs x.val) by unfold hangB; rw [e0])
      rw [e0] at hcx
      have Hno := Lib.hid hno
      have HR := Lib.hid hR
      have HF := Lib.hid hF
      have HP := Lib.hid hP
      have HRd := Lib.hid hRd
      clear e0 hno hR hF hP hRd
      by_cases hlt2 : ps[x.val] < needAt zs x.val
      · have Hh1 := Lib.hid (show hangB zs ps x.val = true by rw [Hhb.out]; simpa using hlt2)
        gi_wp2
        exact ⟨(KeepsOthers.setCell _ _ _).from _, ⟨pre, x, ⟨rfl, rfl, Hno.out, Hh1.out⟩, HR.out.set _⟩, hB.setCell (p := ⟨w.heap.size, 0, none⟩) (Nat.le_refl _) _⟩
      · have Hh1 := Lib.hid (show hangB zs ps x.val = false by rw [Hhb.out]; simpa using hlt2)
        gi_wp2
        refine ⟨KeepsFrom.refl _ _, KpB.refl _ _ _, ⟨⟨fun i hi => ?_, HR.out⟩, ⟨HF.out, HP.out⟩, HRd.out⟩, hB⟩
        rcases List.mem_append.1 hi with h | h
        · exact Hno.out i h
        · simp at h
          subst h
          exact Hh1.out
    case done =>
      rintro D ys W hD rfl ⟨⟨⟨hno, hR⟩, ⟨hF, hP⟩, _⟩, hB⟩ hK
      have hcR := hR.cell
      have hfR := hR.frozen
      have hcp := hP.cell
      have Hno := Lib.hid hno
      have HR := Lib.hid hR
      have HB := Lib.hid hB
      clear hno hR hF hP hB
      gi_wp2
      have hK' := (KeepsOthers.setCell W ⟨w.heap.size, 0, none⟩ (.int .i64 (ps.length : Int))).same D _ hK rfl
      refine ⟨by simp, .inl ⟨_, _, rfl, run_takeDeferred hK', ?_⟩⟩
      have hc5 := cell_kept (HR.out.set (.int .i64 (ps.length : Int))).cell (grownBy_putObj' _ D (.deferred none)) (fun r e => by cases e; exact ⟨_, hK', rfl⟩)
      refine ⟨.int .i64 (ps.length : Int), by simp [results, Try.f36, go_sem, hc5], ?_, (HB.out.setCell (p := ⟨w.heap.size, 0, none⟩) (Nat.le_refl _) _).trans (belowK_b (w := w) (Nat.le_refl _) _ D _ _ (by omega) hK' rfl rfl)⟩
      have : reachTo zs ab (zs.length - 1) = ps.length := by
        rw [Hpl.out]
        refine reach_none fun j hj => ?_
        rw [Hps.out]
        exact Hno.out ⟨j, hj⟩ (by unfold milesTo; rw [List.take_of_length_le (by simp)]; exact List.mem_finRange _)
      rw [Hh.out, this]
    case stop =>
      rintro D cc pre W hD ⟨k, hk, rfl⟩ ⟨⟨ini, x, ⟨rfl, e1, hini, hx⟩, hR⟩, hB⟩ hK
      have hcR := hR.cell
      have HR := Lib.hid hR
      have HB := Lib.hid hB
      have Hini := Lib.hid hini
      have Hx := Lib.hid hx
      have E1 := Lib.hid e1
      clear hR hB hini hx e1
      gi_wp2
      refine ⟨by simp, .inl ⟨_, _, rfl, run_takeDeferred hK, ?_⟩⟩
      have hc5 := cell_kept hcR (grownBy_putObj' _ D (.deferred none)) (fun r e => by cases e; exact ⟨_, hK, rfl⟩)
      refine ⟨.int .i64 (x.val : Int), by simp [results, Try.f36, go_sem, hc5], ?_, HB.out.trans (belowK_b (w := w) (Nat.le_refl _) W D _ _ (by omega) hK rfl rfl)⟩
      obtain ⟨k', rfl⟩ : ∃ k', k = k' + 1 := by
        cases k with
        | zero => have := E1.out; rw [milesTo_zero] at this; simp at this
        | succ k' => exact ⟨k', rfl⟩
      have e2 := E1.out
      rw [milesTo_succ (by omega)] at e2
      obtain ⟨e3, e4⟩ := List.append_inj' e2 rfl
      have e5 : x.val = k' := by
        injection e4 with e4 _
        rw [← e4]
      have : reachTo zs ab (zs.length - 1) = x.val := by
        refine reach_some x.isLt (by rw [Hps.out]; exact Hx.out) fun j hj => ?_
        rw [Hps.out]
        refine Hini.out ⟨j, by omega⟩ ?_
        rw [← e3]
        unfold milesTo
        rw [List.mem_take_iff_getElem]
        exact ⟨j, by simp; omega, by simp⟩
      rw [Hh.out, this]

end Go.Proofs.Ytpkcfdbgndpkeaa
