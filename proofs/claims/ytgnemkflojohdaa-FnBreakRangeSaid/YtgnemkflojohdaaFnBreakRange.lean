/-
  The law FnBreakRange: for every code the law answers true. No condition.
-/
import Derived.Test.YtgnemkflojohdaaFDrawG
import Derived.Test.YtgnemkflojohdaaRngM
import Derived.Test.YtgnemkflojohdaaBreakS
import Derived.Test.YtgnemkflojohdaaRowB
namespace Go.Proofs.Ytgnemkflojohdaa
open Go.ChangeShapes Go.WideShapes Go.ChangeAt Go.RowKit

theorem rangeO_some {ss : List Sec} {a e : Int} {x : Nat × Nat} (h : rangeO ss a e = some x) : cabB ss = true ∧ 0 ≤ a ∧ (0 ≤ e ∧ e ≤ 1000) ∧ rgTo (rN ss) a e (mN ss + 1) = some x := by
  unfold rangeO at h
  by_cases hc : (cabB ss && decide (0 ≤ a) && inB e 0 1000) = true
  · rw [if_pos hc] at h
    rw [Bool.and_eq_true, Bool.and_eq_true] at hc
    exact ⟨hc.1.1, of_decide_eq_true hc.1.2, inB_true.1 hc.2, h⟩
  · rw [if_neg hc] at h
    cases h
theorem rangeV_some {ss : List Sec} {a e : Int} {x : Nat × Nat} (h : rangeO ss a e = some x) : rangeV ss a e = .tuple #[.int .i64 x.1, .int .i64 x.2, .bool true] := by
  unfold rangeV
  rw [h]
  rfl
theorem rangeV_none {ss : List Sec} {a e : Int} (h : rangeO ss a e = none) : rangeV ss a e = .tuple #[.int .i64 0, .int .i64 0, .bool false] := by
  unfold rangeV
  rw [h]
  rfl
/-- which of the law's tests come out how -/
theorem rg_ways {ss : List Sec} (hc : cabB ss = true) {a e : Int} {x : Nat × Nat} (h : rgTo (rN ss) a e (mN ss + 1) = some x) {k : Nat} (hk : k ≤ mN ss) :
    ((rN ss k ≤ a ∧ a ≤ rN ss k + e) ∧ (x.1 : Int) ≤ k ∧ (k : Int) ≤ x.2) ∨ (¬ (rN ss k ≤ a ∧ a ≤ rN ss k + e) ∧ ¬ ((x.1 : Int) ≤ k ∧ (k : Int) ≤ x.2)) := by
  have hi := rg_iff hc h hk
  rw [inB_true] at hi
  by_cases h1 : x.1 ≤ k ∧ k ≤ x.2
  · have := hi.2 h1
    left
    omega
  · have h2 : ¬ (0 ≤ a - rN ss k ∧ a - rN ss k ≤ e) := fun h3 => h1 (hi.1 h3)
    right
    omega

set_option maxRecDepth 100000 in
set_option maxHeartbeats 4000000 in
theorem fnBreakRange_in (A : Option Addr) (n c : Nat) (w : World) (hl : n ≤ 1048576) (hnc : n ≤ c) (hb : Bytes w.heap.size w A n) :
    Calls Try.prog 10 #[.slice A n c] w (RetB (.bool true) w) := by
  have Hb := Lib.hid hb
  clear hb
  go_enter Try.func10, Try.ntmps10
  go_wp2_with fail
  refine (DrawBreakRange_c A n c _ (by omega) hnc Hb.out).mono ?_
  rintro e w1 ⟨B, d, ss, m, o, rfl, hzl, hA, hB, ⟨hm0, hm1⟩, ho0, ho1⟩
  have Ha := Lib.hid hA
  have Bt := Lib.hid hB
  clear hA hB Hb
  go_wp2_with fail
  refine (implBreakRange_b B d ss m o _ Ha.out (by omega)).mono ?_
  rintro e w2 ⟨rfl, rb2⟩
  replace Ha := Lib.hid (Ha.out.go rb2)
  replace Bt := Lib.hid (below_step Bt.out rb2)
  clear rb2
  cases hr : rangeO ss m o with
  | none =>
    have HV := Lib.hid (rangeV_none hr)
    clear hr
    rw [HV.out]
    go_wp2_with fail
    refine (specBreakRange_b B d ss m o _ Ha.out (by omega)).mono ?_
    rintro e w3 ⟨rfl, rb3⟩
    rw [HV.out]
    replace Bt := Lib.hid (below_step Bt.out rb3)
    clear rb3
    go_wp2
    go_ret
    exact ⟨rfl, Bt.out⟩
  | some x =>
    have hV := rangeV_some hr
    obtain ⟨hc, ha0, he, hrg⟩ := rangeO_some hr
    have hW : (o = 1000 ∧ rangeV ss m (o + 1) = .tuple #[.int .i64 0, .int .i64 0, .bool false]) ∨ (¬ o = 1000 ∧ ∃ y z : Int, rangeV ss m (o + 1) = .tuple #[.int .i64 y, .int .i64 z, .bool true] ∧ y ≤ (x.1 : Int) ∧ (x.2 : Int) ≤ z) := by
      by_cases h1 : o = 1000
      · exact .inl ⟨h1, rangeV_no (by rw [h1, inB_false.2 (show (1000 + 1 : Int) < 0 ∨ (1000 : Int) < 1000 + 1 by omega)]; simp)⟩
      · obtain ⟨y, hy, h2, h3⟩ := rg_wider hrg
        exact .inr ⟨h1, y.1, y.2, rangeV_some (by rw [rangeO_yes hc ha0 (inB_true.2 (by omega)), hy]), by omega, by omega⟩
    have hK := fun (k : Nat) (hk : k ≤ mN ss) => rg_ways hc hrg hk
    obtain ⟨X, hX⟩ : ∃ X : Int, (x.1 : Int) = X := ⟨_, rfl⟩
    obtain ⟨Y, hY⟩ : ∃ Y : Int, (x.2 : Int) = Y := ⟨_, rfl⟩
    simp only [hX, hY] at hV hW hK
    have HV := Lib.hid hV
    have HW := Lib.hid hW
    have HM := Lib.hid (milesI_mN hc)
    have HR := Lib.hid fun (k : Nat) (hk : k ≤ mN ss) => ohmsI_rN hc hk
    have HK := Lib.hid hK
    have HB := Lib.hid (ohmsI_bd ss)
    have hN : mN ss ≤ 100000 := by have h1 := cab_miles hc; unfold mN; omega
    obtain ⟨N, hNN⟩ : ∃ N, mN ss = N := ⟨_, rfl⟩
    rw [hNN] at HM HR HK hN
    have HN := Lib.hid hN
    have He := Lib.hid he
    clear hr hc ha0 he hrg hW hNN hN hK hV hX hY
    rw [HV.out]
    go_wp2_with fail
    refine (specBreakRange_b B d ss m o _ Ha.out (by omega)).mono ?_
    rintro e w3 ⟨rfl, rb3⟩
    rw [HV.out]
    have HL : Hid (ArgC w3 B d ss ∧ Below w.heap.size w w3) := Lib.hid ⟨Ha.out.go rb3, below_step Bt.out rb3⟩
    clear rb3 Ha Bt
    go_wp2
    go_loopw [12] (fun i wr => ∃ k : Nat, k ≤ N + 1 ∧ i = .int .i64 k ∧ Hid (ArgC wr B d ss ∧ Below w.heap.size w wr)) (fun i _ => N + 1 - (intOf i).toNat)
    case atStart => exact ⟨0, by omega, rfl, HL⟩
    case round =>
      clear HL
      obtain ⟨k, hk, rfl, HL⟩ := hrel
      go_wp2_with fail
      refine (implCableMiles_b B d ss _ HL.out.1).mono ?_
      rintro e w4 ⟨rfl, rb4⟩
      rw [HM.out]
      replace HL := Lib.hid (And.intro (HL.out.1.go rb4) (below_step HL.out.2 rb4))
      clear rb4
      by_cases hkl : k ≤ N
      · have g0 : decide ((k : Int) ≤ (N : Int)) = true := decide_eq_true (by omega)
        have hnb := HN.out
        go_wp2_with fail
        refine (implCableOhms_b B d ss (k : Int) _ HL.out.1).mono ?_
        rintro e w5 ⟨rfl, rb5⟩
        have hbd := HB.out (k : Int)
        rw [HR.out k hkl] at hbd ⊢
        replace HL := Lib.hid (And.intro (HL.out.1.go rb5) (below_step HL.out.2 rb5))
        clear rb5
        have hways := HK.out k hkl
        generalize rN ss k = r at hbd hways ⊢
        have q1 : IntKind.i64.wrap (r + o) = r + o := IntWalk.i64_in _ (by omega)
        obtain ⟨⟨h1, h2⟩, h3, h4⟩ | ⟨h1, h2⟩ := hways
        · have p1 : decide (r ≤ m) = true := decide_eq_true h1
          have p2 : decide (m ≤ r + o) = true := decide_eq_true h2
          have p3 : decide ((k : Int) ≥ X) = true := decide_eq_true h3
          have p4 : decide ((k : Int) ≤ Y) = true := decide_eq_true h4
          clear h1 h2 h3 h4 hbd
          go_wp2
          go_roundw
          case rel => exact ⟨k + 1, by omega, by go_num, HL⟩
          case measure => simp [intOf]; omega
        · have hp : decide (r ≤ m) = false ∨ decide (r ≤ m) = true ∧ decide (m ≤ r + o) = false := by
            by_cases h3 : r ≤ m
            · exact .inr ⟨decide_eq_true h3, decide_eq_false fun h4 => h1 ⟨h3, h4⟩⟩
            · exact .inl (decide_eq_false h3)
          have hq : decide ((k : Int) ≥ X) = false ∨ decide ((k : Int) ≥ X) = true ∧ decide ((k : Int) ≤ Y) = false := by
            by_cases h3 : (k : Int) ≥ X
            · exact .inr ⟨decide_eq_true h3, decide_eq_false fun h4 => h2 ⟨h3, h4⟩⟩
            · exact .inl (decide_eq_false h3)
          clear h1 h2 hbd
          obtain p1 | ⟨p1, p2⟩ := hp
          all_goals
            obtain p3 | ⟨p3, p4⟩ := hq
            all_goals
              go_wp2
              go_roundw
              case rel => exact ⟨k + 1, by omega, by go_num, HL⟩
              case measure => simp [intOf]; omega
      · have g0 : decide ((k : Int) ≤ (N : Int)) = false := decide_eq_false (by omega)
        have q1 : IntKind.i64.wrap (o + 1) = o + 1 := IntWalk.i64_in _ (by omega)
        go_wp2_with fail
        refine (implBreakRange_b B d ss m (o + 1) _ HL.out.1 (by omega)).mono ?_
        rintro e w6 ⟨rfl, rb6⟩
        have Bt := Lib.hid (below_step HL.out.2 rb6)
        clear rb6 HL
        obtain ⟨h1, h2⟩ | ⟨h1, y, z, h2, h3, h4⟩ := HW.out
        · have p1 : (o == 1000) = true := by simpa using h1
          rw [h2]
          clear h1 h2
          go_wp2
          go_ret
          exact ⟨rfl, Bt.out⟩
        · have p1 : (o == 1000) = false := by simpa using h1
          have p2 : decide (y ≤ X) = true := decide_eq_true (by omega)
          have p3 : decide (z ≥ Y) = true := decide_eq_true (by omega)
          rw [h2]
          clear h1 h2 h3 h4
          go_wp2
          go_ret
          exact ⟨rfl, Bt.out⟩

theorem fnBreakRange_walk (A0 : Option Addr) (n0 c0 : Nat) (w : World) (hb0 : Byt0 w A0 n0 c0) :
    Calls Try.prog 10 #[.slice A0 n0 c0] w (RetB (.bool true) w) := by
  by_cases hl0 : 1048576 < n0
  · clear hb0
    go_enter Try.func10, Try.ntmps10
    go_wp2
    go_ret
    exact ⟨rfl, Below.refl _ _⟩
  exact fnBreakRange_in A0 n0 c0 w (by omega) hb0.1 hb0.2.2

set_option maxRecDepth 100000 in
theorem fnBreakRange_lifted (os : Os) (started : os.Started) (H : Type) (enc : TypeId × Value → H) :
    ReturnsInHanded {} Try.checked os 10 .any (Rows.fnBreakRangeSpec.pre6 enc Try.prog Try.f10 Rows.fnBreakRangeRow.domain false) (Rows.fnBreakRangeSpec.post enc Try.prog Try.f10 false true false false) := by
  refine returnsInHanded_of_change (C := Try.checked) row_own started (by kernel_rfl) Try.func10
    (ChangeSpec.witness6 (enc := enc) (C := Try.checked) false ⟨#[], #[.slice none 0 0], []⟩ 8 (by kernel_rfl) (by kernel_rfl) (by kernel_rfl) (by kernel_rfl)) ?_
  intro W base args ds gs before hval0 hW hcnd _
  have hval : ∀ (j : Nat) t v, Try.f10.params[j]? = some t → args[j]? = some v → Value.okWide Try.prog W .any base t v := hval0
  have hW' := hW
  obtain ⟨p, q, hA0, hV, rfl, _, _⟩ := hW
  have hA : DataW.TrodAll enc Try.prog W 0 (fun _ => true) true Try.f10.params.toList args.toList ds p := hA0
  rw [Try.params10] at hA hval
  obtain ⟨v0, vs0, d0, ds0, p0, q0, hargs, rfl, rfl, h0, r0⟩ := trodAll_cons hA
  obtain ⟨rfl, rfl, rfl⟩ := trodAll_nil r0
  obtain rfl : args = #[v0] := by cases args; simp_all
  obtain ⟨rfl, rfl⟩ := trodVars_none hV
  have hlt0 : ∀ x ∈ p0, x.block < W.heap.size := fun x hx => by exact hW'.lt x (by simp [hx])
  obtain ⟨A0, n0, c0, rfl, hb0⟩ := open_bytes (hval 0 22 v0 rfl rfl) h0 hlt0
  clear hA0 hval0
  refine (fnBreakRange_walk A0 n0 c0 W hb0).mono fun e W' ⟨he, hb⟩ => ?_
  subst he
  exact ⟨_, rfl, _, _, _, [], _, [], hW', (trodAll_cons_mk (shut_bool Try.underlying4 _) trodAll_mk0), (trodAll_cons_mk (read_again_bytes h0 hlt0 hb) trodAll_mk0), rfl, hb.frame _, fun h => by cases h⟩

/-- THE STATEMENT -/
theorem fnBreakRange_holds : Rows.FnBreakRangeSaid :=
  OpenClaim.holds_of_wide 10 Try.f10 rfl rfl rfl rfl rfl rfl rfl ⟨rfl, rfl, rfl, rfl, rfl⟩ rfl rfl rfl rfl rfl (by kernel_rfl) Try.func10 (by kernel_rfl)
    (of_decide_eq_true (by kernel_rfl)) (by unfold Func.isWrapper; first | (rw [if_pos (by decide +kernel)]; kernel_rfl) | (rw [if_neg (by decide +kernel)]; exact ⟨rfl, rfl⟩))
    (fun os started H enc _ => fnBreakRange_lifted os started H enc)
#print axioms fnBreakRange_holds
end Go.Proofs.Ytgnemkflojohdaa
