/-
  The law FnWindow: for every code the law answers true. No condition but the tie of the card.
-/
import Derived.Test.YtbcgglkgdjafiaaDoorRowB
import Derived.Test.YtbcgglkgdjafiaaDoorRow
import Derived.ChangeMaps5
import Derived.Test.YtbcgglkgdjafiaaDoorDoorM
import Derived.Test.YtbcgglkgdjafiaaDoorTie
import Derived.Test.YtbcgglkgdjafiaaDoorCards
import Derived.LaidMore
import Derived.SevenTiedAt
import Derived.Stop.Joined
import Derived.Test.YtbcgglkgdjafiaaDoorFacD
import Derived.Test.YtbcgglkgdjafiaaDoorWDrawS
import Derived.Test.YtbcgglkgdjafiaaDoorWFacts
namespace Go.Proofs.YtbcgglkgdjafiaaDoor
open Go.ChangeShapes Go.WideShapes Go.ChangeAt Go.RowKit Go.ChangeMaps

theorem win_step {L : List UInt8} {D k : Nat} (j : Nat) (b : UInt8) (hk : D + j = k) (hl : k < L.length) (hb : L[k]? = some b) : winB L (j + 1) D = (winB L j D && isO b) := by
  rw [winB_succ, hk, hb, decide_eq_true hl]
  simp

set_option maxRecDepth 100000 in
set_option maxHeartbeats 3000000 in
theorem fnWindow_in (A : Option Addr) (n c : Nat) (w : World) (hl : n ≤ 1048576) (hnc : n ≤ c) (hb : Bytes w.heap.size w A n) (hT : Tab w) :
    Calls Tryd.prog 6 #[.slice A n c] w (RetB (.bool true) w) := by
  have Hb := Lib.hid hb
  have tz0 := hT.lt
  have HT := Lib.hid hT
  clear hb hT
  go_enter Tryd.func6, Tryd.ntmps6
  go_wp2_with fail
  refine (DrawForecastWindow_c A n c _ (by omega) hnc Hb.out).mono ?_
  rintro e w1 ⟨s, d, rfl, hs, hd0, hd1, hB⟩
  replace HT := Lib.hid (HT.out.go hB)
  have Bt := Lib.hid hB
  clear hB Hb
  have Hlen := Lib.hid (byL_len s)
  have Hwi := Lib.hid (fun (d : Int) W h => implForecastWindow_b s d W (by omega) h)
  have Hi1 := Lib.hid (fun W h => Hwi.out d W h)
  have Hspec := Lib.hid (fun W => specForecastWindow_c s (by omega) d W)
  have Hno := Lib.hid (@win_off (byL s) d)
  obtain ⟨v, hv⟩ : ∃ v, wiV (byL s) d = v := ⟨_, rfl⟩
  have Hv := Lib.hid hv
  rw [hv] at Hi1 Hspec Hno
  clear hv
  have nv : (v != v) = false := by simp
  have ne : (v == v) = true := by simp
  go_wp2_with fail
  refine (Hi1.out _ HT.out).mono ?_
  rintro e w2 ⟨rfl, rb2⟩
  replace HT := Lib.hid (HT.out.go rb2)
  replace Bt := Lib.hid (below_step Bt.out rb2)
  clear rb2
  go_wp2_with fail
  refine (Hspec.out _).mono ?_
  rintro e w3 ⟨rfl, rfl⟩
  by_cases hneg : v = -1
  case pos =>
    subst hneg
    go_wp2
    go_ret
    exact ⟨rfl, Bt.out⟩
  have hy : fcB (byL s) = true ∧ 1 ≤ d ∧ d ≤ 30 := Decidable.byContradiction fun h => hneg (Hno.out h)
  obtain ⟨hf, h0, h1⟩ := hy
  obtain ⟨N, rfl⟩ := Int.eq_ofNat_of_zero_le (show 0 ≤ d by omega)
  have hN1 : 1 ≤ N := by omega
  have hN6 : N ≤ 6 := by omega
  have hwn : v = wiN (byL s) N := by rw [← Hv.out]; exact win_on hf hN1 (by omega)
  have hse : ∃ D, winF (byL s) N = some D := by
    cases hw : winF (byL s) N with
    | none => exact absurd (hwn.trans (wiN_none hw)) hneg
    | some D => exact ⟨D, rfl⟩
  obtain ⟨D, hD⟩ := hse
  have hvD := hwn.trans (wiN_some hD)
  obtain ⟨hwD, hbef⟩ := winF_some hD
  have hDn := ((winB_iff (byL s) N D).1 hwD).1
  rw [Hlen.out] at hDn
  subst hvD
  have Hbef := Lib.hid (fun (e : Nat) (h : e ≤ D) => (show winB (byL s) N e = decide (e = D) by
    rcases Decidable.em (e = D) with h2 | h2
    · rw [h2, hwD, decide_eq_true rfl]
    · rw [hbef e (by omega), decide_eq_false h2]))
  have Hless := Lib.hid (fun h => win_less hf (n := N) (D := D) h (by omega) hwD)
  have Hat := Lib.hid (byL_at s)
  have g0 : ¬ (D : Int) < 0 := by omega
  clear hneg hwn hD hwD hbef hf Hno Hspec Hi1 Hv
  go_wp2
  go_loopw [7, 8, 9] (fun dv _ _ wr => Tab wr ∧ Below w.heap.size w wr ∧ ∃ e : Nat, e ≤ D + 1 ∧ dv = .int .i64 e) (fun dv _ _ _ => D + 1 - (intOf dv).toNat)
  case atStart => exact ⟨HT.out, Bt.out, 0, by omega, rfl⟩
  case round =>
    obtain ⟨ht1, hb1, e, he, rfl⟩ := hrel
    replace HT := Lib.hid ht1
    replace Bt := Lib.hid hb1
    clear ht1 hb1
    by_cases hle : e ≤ D
    case pos =>
      have g1 : (e : Int) ≤ (D : Int) := by omega
      have hbe := Hbef.out e hle
      have hz := winB_zero (byL s) e (by rw [Hlen.out]; omega)
      go_wp2
      go_loopw [8, 9] (fun ov kv wr2 => Tab wr2 ∧ Below w.heap.size w wr2 ∧ ∃ j : Nat, j ≤ N ∧ kv = .int .i64 ((e + j : Nat) : Int) ∧ ov = .bool (winB (byL s) j e)) (fun _ kv _ => e + N - (intOf kv).toNat)
      case atStart => exact ⟨HT.out, Bt.out, 0, by omega, rfl, by rw [hz]⟩
      case round =>
        obtain ⟨ht1, hb1, j, hj, rfl, rfl⟩ := hrel
        replace HT := Lib.hid ht1
        replace Bt := Lib.hid hb1
        clear ht1 hb1
        have q1 : IntKind.i64.wrap ((e : Int) + (N : Int)) = (e : Int) + (N : Int) := IntWalk.i64_in _ (by omega)
        obtain ⟨k, hk⟩ : ∃ k, e + j = k := ⟨_, rfl⟩
        rw [hk]
        by_cases hjn : j < N
        · have hks : k < s.size := by omega
          have g2 : (k : Int) < (e : Int) + (N : Int) := by omega
          have g3 : (k : Int) < (s.size : Int) := by omega
          have hst := win_step (L := byL s) j (s[k]'hks) hk (by rw [Hlen.out]; exact hks) (Hat.out k hks)
          obtain ⟨x, hx⟩ : ∃ x, winB (byL s) j e = x := ⟨_, rfl⟩
          rw [hx] at hst ⊢
          obtain ⟨b, hb⟩ : ∃ b : UInt8, s[k]'hks = b := ⟨_, rfl⟩
          rw [hb] at hst
          have Hst := Lib.hid hst
          have Hk := Lib.hid hk
          clear hst hx hk
          cases x
          · go_wp2
            go_roundw
            case rel => exact ⟨HT.out, Bt.out, j + 1, by omega, by rw [← Nat.add_assoc, Hk.out]; go_num, by rw [Hst.out]; rfl⟩
            case measure => simp [intOf]; omega
          · by_cases e1 : b.toNat = 111
            · have e2 : ((b.toNat : Int) == 111) = true := by simp; omega
              have hO : isO b = true := by simp [isO, e1]
              go_wp2
              go_roundw
              case rel => exact ⟨HT.out, Bt.out, j + 1, by omega, by rw [← Nat.add_assoc, Hk.out]; go_num, by rw [Hst.out, hO]; rfl⟩
              case measure => simp [intOf]; omega
            · have e2 : ((b.toNat : Int) == 111) = false := by rw [beq_eq_false_iff_ne]; omega
              have hO : isO b = false := by simp [isO, e1]
              go_wp2
              go_roundw
              case rel => exact ⟨HT.out, Bt.out, j + 1, by omega, by rw [← Nat.add_assoc, Hk.out]; go_num, by rw [Hst.out, hO]; rfl⟩
              case measure => simp [intOf]; omega
        · obtain rfl : j = N := by omega
          have g2 : ¬ (k : Int) < (e : Int) + (j : Int) := by omega
          rw [hbe]
          have g4 : (decide (e = D) != decide ((e : Int) = (D : Int))) = false := by
            rcases Decidable.em (e = D) with h2 | h2
            · subst h2; simp
            · rw [decide_eq_false h2, decide_eq_false (by omega)]; rfl
          have g5 : ((e : Int) == (D : Int)) = decide (e = D) := by
            rcases Decidable.em (e = D) with h2 | h2
            · subst h2; simp
            · rw [decide_eq_false h2, beq_eq_false_iff_ne]; omega
          have g6 : (decide (e = D) != decide (e = D)) = false := by simp
          go_wp2
          go_roundw
          case rel => exact ⟨HT.out, Bt.out, e + 1, by omega, by go_num⟩
          case measure => simp [intOf]; omega
    case neg =>
      have g1 : ¬ (e : Int) ≤ (D : Int) := by omega
      have q2 : IntKind.i64.wrap ((N : Int) - 1) = (N : Int) - 1 := IntWalk.i64_in _ (by omega)
      by_cases hn1 : N = 1
      · subst hn1
        go_wp2
        go_ret
        exact ⟨rfl, Bt.out⟩
      · have g2 : ((N : Int) == 1) = false := by rw [beq_eq_false_iff_ne]; omega
        obtain ⟨d2, hd2, hd2D⟩ := Hless.out (by omega)
        have hw := Hwi.out ((N : Int) - 1)
        rw [hd2] at hw
        have Hw := Lib.hid hw
        have g3 : (d2 : Int) ≤ (D : Int) := by omega
        have g3d : decide ((d2 : Int) ≤ (D : Int)) = true := decide_eq_true g3
        clear hw hd2
        go_wp2_with fail
        refine (Hw.out _ HT.out).mono ?_
        rintro e w4 ⟨rfl, rb⟩
        replace HT := Lib.hid (HT.out.go rb)
        replace Bt := Lib.hid (below_step Bt.out rb)
        clear rb
        go_wp2_with fail
        refine (Hw.out _ HT.out).mono ?_
        rintro e w5 ⟨rfl, rb⟩
        replace Bt := Lib.hid (below_step Bt.out rb)
        clear rb
        go_wp2
        go_ret
        exact ⟨rfl, Bt.out⟩

theorem fnWindow_walk (A0 : Option Addr) (n0 c0 : Nat) (w : World) (hb0 : Byt0 w A0 n0 c0) (hT : Tab w) :
    Calls Tryd.prog 6 #[.slice A0 n0 c0] w (RetB (.bool true) w) := by
  by_cases hl0 : 1048576 < n0
  · clear hb0 hT
    go_enter Tryd.func6, Tryd.ntmps6
    go_wp2
    go_ret
    exact ⟨rfl, Below.refl _ _⟩
  exact fnWindow_in A0 n0 c0 w (by omega) hb0.1 hb0.2.2 hT

set_option maxRecDepth 100000 in
theorem fnWindow_lifted (os : Os) (started : os.Started) (H : Type) (enc : TypeId × Value → H) :
    ReturnsInHanded {} Tryd.checked os 6 .any (fun w args => (Rows.fnWindowSpec.pre enc Tryd.prog Tryd.f6 [] false w args ∧ laidMetH Tryd.prog Rows.fnWindowRow.laid w) ∧ sizedMet enc Tryd.prog Tryd.f6 (OpenSpec.ofChange Rows.fnWindowSpec) false w args)
      (Rows.fnWindowSpec.post enc Tryd.prog Tryd.f6 false true false false) := by
  refine returnsInHanded_of_change_and (C := Tryd.checked) (X := fun w _ => laidMetH Tryd.prog Rows.fnWindowRow.laid w) (fun _ _ _ hh h => h.of_heap hh) row_own started (by kernel_rfl) Tryd.func6
    (ChangeSpec.witness_shaped (enc := enc) (C := Tryd.checked) (os := os) (X := fun w _ => laidMetH Tryd.prog Rows.fnWindowRow.laid w) false (World.doorLaid Tryd.prog 4000 os) #[.slice none 0 0] 8 rfl (door_shaped os _) (by kernel_rfl) (by kernel_rfl) (by kernel_rfl) (door_laid os _)) ?_
  intro W base args ds gs before hval0 hW hcnd _ hlaid _
  have hval : ∀ (j : Nat) t v, Tryd.f6.params[j]? = some t → args[j]? = some v → Value.okWide Tryd.prog W .any base t v := hval0
  have hW' := hW
  obtain ⟨p, q, hA0, hV, rfl, _, _⟩ := hW
  have hA : DataW.TrodAll enc Tryd.prog W 0 (fun _ => true) true Tryd.f6.params.toList args.toList ds p := hA0
  rw [Tryd.params6] at hA hval
  obtain ⟨v0, vs0, d0, ds0, p0, q0, hargs, rfl, rfl, h0, r0⟩ := trodAll_cons hA
  obtain ⟨rfl, rfl, rfl⟩ := trodAll_nil r0
  obtain rfl : args = #[v0] := by cases args; simp_all
  obtain ⟨rfl, rfl⟩ := trodVars_none hV
  have hlt0 : ∀ x ∈ p0, x.block < W.heap.size := fun x hx => by exact hW'.lt x (by simp [hx])
  obtain ⟨A0, n0, c0, rfl, hb0⟩ := open_bytes (hval 0 22 v0 rfl rfl) h0 hlt0
  clear hA0 hval0
  refine (fnWindow_walk A0 n0 c0 W hb0 (tab_of hlaid)).mono fun e W' ⟨he, hb⟩ => ?_
  subst he
  exact ⟨_, rfl, _, _, _, [], _, [], hW', (trodAll_cons_mk (shut_bool Tryd.underlying4 _) trodAll_mk0), (trodAll_cons_mk (read_again_bytes h0 hlt0 hb) trodAll_mk0), rfl, hb.frame _, fun h => by cases h⟩

set_option maxRecDepth 100000 in
theorem fnWindow_closed : joinedFacts Tryd.prog 6 Tryd.f6 Rows.fnWindowSpec Rows.fnWindowRow = true := by
  unfold joinedFacts
  repeat' (with_reducible apply facAnd)
  all_goals first | (with_reducible exact facEnter) | (with_reducible exact facLaid) | (with_reducible exact facMaps) | (with_reducible exact facStops) | (with_reducible exact facKnobs) | (with_reducible exact facHeard) | (rw [facLifts]; as_aux_lemma => kernel_rfl) | (rw [facMake]; as_aux_lemma => kernel_rfl) | (as_aux_lemma => kernel_rfl)

/-- the bare row -/
theorem fnWindow_row : Rows.FnWindowSaid :=
  OpenClaim.holds_of_wide 6 Tryd.f6 rfl rfl rfl rfl rfl rfl rfl ⟨rfl, rfl, rfl, rfl, rfl⟩ rfl rfl rfl rfl rfl (by kernel_rfl) Tryd.func6 fnWindow_closed
    (of_decide_eq_true (by kernel_rfl)) (by unfold Func.isWrapper; first | (rw [if_pos (by decide +kernel)]; kernel_rfl) | (rw [if_neg (by decide +kernel)]; exact ⟨rfl, rfl⟩))
    (fun os started H enc _ => fnWindow_lifted os started H enc)

/-- THE STATEMENT: the card -/
theorem fnWindow_holds : Rows.FnWindowCardSaid :=
  Claim7.holds_tied_plain_at .later [] [.data] true Rows.fnWindowCard.stood.harness false
    fnWindow_row (fun _ h => by cases h) (by kernel_rfl) (fun _ h => by cases h) fnWindow_row_tie rfl ⟨rfl, rfl⟩ door_main rfl
    (fun f fn hf hfn => by
      obtain rfl : f = 6 := Option.some.inj ((show Tryd.prog.funcNamed Rows.fnWindowRow.func = some 6 by kernel_rfl).symm.trans hf) |>.symm
      obtain rfl : fn = Tryd.f6 := (Option.some.inj (Tryd.func6.symm.trans hfn)).symm
      exact ⟨door_looks, fun j t ht => by
        rw [Tryd.params6] at ht
        have hm : t ∈ [22] := by simpa using Array.mem_of_getElem? ht
        have hall : ([22].all fun u => !Tryd.prog.wantsStandIn u) = true := by kernel_rfl
        exact (show Tryd.prog.wantsStandIn t = false by simpa using List.all_eq_true.1 hall t hm)⟩)
    (by kernel_rfl)
#print axioms fnWindow_holds
end Go.Proofs.YtbcgglkgdjafiaaDoor
