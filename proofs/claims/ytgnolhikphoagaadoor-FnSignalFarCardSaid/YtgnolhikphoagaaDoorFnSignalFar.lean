/-
  The law FnSignalFar: for every code the law answers true. No condition but the tie of the card.
-/
import Derived.Test.YtgnolhikphoagaaDoorRowB
import Derived.Test.YtgnolhikphoagaaDoorRow
import Derived.ChangeMaps5
import Derived.Test.YtgnolhikphoagaaDoorDoorV
import Derived.Test.YtgnolhikphoagaaDoorTie
import Derived.Test.YtgnolhikphoagaaDoorFacD
import Derived.Test.YtgnolhikphoagaaDoorSDrawB
import Derived.Test.YtgnolhikphoagaaDoorSgP
import Derived.Test.YtgnolhikphoagaaDoorFaS
import Derived.Test.YtgnolhikphoagaaDoorFaI
import Derived.Test.YtgnolhikphoagaaDoorBaI
namespace Go.Proofs.YtgnolhikphoagaaDoor
open Go.ChangeShapes Go.WideShapes Go.ChangeAt Go.RowKit Go.ChangeMaps

theorem farI {a b : ByteArray} {x y : List UInt8} {v : Int} (ea : byL a = x) (eb : byL b = y) (h : farV x y = v) (w : World) (ha : a.size ≤ 80) (hb : b.size ≤ 80) : Calls Tryd.prog 29 #[.string a, .string b] w (RetB (.int .i64 v) w) := by
  have h1 := implSignalFar_b a b w (by omega) (by omega)
  rw [ea, eb, h] at h1
  exact h1
theorem backI {a : ByteArray} (h : sigB (byL a) = true) (w : World) (ha : a.size ≤ 80) (hT : Tab w) : Calls Tryd.prog 15 #[.string a] w (RetB (.tuple #[.string (str ((byL a).map turnP)), .bool true]) w) := by
  have h1 := implSignalBack_b a w (by omega) hT
  rw [h, tuV_yes h] at h1
  exact h1

set_option maxRecDepth 100000 in
set_option maxHeartbeats 4000000 in
theorem fnSignalFar_in (A : Option Addr) (n c : Nat) (A1 : Option Addr) (n1 c1 : Nat) (w : World) (hl : n ≤ 1048576) (hnc : n ≤ c) (hb : Bytes w.heap.size w A n) (hl1 : n1 ≤ 1048576) (_ : n1 ≤ c1) (_ : Bytes w.heap.size w A1 n1) (hT : Tab w) :
    Calls Tryd.prog 8 #[.slice A n c, .slice A1 n1 c1] w (RetB (.bool true) w) := by
  have Hb := Lib.hid hb
  have tz0 := hT.lt
  have HT := Lib.hid hT
  have gn : ¬ (1048576 : Int) < (n : Int) := by omega
  have gn1 : ¬ (1048576 : Int) < (n1 : Int) := by omega
  clear hb hT
  go_enter Tryd.func8, Tryd.ntmps8
  go_wp2_with fail
  refine (DrawSignalFar_c A n c _ (by omega) hnc Hb.out).mono ?_
  rintro e w1 ⟨a, b, rfl, za, zb, hB⟩
  replace HT := Lib.hid (HT.out.go hB)
  have Bt := Lib.hid hB
  clear hB Hb
  have Himpl := Lib.hid (fun W => implSignalFar_b a b W (by omega) (by omega))
  have Hspec := Lib.hid (fun W => specSignalFar_b a b W (by omega) (by omega))
  cases ho : twoB (byL a) (byL b)
  · rw [farV_no ho] at Himpl Hspec
    clear ho
    go_wp2_with fail
    refine (Himpl.out _).mono ?_
    rintro e w2 ⟨rfl, rb2⟩
    replace HT := Lib.hid (HT.out.go rb2)
    replace Bt := Lib.hid (below_step Bt.out rb2)
    clear rb2
    go_wp2_with fail
    refine (Hspec.out _).mono ?_
    rintro e w3 ⟨rfl, rb3⟩
    replace HT := Lib.hid (HT.out.go rb3)
    replace Bt := Lib.hid (below_step Bt.out rb3)
    clear rb3
    go_wp2
    go_ret
    exact ⟨rfl, Bt.out⟩
  obtain ⟨h1, h2, h3⟩ := twoB_true.1 ho
  have hza : (str ((byL a).map turnP)).size = a.size := by rw [str_size, List.length_map, byL_len]
  have hzb : (str ((byL b).map turnP)).size = b.size := by rw [str_size, List.length_map, byL_len]
  have Hb1 := Lib.hid (fun W => backI h1 W za)
  have Hb2 := Lib.hid (fun W => backI h2 W zb)
  have Hf1 := Lib.hid (fun W => farI rfl rfl (far_comm ho) W zb za)
  have Hf2 := Lib.hid (fun W => farI (by_str _) (by_str _) (far_turn2 ho) W (by rw [hza]; exact za) (by rw [hzb]; exact zb))
  have hz0 := far_zero ho
  have hpos : 0 ≤ farV (byL a) (byL b) ∧ farV (byL a) (byL b) ≤ 80 := by
    rw [farV_yes ho]
    have := farT_le (byL a) (byL b) (byL a).length
    rw [byL_len] at this ⊢
    omega
  have Hsub := Lib.hid (fun (k : Nat) (hk : k < a.size) => far_sub (p := 48) ho (by rw [byL_len]; exact hk) (by rfl))
  have heq : (farV (byL a) (byL b) == 0) = (a.toList == b.toList) := by
    rw [toList_by, toList_by]
    by_cases e : byL a = byL b
    · rw [(hz0.2 e), e]; simp
    · have e2 : ¬ farV (byL a) (byL b) = 0 := fun h => e (hz0.1 h)
      rw [beq_eq_false_iff_ne.2 e, beq_eq_false_iff_ne.2 e2]
  have HF := Lib.hid (fun (k : Nat) (hk : k < a.size) W => farI (a := a.extract 0 k ++ ⟨#[48]⟩ ++ a.extract (k + 1) a.size) (b := b) (x := subP (byL a) k 48) (by rw [← by_str (subP (byL a) k 48), ← subP_str]; rfl) rfl rfl W (by
    have e := congrArg ByteArray.size (subP_str (s := a) (i := k) 48)
    rw [str_size, subP_len 48 (by rw [byL_len]; exact hk), byL_len] at e
    have e2 : (a.extract 0 k ++ ⟨#[48]⟩ ++ a.extract (k + 1) a.size) = (a.extract 0 k ++ str [48] ++ a.extract (k + 1) a.size) := rfl
    rw [e2, e]; exact za) zb)
  obtain ⟨X, hX⟩ : ∃ x, str ((byL a).map turnP) = x := ⟨_, rfl⟩
  obtain ⟨Y, hY⟩ : ∃ x, str ((byL b).map turnP) = x := ⟨_, rfl⟩
  rw [hX] at Hb1 Hf2
  rw [hY] at Hb2 Hf2
  obtain ⟨f, hf⟩ : ∃ x, farV (byL a) (byL b) = x := ⟨_, rfl⟩
  rw [hf] at Himpl Hspec Hf1 Hf2 hpos heq Hsub
  have g1 : ¬ f < 0 := by omega
  have g1d : decide (f < 0) = false := decide_eq_false g1
  have g2 : (f != f) = false := bne_self_eq_false _
  have g3 : (f == f) = true := beq_self_eq_true _
  obtain ⟨bb, hbb⟩ : ∃ x, (a.toList == b.toList) = x := ⟨_, rfl⟩
  rw [hbb] at heq
  have g4 : (bb != bb) = false := by simp
  clear ho hX hY hf hz0 hza hzb h1 h2 h3
  go_wp2_with fail
  refine (Himpl.out _).mono ?_
  rintro e w4 ⟨rfl, rb4⟩
  replace HT := Lib.hid (HT.out.go rb4)
  replace Bt := Lib.hid (below_step Bt.out rb4)
  clear rb4
  go_wp2_with fail
  refine (Hspec.out _).mono ?_
  rintro e w5 ⟨rfl, rb5⟩
  replace HT := Lib.hid (HT.out.go rb5)
  replace Bt := Lib.hid (below_step Bt.out rb5)
  clear rb5
  go_wp2_with fail
  refine (Hb1.out _ HT.out).mono ?_
  rintro e w6 ⟨rfl, rb6⟩
  replace HT := Lib.hid (HT.out.go rb6)
  replace Bt := Lib.hid (below_step Bt.out rb6)
  clear rb6
  go_wp2_with fail
  refine (Hb2.out _ HT.out).mono ?_
  rintro e w7 ⟨rfl, rb7⟩
  replace HT := Lib.hid (HT.out.go rb7)
  replace Bt := Lib.hid (below_step Bt.out rb7)
  clear rb7
  go_wp2_with fail
  refine (Hf1.out _).mono ?_
  rintro e w8 ⟨rfl, rb8⟩
  replace HT := Lib.hid (HT.out.go rb8)
  replace Bt := Lib.hid (below_step Bt.out rb8)
  clear rb8
  go_wp2_with fail
  refine (Hf2.out _).mono ?_
  rintro e w9 ⟨rfl, rb9⟩
  replace HT := Lib.hid (HT.out.go rb9)
  replace Bt := Lib.hid (below_step Bt.out rb9)
  clear rb9
  by_cases h0 : a.size = 0
  · have h0i : ((a.size : Int) == 0) = true := by rw [h0]; rfl
    go_wp2
    go_ret
    exact ⟨rfl, Bt.out⟩
  have h0i : ((a.size : Int) == 0) = false := by rw [beq_eq_false_iff_ne]; omega
  have h0j : ((a.size : Int) = 0) = False := eq_false (by omega)
  obtain ⟨d, hd⟩ : ∃ d, n1 % a.size = d := ⟨_, rfl⟩
  have hds : d < a.size := by rw [← hd]; exact Nat.mod_lt _ (by omega)
  have q5 : (n1 : Int).tmod (a.size : Int) = (d : Int) := by
    rw [Int.tmod_eq_emod_of_nonneg (by omega), ← hd]
    simp
  have q7 : IntKind.i64.wrap (d : Int) = (d : Int) := IntWalk.i64_in _ (by omega)
  have q8 : IntKind.i64.wrap ((d : Int) + 1) = (d : Int) + 1 := IntWalk.i64_in _ (by omega)
  have s0 : (0 : Int) ≤ (d : Int) := by omega
  have s1 : (d : Int) ≤ (a.size : Int) := by omega
  have s2 : (0 : Int) ≤ (d : Int) + 1 := by omega
  have s3 : (d : Int) + 1 ≤ (a.size : Int) := by omega
  have s4 : ((d : Int) + 1).toNat = d + 1 := by omega
  have hF := HF.out d hds
  have hsb := Hsub.out d hds
  obtain ⟨P, hP⟩ : ∃ x, a.extract 0 d = x := ⟨_, rfl⟩
  obtain ⟨Q, hQ⟩ : ∃ x, a.extract (d + 1) a.size = x := ⟨_, rfl⟩
  obtain ⟨g, hg⟩ : ∃ x, farV (subP (byL a) d 48) (byL b) = x := ⟨_, rfl⟩
  have zp : P.size = d := by rw [← hP, ByteArray.size_extract]; omega
  have zq : Q.size = a.size - (d + 1) := by rw [← hQ, ByteArray.size_extract]; omega
  simp only [hP, hQ, hg] at hF
  rw [hg] at hsb
  have HF2 := Lib.hid hF
  have zo : (⟨#[48]⟩ : ByteArray).size = 1 := rfl
  have c1 : (P.size : Int) ≤ 8388608 := by omega
  have c2 : (Q.size : Int) ≤ 8388608 := by omega
  have c3 : ¬ 9223372036854775807 < P.size + (⟨#[48]⟩ : ByteArray).size := by omega
  have c4 : ¬ 9223372036854775807 < (P ++ ⟨#[48]⟩).size + Q.size := by rw [ByteArray.size_append]; omega
  have v1 : IntKind.i64.wrap (g - f) = g - f := IntWalk.i64_in _ (by omega)
  have v2 : (-1 : Int) ≤ g - f := hsb.1
  have v3 : g - f ≤ 1 := hsb.2
  have v2d : decide (g - f ≥ -1) = true := decide_eq_true v2
  have v3d : decide (g - f ≤ 1) = true := decide_eq_true v3
  clear hg hd hF HF Hsub zo
  go_wp2
  go_region_with (go_at_call 29; refine (HF2.out _).mono ?_; rintro e w8 ⟨rfl, rb8⟩; have Bt8 := Lib.hid (below_step (show Below w.heap.size w _ from Bt.out.drew) rb8); clear rb8)
  all_goals
    go_wp2
    go_ret
    exact ⟨rfl, Bt8.out⟩

theorem fnSignalFar_walk (A0 : Option Addr) (n0 c0 : Nat) (A1 : Option Addr) (n1 c1 : Nat) (w : World) (hb0 : Byt0 w A0 n0 c0) (hb1 : Byt0 w A1 n1 c1) (hT : Tab w) :
    Calls Tryd.prog 8 #[.slice A0 n0 c0, .slice A1 n1 c1] w (RetB (.bool true) w) := by
  by_cases hl0 : 1048576 < n0
  · have hg0 : (1048576 : Int) < (n0 : Int) := by omega
    clear hb0 hb1 hT
    go_enter Tryd.func8, Tryd.ntmps8
    go_wp2
    go_ret
    exact ⟨rfl, Below.refl _ _⟩
  have gn0 : ¬ (1048576 : Int) < (n0 : Int) := by omega
  by_cases hl1 : 1048576 < n1
  · have hg1 : (1048576 : Int) < (n1 : Int) := by omega
    clear hb0 hb1 hT
    go_enter Tryd.func8, Tryd.ntmps8
    go_wp2
    go_ret
    exact ⟨rfl, Below.refl _ _⟩
  have gn1 : ¬ (1048576 : Int) < (n1 : Int) := by omega
  exact fnSignalFar_in A0 n0 c0 A1 n1 c1 w (by omega) hb0.1 hb0.2.2 (by omega) hb1.1 hb1.2.2 hT

set_option maxRecDepth 100000 in
theorem fnSignalFar_lifted (os : Os) (started : os.Started) (H : Type) (enc : TypeId × Value → H) :
    ReturnsInHanded {} Tryd.checked os 8 .any (fun w args => (Rows.fnSignalFarSpec.pre enc Tryd.prog Tryd.f8 [] false w args ∧ laidMetH Tryd.prog Rows.fnSignalFarRow.laid w) ∧ sizedMet enc Tryd.prog Tryd.f8 (OpenSpec.ofChange Rows.fnSignalFarSpec) false w args)
      (Rows.fnSignalFarSpec.post enc Tryd.prog Tryd.f8 false true false false) := by
  refine handed_shaped started (by kernel_rfl) Tryd.func8
    (ChangeSpec.witness_shaped (enc := enc) (C := Tryd.checked) (os := os) (X := fun w _ => laidMetH Tryd.prog laidU w) false (doorW os) #[.slice none 0 0, .slice none 0 0] 8 (doorW_os os) (door_shaped os _) (by kernel_rfl) (by kernel_rfl) (by kernel_rfl) (door_laid os _)) ?_
  intro W base args ds gs before hval0 hW hT
  have hval : ∀ (j : Nat) t v, Tryd.f8.params[j]? = some t → args[j]? = some v → Value.okWide Tryd.prog W .any base t v := hval0
  have hW' := hW
  obtain ⟨p, q, hA0, hV, rfl, _, _⟩ := hW
  have hA : DataW.TrodAll enc Tryd.prog W 0 (fun _ => true) true Tryd.f8.params.toList args.toList ds p := hA0
  rw [Tryd.params8] at hA hval
  obtain ⟨v0, vs0, d0, ds0, p0, q0, hargs, rfl, rfl, h0, r0⟩ := trodAll_cons hA
  obtain ⟨v1, vs1, d1, ds1, p1, q1, rfl, rfl, rfl, h1, r1⟩ := trodAll_cons r0
  obtain ⟨rfl, rfl, rfl⟩ := trodAll_nil r1
  obtain rfl : args = #[v0, v1] := by cases args; simp_all
  obtain ⟨rfl, rfl⟩ := trodVars_none hV
  have hlt0 : ∀ x ∈ p0, x.block < W.heap.size := fun x hx => by exact hW'.lt x (by simp [hx])
  obtain ⟨A0, n0, c0, rfl, hb0⟩ := open_bytes (hval 0 22 v0 rfl rfl) h0 hlt0
  have hlt1 : ∀ x ∈ p1, x.block < W.heap.size := fun x hx => by exact hW'.lt x (by simp [hx])
  obtain ⟨A1, n1, c1, rfl, hb1⟩ := open_bytes (hval 1 22 v1 rfl rfl) h1 hlt1
  clear hA0 hval0
  refine (fnSignalFar_walk A0 n0 c0 A1 n1 c1 W hb0 hb1 hT).mono fun e W' ⟨he, hb⟩ => ?_
  subst he
  exact ⟨_, rfl, _, _, _, [], _, [], hW', (trodAll_cons_mk (shut_bool Tryd.underlying4 _) trodAll_mk0), (trodAll_cons_mk (read_again_bytes h0 hlt0 hb) (trodAll_cons_mk (read_again_bytes h1 hlt1 hb) trodAll_mk0)), rfl, hb.frame _, fun h => by cases h⟩

set_option maxRecDepth 100000 in
theorem fnSignalFar_closed : joinedFacts Tryd.prog 8 Tryd.f8 Rows.fnSignalFarSpec Rows.fnSignalFarRow = true := by
  unfold joinedFacts
  repeat' (with_reducible apply facAnd)
  all_goals first | (with_reducible exact facEnter) | (with_reducible exact facLaid) | (with_reducible exact facMaps) | (with_reducible exact facStops) | (with_reducible exact facKnobs) | (with_reducible exact facHeard) | (rw [facLifts]; as_aux_lemma => kernel_rfl) | (rw [facMake]; as_aux_lemma => kernel_rfl) | (as_aux_lemma => kernel_rfl)

/-- the bare row -/
theorem fnSignalFar_row : Rows.FnSignalFarSaid :=
  OpenClaim.holds_of_wide 8 Tryd.f8 rfl rfl rfl rfl rfl rfl rfl ⟨rfl, rfl, rfl, rfl, rfl⟩ rfl rfl rfl rfl rfl (by kernel_rfl) Tryd.func8 fnSignalFar_closed
    (of_decide_eq_true (by kernel_rfl)) (by unfold Func.isWrapper; first | (rw [if_pos (by decide +kernel)]; kernel_rfl) | (rw [if_neg (by decide +kernel)]; exact ⟨rfl, rfl⟩))
    (fun os started H enc _ => fnSignalFar_lifted os started H enc)

/-- THE STATEMENT: the card -/
theorem fnSignalFar_holds : Rows.FnSignalFarCardSaid :=
  Claim7.holds_tied_plain_at .later [] [.data, .pinned] true Rows.fnSignalFarCard.stood.harness false
    fnSignalFar_row (fun _ h => by cases h) (by kernel_rfl) (fun _ h => by cases h) fnSignalFar_row_tie rfl ⟨rfl, rfl⟩ door_main rfl
    (fun f fn hf hfn => by
      obtain rfl : f = 8 := Option.some.inj ((show Tryd.prog.funcNamed Rows.fnSignalFarRow.func = some 8 by kernel_rfl).symm.trans hf) |>.symm
      obtain rfl : fn = Tryd.f8 := (Option.some.inj (Tryd.func8.symm.trans hfn)).symm
      exact ⟨door_looks, fun j t ht => by
        rw [Tryd.params8] at ht
        have hm : t ∈ [22, 22] := by simpa using Array.mem_of_getElem? ht
        have hall : ([22, 22].all fun u => !Tryd.prog.wantsStandIn u) = true := by kernel_rfl
        exact (show Tryd.prog.wantsStandIn t = false by simpa using List.all_eq_true.1 hall t hm)⟩)
    (by kernel_rfl)
#print axioms fnSignalFar_holds
end Go.Proofs.YtgnolhikphoagaaDoor
