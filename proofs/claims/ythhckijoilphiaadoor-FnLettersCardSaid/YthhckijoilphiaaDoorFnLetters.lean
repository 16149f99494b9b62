/-
  The law FnLetters: for every code the law answers true. No condition but the tie of the card.
-/
import Derived.Test.YthhckijoilphiaaDoorRowB
import Derived.Test.YthhckijoilphiaaDoorRow
import Derived.ChangeMaps5
import Derived.Test.YthhckijoilphiaaDoorDoorV
import Derived.Test.YthhckijoilphiaaDoorTie
import Derived.Test.YthhckijoilphiaaDoorFacD
import Derived.Test.YthhckijoilphiaaDoorSDraw
import Derived.Test.YthhckijoilphiaaDoorSgK
import Derived.Test.YthhckijoilphiaaDoorSlS
import Derived.Test.YthhckijoilphiaaDoorSlI
import Derived.Test.YthhckijoilphiaaDoorReI
namespace Go.Proofs.YthhckijoilphiaaDoor
open Go.ChangeShapes Go.WideShapes Go.ChangeAt Go.RowKit Go.ChangeMaps

theorem pul_text : ∀ m, m < 3 → (⟨#[45, 43, 48]⟩ : ByteArray).extract m (m + 1) = str [pulN m] := by
  intro m hm
  rcases (show m = 0 ∨ m = 1 ∨ m = 2 by omega) with rfl | rfl | rfl <;> rfl

set_option maxRecDepth 100000 in
set_option maxHeartbeats 4000000 in
theorem fnLetters_in (A : Option Addr) (n c : Nat) (w : World) (hl : n ≤ 1048576) (hnc : n ≤ c) (hb : Bytes w.heap.size w A n) (hT : Tab w) :
    Calls Tryd.prog 6 #[.slice A n c] w (RetB (.bool true) w) := by
  have Hb := Lib.hid hb
  have tz0 := hT.lt
  have HT := Lib.hid hT
  have gn : ¬ (1048576 : Int) < (n : Int) := by omega
  clear hb hT
  go_enter Tryd.func6, Tryd.ntmps6
  go_wp2_with fail
  refine (DrawSignalLetters_c A n c _ (by omega) hnc Hb.out).mono ?_
  rintro e w1 ⟨k, rfl, hk, hB⟩
  replace HT := Lib.hid (HT.out.go hB)
  have Bt := Lib.hid hB
  clear hB Hb
  have Himpl := Lib.hid (fun W => implSignalLetters_b (k : Int) W)
  have Hspec := Lib.hid (fun W => specSignalLetters_b (k : Int) W)
  have Hnext := Lib.hid (fun W => implSignalLetters_b ((k : Int) + 1) W)
  have q0 : IntKind.i64.wrap ((k : Int) + 1) = (k : Int) + 1 := IntWalk.i64_in _ (by omega)
  by_cases hin : 1 ≤ k ∧ k ≤ 16
  case neg =>
    have hv := letters_no (n := (k : Int)) (by omega)
    rw [hv] at Himpl Hspec
    clear hin
    go_wp2_with fail
    refine (Himpl.out _).mono ?_
    rintro e w2 ⟨rfl, rb2⟩
    replace Bt := Lib.hid (below_step Bt.out rb2)
    clear rb2
    go_wp2_with fail
    refine (Hspec.out _).mono ?_
    rintro e w3 ⟨rfl, rb3⟩
    replace Bt := Lib.hid (below_step Bt.out rb3)
    clear rb3
    go_wp2
    go_ret
    exact ⟨rfl, Bt.out⟩
  obtain ⟨hk1, hk2⟩ := hin
  have hv := letters_yes hk1 hk2
  have hm0 := mes_pos k (by omega) hk1
  have hmx := mes_le k (by omega)
  have hup : k < 16 → ¬ lettersV ((k : Int) + 1) < ((mesV k : Nat) : Int) := fun h => by
    have h1 := letters_yes (n := k + 1) (by omega) (by omega)
    rw [show (((k + 1 : Nat)) : Int) = (k : Int) + 1 by omega] at h1
    rw [h1]
    have := (mes_up k h hk1).1
    omega
  have Hcnt := Lib.hid (fun (h : k < 7) => cnt_mes k h hk1)
  rw [hv] at Himpl Hspec
  obtain ⟨M, hM⟩ : ∃ M, mesV k = M := ⟨_, rfl⟩
  obtain ⟨X, hX⟩ : ∃ X, lettersV ((k : Int) + 1) = X := ⟨_, rfl⟩
  rw [hX] at Hnext hup
  rw [hM] at Himpl Hspec hm0 hmx Hcnt hup
  clear hX hM hv
  have g1 : ¬ (M : Int) < 0 := by omega
  have g2 : ¬ (M : Int) < 1 := by omega
  have g3 : ((M : Int) != (M : Int)) = false := bne_self_eq_false _
  have g4 : ((M : Int) == (M : Int)) = true := beq_self_eq_true _
  go_wp2_with fail
  refine (Himpl.out _).mono ?_
  rintro e w2 ⟨rfl, rb2⟩
  replace HT := Lib.hid (HT.out.go rb2)
  replace Bt := Lib.hid (below_step Bt.out rb2)
  clear rb2
  go_wp2_with fail
  refine (Hspec.out _).mono ?_
  rintro e w3 ⟨rfl, rb3⟩
  replace HT := Lib.hid (HT.out.go rb3)
  replace Bt := Lib.hid (below_step Bt.out rb3)
  clear rb3
  go_wp2_with fail
  refine (Hnext.out _).mono ?_
  rintro e w4 ⟨rfl, rb4⟩
  replace HT := Lib.hid (HT.out.go rb4)
  replace Bt := Lib.hid (below_step Bt.out rb4)
  clear rb4 Himpl Hspec Hnext
  by_cases h6 : 6 < k
  · have g5 : (6 : Int) < (k : Int) := by omega
    have g5d : decide ((k : Int) > 6) = true := decide_eq_true g5
    by_cases h16 : k < 16
    · have g6 : (k : Int) < 16 := by omega
      have g7 := hup h16
      have g7d : decide (X < (M : Int)) = false := decide_eq_false (by omega)
      go_wp2
      go_ret
      exact ⟨rfl, Bt.out⟩
    · have g6 : ¬ (k : Int) < 16 := by omega
      have g6d : decide ((k : Int) < 16) = false := decide_eq_false g6
      go_wp2
      go_ret
      exact ⟨rfl, Bt.out⟩
  have g5 : ¬ (6 : Int) < (k : Int) := by omega
  have g5d : decide ((k : Int) > 6) = false := decide_eq_false g5
  have g6 : (k : Int) < 16 := by omega
  have g7 := hup (by omega)
  have g7d : decide (X < (M : Int)) = false := decide_eq_false (by omega)
  clear hup
  have hpk : 3 ^ k ≤ 729 := Nat.pow_le_pow_right (n := 3) (by omega) (show k ≤ 6 by omega)
  have hpj : ∀ j, j ≤ k → 3 ^ j ≤ 729 := fun j hj => Nat.pow_le_pow_right (n := 3) (by omega) (show j ≤ 6 by omega)
  go_wp2
  go_loop [7, 8] (fun a i => ∃ j : Nat, j ≤ k ∧ i = .int .i64 j ∧ a = .int .i64 ((3 ^ j : Nat) : Int)) (fun _ i => k - (intOf i).toNat)
  case atStart => exact ⟨0, Nat.zero_le _, rfl, rfl⟩
  case round =>
    obtain ⟨j, hj, rfl, rfl⟩ := hrel
    have hp := hpj j hj
    obtain ⟨a, ha⟩ : ∃ a, 3 ^ j = a := ⟨_, rfl⟩
    rw [ha] at hp
    rw [ha]
    obtain hlt | hge := Nat.lt_or_ge j k
    · have v1 : (j : Int) < (k : Int) := by omega
      have v2 : IntKind.i64.wrap (3 * (a : Int)) = 3 * (a : Int) := IntWalk.i64_in _ (by omega)
      have v3 : IntKind.i64.wrap ((j : Int) + 1) = (j : Int) + 1 := IntWalk.i64_in _ (by omega)
      have Ha := Lib.hid (show 3 ^ (j + 1) = 3 * a by rw [Nat.pow_succ, ha]; omega)
      clear ha
      go_wp2
      go_round
      case rel => exact ⟨j + 1, by omega, by go_num, by rw [Ha.out]; go_num⟩
      case measure => simp [intOf]; omega
    · obtain rfl : j = k := by omega
      have v1 : ¬ (j : Int) < (j : Int) := by omega
      clear hpj hpk
      have Ha := Lib.hid ha
      clear ha
      have Hc2 := Lib.hid (show cntM j a = M by rw [← Ha.out]; exact Hcnt.out (by omega))
      have ha7 : a ≤ 729 := hp
      go_wp2
      go_loopw [9, 10] (fun m t wr => ∃ S : Nat, S ≤ a ∧ t = .int .i64 S ∧ m = .int .i64 ((cntM j S : Nat) : Int) ∧ Tab wr ∧ Below w.heap.size w wr) (fun _ t _ => a - (intOf t).toNat)
      case atStart => exact ⟨0, Nat.zero_le _, rfl, rfl, HT.out, Bt.out⟩
      case round =>
        obtain ⟨S, hS, rfl, rfl, ht, hbk⟩ := hrel
        have Ht := Lib.hid ht
        have Hbk := Lib.hid hbk
        have hle := cntM_le j S
        clear ht hbk
        obtain hlt | hge := Nat.lt_or_ge S a
        · have hnx : cntM j (S + 1) = cntM j S + (if rdB (pulL j S) then 1 else 0) := rfl
          obtain ⟨m, hm⟩ : ∃ m, cntM j S = m := ⟨_, rfl⟩
          rw [hm] at hnx hle
          rw [hm]
          have Hnx := Lib.hid hnx
          clear hnx hm
          have u1 : (S : Int) < (a : Int) := by omega
          have u2 : IntKind.i64.wrap ((S : Int) + 1) = (S : Int) + 1 := IntWalk.i64_in _ (by omega)
          have u3 : IntKind.i64.wrap ((m : Int) + 1) = (m : Int) + 1 := IntWalk.i64_in _ (by omega)
          go_wp2
          go_loopw [11, 12, 13] (fun g r t w9 => ∃ i q : Nat, i ≤ j ∧ t = .int .i64 i ∧ r = .int .i64 ((S / 3 ^ i : Nat) : Int) ∧ g = .string (str (pulL i S)) ∧ w9 = wr.drewN q) (fun _ _ t _ => j - (intOf t).toNat)
          case atStart => exact ⟨0, 0, Nat.zero_le _, rfl, by simp, rfl, rfl⟩
          case round =>
            obtain ⟨i, q, hi, rfl, rfl, rfl, rfl⟩ := hrel
            obtain hij | hij := Nat.lt_or_ge i j
            · have hsn := pulL_snoc i S
              have hdv : S / 3 ^ (i + 1) = S / 3 ^ i / 3 := by rw [Nat.div_div_eq_div_mul, Nat.pow_succ]
              have hsz : (str (pulL i S)).size = i := by rw [str_size, pulL_len]
              have hrS : S / 3 ^ i ≤ 729 := by have := Nat.div_le_self S (3 ^ i); omega
              obtain ⟨r, hr⟩ : ∃ r, S / 3 ^ i = r := ⟨_, rfl⟩
              rw [hr] at hsn hdv hrS
              rw [hr]
              obtain ⟨d, hd⟩ : ∃ d, r % 3 = d := ⟨_, rfl⟩
              have hd3 : d < 3 := by rw [← hd]; exact Nat.mod_lt _ (by omega)
              rw [hd] at hsn
              have hst : str (pulL (i + 1) S) = str (pulL i S) ++ str [pulN d] := by rw [hsn, ← str_append]
              have hpt := pul_text d hd3
              obtain ⟨G, hG⟩ : ∃ G, str (pulL i S) = G := ⟨_, rfl⟩
              obtain ⟨D, hD⟩ : ∃ D, str [pulN d] = D := ⟨_, rfl⟩
              have hDz : D.size = 1 := by rw [← hD]; rfl
              rw [hG] at hst hsz
              rw [hD] at hst hpt
              rw [hG]
              have Hst := Lib.hid hst
              have Hdv := Lib.hid hdv
              clear hst hsn hdv hr hG hD
              have v1 : (i : Int) < (j : Int) := by omega
              have v2 : (r : Int).tmod 3 = (d : Int) := by rw [Int.tmod_eq_emod_of_nonneg (by omega), ← hd]; simp
              have v3 : (r : Int).tdiv 3 = ((r / 3 : Nat) : Int) := by rw [Int.tdiv_eq_ediv_of_nonneg (by omega)]; simp
              have v4 : IntKind.i64.wrap ((d : Int) + 1) = (d : Int) + 1 := IntWalk.i64_in _ (by omega)
              have v5 : IntKind.i64.wrap ((i : Int) + 1) = (i : Int) + 1 := IntWalk.i64_in _ (by omega)
              have v6 : IntKind.i64.wrap (d : Int) = (d : Int) := IntWalk.i64_in _ (by omega)
              have v7 : IntKind.i64.wrap ((r / 3 : Nat) : Int) = ((r / 3 : Nat) : Int) := IntWalk.i64_in _ (by omega)
              have s0 : (0 : Int) ≤ (d : Int) := by omega
              have s1 : (d : Int) ≤ (d : Int) + 1 := by omega
              have s2 : (d : Int) + 1 ≤ 3 := by omega
              have s3 : ((d : Int) + 1).toNat = d + 1 := by omega
              have c1 : (G.size : Int) ≤ 8388608 := by omega
              have c2 : (D.size : Int) ≤ 8388608 := by omega
              have c3 : ¬ 9223372036854775807 < G.size + D.size := by omega
              clear hd
              go_wp2
              repeat (go_quiet (fail); go_wp2)
              go_roundw
              case rel => exact ⟨i + 1, _, by omega, by go_num, by rw [Hdv.out]; first | rfl | go_num | simp, by rw [Hst.out], by first | exact World.drewN_drewN _ _ _ | rfl⟩
              case measure => simp [intOf]; omega
            · obtain rfl : i = j := by omega
              have v1 : ¬ (i : Int) < (i : Int) := by omega
              have hsz : (str (pulL i S)).size ≤ 1048576 := by rw [str_size, pulL_len]; omega
              have hRd := implSignalRead_b (str (pulL i S)) (wr.drewN q) hsz (Ht.out.drewN q)
              rw [by_str] at hRd
              obtain ⟨V, hV⟩ : ∃ V, str (rdV (pulL i S)) = V := ⟨_, rfl⟩
              obtain ⟨o, ho⟩ : ∃ o, rdB (pulL i S) = o := ⟨_, rfl⟩
              obtain ⟨G, hG⟩ : ∃ G, str (pulL i S) = G := ⟨_, rfl⟩
              rw [hV, ho, hG] at hRd
              rw [ho] at Hnx
              rw [hG]
              have HRd := Lib.hid hRd
              have Hbq := Lib.hid (below_drewN Hbk.out q)
              clear hRd hV ho hG hsz
              go_wp2_with fail
              refine HRd.out.mono ?_
              rintro e w9 ⟨rfl, rb9⟩
              have Ht9 := Lib.hid ((Ht.out.drewN q).go rb9)
              have Hb9 := Lib.hid (below_step Hbq.out rb9)
              clear rb9
              cases o
              all_goals
                go_wp2
                go_roundw
                case rel => exact ⟨S + 1, by omega, by go_num, by rw [Hnx.out]; go_num, Ht9.out, Hb9.out⟩
                case measure => simp [intOf]; omega
        · obtain rfl : S = a := by omega
          have u1 : ¬ (S : Int) < (S : Int) := by omega
          rw [Hc2.out]
          have g9 : ((M : Int) == (M : Int)) = true := beq_self_eq_true _
          go_wp2
          go_ret
          exact ⟨rfl, Hbk.out⟩

theorem fnLetters_walk (A0 : Option Addr) (n0 c0 : Nat) (w : World) (hb0 : Byt0 w A0 n0 c0) (hT : Tab w) :
    Calls Tryd.prog 6 #[.slice A0 n0 c0] w (RetB (.bool true) w) := by
  by_cases hl0 : 1048576 < n0
  · have hg0 : (1048576 : Int) < (n0 : Int) := by omega
    clear hb0 hT
    go_enter Tryd.func6, Tryd.ntmps6
    go_wp2
    go_ret
    exact ⟨rfl, Below.refl _ _⟩
  have gn0 : ¬ (1048576 : Int) < (n0 : Int) := by omega
  exact fnLetters_in A0 n0 c0 w (by omega) hb0.1 hb0.2.2 hT

set_option maxRecDepth 100000 in
theorem fnLetters_lifted (os : Os) (started : os.Started) (H : Type) (enc : TypeId × Value → H) :
    ReturnsInHanded {} Tryd.checked os 6 .any (fun w args => (Rows.fnLettersSpec.pre enc Tryd.prog Tryd.f6 [] false w args ∧ laidMetH Tryd.prog Rows.fnLettersRow.laid w) ∧ sizedMet enc Tryd.prog Tryd.f6 (OpenSpec.ofChange Rows.fnLettersSpec) false w args)
      (Rows.fnLettersSpec.post enc Tryd.prog Tryd.f6 false true false false) := by
  refine handed_shaped started (by kernel_rfl) Tryd.func6
    (ChangeSpec.witness_shaped (enc := enc) (C := Tryd.checked) (os := os) (X := fun w _ => laidMetH Tryd.prog laidU w) false (doorW os) #[.slice none 0 0] 8 (doorW_os os) (door_shaped os _) (by kernel_rfl) (by kernel_rfl) (by kernel_rfl) (door_laid os _)) ?_
  intro W base args ds gs before hval0 hW hT
  have hval : ∀ (j : Nat) t v, Tryd.f6.params[j]? = some t → args[j]? = some v → Value.okWide Tryd.prog W .any base t v := hval0
  have hW' := hW
  obtain ⟨p, q, hA0, hV, rfl, _, _⟩ := hW
  have hA : DataW.TrodAll enc Tryd.prog W 0 (fun _ => true) true Tryd.f6.params.toList args.toList ds p := hA0
  rw [Tryd.params6] at hA hval
  obtain ⟨v0, vs0, d0, ds0, p0, q0, hargs, rfl, rfl, h0, r0⟩ := trodAll_cons hA
  obtain ⟨rfl, rfl, rfl⟩ := trodAll_nil r0
  obtain rfl : args = #[v0] := by cases args; simp_all
  obtain ⟨rfl, rfl⟩ := trodVars_none hV
  have hlt0 : ∀ x ∈ p0, x.block < W.heap.size := fun x hx => by exact hW'.lt x (by simp [hx])
  obtain ⟨A0, n0, c0, rfl, hb0⟩ := open_bytes (hval 0 22 v0 rfl rfl) h0 hlt0
  clear hA0 hval0
  refine (fnLetters_walk A0 n0 c0 W hb0 hT).mono fun e W' ⟨he, hb⟩ => ?_
  subst he
  exact ⟨_, rfl, _, _, _, [], _, [], hW', (trodAll_cons_mk (shut_bool Tryd.underlying4 _) trodAll_mk0), (trodAll_cons_mk (read_again_bytes h0 hlt0 hb) trodAll_mk0), rfl, hb.frame _, fun h => by cases h⟩

set_option maxRecDepth 100000 in
theorem fnLetters_closed : joinedFacts Tryd.prog 6 Tryd.f6 Rows.fnLettersSpec Rows.fnLettersRow = true := by
  unfold joinedFacts
  repeat' (with_reducible apply facAnd)
  all_goals first | (with_reducible exact facEnter) | (with_reducible exact facLaid) | (with_reducible exact facMaps) | (with_reducible exact facStops) | (with_reducible exact facKnobs) | (with_reducible exact facHeard) | (rw [facLifts]; as_aux_lemma => kernel_rfl) | (rw [facMake]; as_aux_lemma => kernel_rfl) | (as_aux_lemma => kernel_rfl)

/-- the bare row -/
theorem fnLetters_row : Rows.FnLettersSaid :=
  OpenClaim.holds_of_wide 6 Tryd.f6 rfl rfl rfl rfl rfl rfl rfl ⟨rfl, rfl, rfl, rfl, rfl⟩ rfl rfl rfl rfl rfl (by kernel_rfl) Tryd.func6 fnLetters_closed
    (of_decide_eq_true (by kernel_rfl)) (by unfold Func.isWrapper; first | (rw [if_pos (by decide +kernel)]; kernel_rfl) | (rw [if_neg (by decide +kernel)]; exact ⟨rfl, rfl⟩))
    (fun os started H enc _ => fnLetters_lifted os started H enc)

/-- THE STATEMENT: the card -/
theorem fnLetters_holds : Rows.FnLettersCardSaid :=
  Claim7.holds_tied_plain_at .later [] [.data, .pinned] true Rows.fnLettersCard.stood.harness false
    fnLetters_row (fun _ h => by cases h) (by kernel_rfl) (fun _ h => by cases h) fnLetters_row_tie rfl ⟨rfl, rfl⟩ door_main rfl
    (fun f fn hf hfn => by
      obtain rfl : f = 6 := Option.some.inj ((show Tryd.prog.funcNamed Rows.fnLettersRow.func = some 6 by kernel_rfl).symm.trans hf) |>.symm
      obtain rfl : fn = Tryd.f6 := (Option.some.inj (Tryd.func6.symm.trans hfn)).symm
      exact ⟨door_looks, fun j t ht => by
        rw [Tryd.params6] at ht
        have hm : t ∈ [22] := by simpa using Array.mem_of_getElem? ht
        have hall : ([22].all fun u => !Tryd.prog.wantsStandIn u) = true := by kernel_rfl
        exact (show Tryd.prog.wantsStandIn t = false by simpa using List.all_eq_true.1 hall t hm)⟩)
    (by kernel_rfl)
#print axioms fnLetters_holds
end Go.Proofs.YthhckijoilphiaaDoor
