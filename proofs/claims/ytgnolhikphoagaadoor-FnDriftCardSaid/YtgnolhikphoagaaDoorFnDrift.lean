/-
  The law FnDrift: for every code the law answers true. No condition but the tie of the card.
-/
import Derived.Test.YtgnolhikphoagaaDoorRowB
import Derived.Test.YtgnolhikphoagaaDoorRow
import Derived.ChangeMaps5
import Derived.Test.YtgnolhikphoagaaDoorDoorV
import Derived.Test.YtgnolhikphoagaaDoorTie
import Derived.Test.YtgnolhikphoagaaDoorFacD
import Derived.Test.YtgnolhikphoagaaDoorSDrawB
import Derived.Test.YtgnolhikphoagaaDoorSgQ
import Derived.Test.YtgnolhikphoagaaDoorSame
import Derived.Test.YtgnolhikphoagaaDoorDrS
import Derived.Test.YtgnolhikphoagaaDoorDrI
import Derived.Test.YtgnolhikphoagaaDoorBaI
namespace Go.Proofs.YtgnolhikphoagaaDoor
open Go.ChangeShapes Go.WideShapes Go.ChangeAt Go.RowKit Go.ChangeMaps

theorem dri_at {l : List UInt8} {k : Nat} (h : k < l.length) : (driT l l.length)[k]?.getD 0 = driV (l.take (k + 1)) := by
  unfold driT
  rw [List.getElem?_map, List.getElem?_range h]
  rfl
theorem dri_turn {l : List UInt8} (h : sigB l = true) {k : Nat} (hk : k < l.length) : (driT (l.map turnP) (l.map turnP).length)[k]?.getD 0 = -(driV (l.take (k + 1))) := by
  rw [dri_at (by rw [List.length_map]; exact hk), ← List.map_take]
  exact (turn_wide _ (List.all_eq_true.2 fun c hc => (sigB_true.1 h).2 c (List.mem_of_mem_take hc))).2.2
theorem dri_step {l : List UInt8} (h : sigB l = true) {k : Nat} (hk : k < l.length) : (l[k] = 48 ∧ driV (l.take (k + 1)) = driV (l.take k)) ∨ (l[k] = 43 ∧ driV (l.take (k + 1)) = driV (l.take k) + 1) ∨ (l[k] = 45 ∧ driV (l.take (k + 1)) = driV (l.take k) - 1) := by
  rw [List.take_succ_eq_append_getElem hk, driV_snoc, step_of]
  rcases pul_cases ((sigB_true.1 h).2 l[k] (List.getElem_mem hk)) with e | e | e <;> rw [e]
  · exact .inr (.inr ⟨rfl, by simp; omega⟩)
  · exact .inr (.inl ⟨rfl, by simp⟩)
  · exact .inl ⟨rfl, by simp⟩
theorem byL_k (s : ByteArray) {k : Nat} (h : k < s.size) : (byL s)[k]'(by rw [byL_len]; exact h) = s[k] :=
  Option.some.inj ((List.getElem?_eq_getElem _).symm.trans (byL_at s k h))
theorem sameInts_self (A B : Option Addr) (c d : Nat) (xs : List Int) (w : World) (ha1 : Arg w A c xs) (ha2 : Arg w B d xs) :
    Calls Tryd.prog 23 #[.slice A xs.length c, .slice B xs.length d] w (RetB (.bool true) w) :=
  (sameInts_c A B c d xs xs w ha1 ha2).mono fun e w' h => by
    have h2 := h.toB
    rw [decide_eq_true rfl] at h2
    exact h2

set_option maxRecDepth 100000 in
set_option maxHeartbeats 4000000 in
theorem fnDrift_in (A : Option Addr) (n c : Nat) (w : World) (hl : n ≤ 1048576) (hnc : n ≤ c) (hb : Bytes w.heap.size w A n) (hT : Tab w) :
    Calls Tryd.prog 5 #[.slice A n c] w (RetB (.bool true) w) := by
  have Hb := Lib.hid hb
  have tz0 := hT.lt
  have HT := Lib.hid hT
  have gn : ¬ (1048576 : Int) < (n : Int) := by omega
  clear hb hT
  go_enter Tryd.func5, Tryd.ntmps5
  go_wp2_with fail
  refine (DrawSignalDrift_c A n c _ (by omega) hnc Hb.out).mono ?_
  rintro e w1 ⟨s, rfl, zs, hB⟩
  replace HT := Lib.hid (HT.out.go hB)
  have Bt := Lib.hid hB
  clear hB Hb
  have Himpl := Lib.hid (fun W => implSignalDrift_b s W (by omega))
  have Hspec := Lib.hid (fun W => specSignalDrift_b s W (by omega))
  cases ho : sigB (byL s)
  · rw [ho, driL_no ho] at Himpl Hspec
    clear ho
    go_wp2_with fail
    refine (Himpl.out _).mono ?_
    rintro e w2 ⟨B, d, rfl, ra, ro, rb⟩
    dsimp only
    replace Bt := Lib.hid (below_step Bt.out rb)
    have Ha := Lib.hid ra
    clear ra ro rb
    go_wp2_with fail
    refine (Hspec.out _).mono ?_
    rintro e w3 ⟨B2, d2, rfl, rh, rb⟩
    dsimp only
    replace Bt := Lib.hid (below_step Bt.out rb)
    replace Ha := Lib.hid (Ha.out.go rb)
    have Hh := Lib.hid rh.arg
    clear rh rb
    go_wp2_with fail
    refine (sameInts_c B B2 d d2 [] [] _ Ha.out Hh.out).mono ?_
    rintro e w4 ⟨rfl, m4, rfl⟩
    go_wp2_with fail
    refine (sameInts_c B B2 d d2 [] [] _ (Ha.out.go (below_drewN (Below.refl _ _) _)) (Hh.out.go (below_drewN (Below.refl _ _) _))).mono ?_
    rintro e w5 ⟨rfl, m5, rfl⟩
    go_wp2
    go_ret
    exact ⟨rfl, below_drewN Bt.out _⟩
  have hat := fun k (hk : k < s.size) => dri_at (l := byL s) (k := k) (by rw [byL_len]; exact hk)
  have hbt := fun k (hk : k < s.size) => dri_turn ho (k := k) (by rw [byL_len]; exact hk)
  have hst := fun k (hk : k < s.size) => dri_step ho (k := k) (by rw [byL_len]; exact hk)
  have Hst := Lib.hid (fun k (hk : k < s.size) => (byL_k s hk) ▸ hst k hk)
  have hlz : (driT (byL s) (byL s).length).length = s.size := by rw [driT_len, byL_len]
  have hly : (driT ((byL s).map turnP) ((byL s).map turnP).length).length = s.size := by rw [driT_len, List.length_map, byL_len]
  have hle := fun k => driV_le ((byL s).take k)
  have Hbk := Lib.hid (fun W => implSignalBack_b s W (by omega))
  rw [ho, tuV_yes ho] at Hbk
  have Hdb := Lib.hid (fun W => implSignalDrift_b (str ((byL s).map turnP)) W (by rw [str_size, List.length_map, byL_len]; omega))
  rw [by_str, sig_turn ho, driL_yes (sig_turn ho)] at Hdb
  rw [ho, driL_yes ho] at Himpl Hspec
  obtain ⟨zs, hzs⟩ : ∃ x, driT (byL s) (byL s).length = x := ⟨_, rfl⟩
  obtain ⟨ys, hys⟩ : ∃ x, driT ((byL s).map turnP) ((byL s).map turnP).length = x := ⟨_, rfl⟩
  obtain ⟨U, hU⟩ : ∃ x, str ((byL s).map turnP) = x := ⟨_, rfl⟩
  rw [hU] at Hbk Hdb
  rw [hzs] at Himpl Hspec hlz
  rw [hys] at Hdb hly
  have Hat := Lib.hid (fun k hk => hzs ▸ hat k hk)
  have Hbt := Lib.hid (fun k hk => hys ▸ hbt k hk)
  have Hle := Lib.hid hle
  have Hlz := Lib.hid hlz
  have Hly := Lib.hid hly
  clear ho hat hbt hst hle hzs hys hU hlz hly
  go_wp2_with fail
  refine (Himpl.out _).mono ?_
  rintro e w2 ⟨B, d, rfl, ra, ro, rb⟩
  dsimp only
  replace HT := Lib.hid (HT.out.go rb)
  replace Bt := Lib.hid (below_step Bt.out rb)
  have Ha := Lib.hid ra
  clear ra ro rb
  go_wp2_with fail
  refine (Hspec.out _).mono ?_
  rintro e w3 ⟨B2, d2, rfl, rh, rb⟩
  dsimp only
  replace HT := Lib.hid (HT.out.go rb)
  replace Bt := Lib.hid (below_step Bt.out rb)
  replace Ha := Lib.hid (Ha.out.go rb)
  have Hh := Lib.hid rh.arg
  clear rh rb
  go_wp2_with fail
  refine (sameInts_self B B2 d d2 zs _ Ha.out Hh.out).mono ?_
  rintro e w4 ⟨rfl, rb⟩
  replace HT := Lib.hid (HT.out.go rb)
  replace Bt := Lib.hid (below_step Bt.out rb)
  replace Ha := Lib.hid (Ha.out.go rb)
  clear rb Hh
  go_wp2_with fail
  refine (Hbk.out _ HT.out).mono ?_
  rintro e w5 ⟨rfl, rb⟩
  replace HT := Lib.hid (HT.out.go rb)
  replace Bt := Lib.hid (below_step Bt.out rb)
  replace Ha := Lib.hid (Ha.out.go rb)
  clear rb
  go_wp2_with fail
  refine (Hdb.out _).mono ?_
  rintro e w9 ⟨B3, d3, rfl, rc, ro, rb⟩
  dsimp only
  replace Bt := Lib.hid (below_step Bt.out rb)
  replace Ha := Lib.hid (Ha.out.go rb)
  have Hc := Lib.hid rc
  clear rc ro rb
  have n0 : ((ys.length : Int) != (zs.length : Int)) = false := by rw [Hlz.out, Hly.out]; exact bne_self_eq_false _
  have n1 : ((zs.length : Int) == (s.size : Int)) = true := by rw [Hlz.out]; exact beq_self_eq_true _
  clear Himpl Hspec Hbk Hdb HT
  go_wp2
  go_loopw [12, 13] (fun last i wr => ∃ k q : Nat, k ≤ zs.length ∧ i = .int .i64 k ∧ last = .int .i64 (driV ((byL s).take k)) ∧ wr = w9.drewN q) (fun _ i _ => zs.length - (intOf i).toNat)
  case atStart => exact ⟨0, 0, Nat.zero_le _, rfl, by rw [List.take_zero, driV_nil], rfl⟩
  case round =>
    obtain ⟨k, q, hk, rfl, rfl, rfl⟩ := hrel
    by_cases hlt : k < zs.length
    · have hks : k < s.size := by have := Hlz.out; omega
      have hky : k < ys.length := by have := Hly.out; omega
      have hle := Hle.out k
      have hle2 := Hle.out (k + 1)
      rw [List.length_take, byL_len] at hle hle2
      obtain ⟨b, off, rfl, _, _, c1⟩ := Ha.out.rd.at_ hlt
      obtain ⟨b3, off3, rfl, _, _, c3⟩ := Hc.out.rd.at_ hky
      rw [Hat.out k hks] at c1
      rw [Hbt.out k hks] at c3
      have hst := Hst.out k hks
      obtain ⟨X, hX⟩ : ∃ x, driV ((byL s).take k) = x := ⟨_, rfl⟩
      obtain ⟨Z, hZ⟩ : ∃ x, driV ((byL s).take (k + 1)) = x := ⟨_, rfl⟩
      rw [hX] at hle hst
      rw [hZ] at hle2 hst c1 c3
      rw [hX]
      have HZ := Lib.hid hZ
      clear hX hZ
      obtain ⟨x, hx⟩ : ∃ x : UInt8, s[k]'hks = x := ⟨_, rfl⟩
      rw [hx] at hst
      have g1 : (k : Int) < (zs.length : Int) := by omega
      have g2 : (k : Int) < (s.size : Int) := by omega
      have g3 : (k : Int) < (ys.length : Int) := by omega
      have g4 : (0 : Int) ≤ (k : Int) := by omega
      have q1 : IntKind.i64.wrap ((k : Int) + 1) = (k : Int) + 1 := IntWalk.i64_in _ (by omega)
      have v1 : IntKind.i64.wrap (0 - Z) = -Z := by rw [Int.zero_sub]; exact IntWalk.i64_in _ (by omega)
      have v4 : IntKind.i64.wrap (-Z) = -Z := IntWalk.i64_in _ (by omega)
      have v2 : (-Z != -Z) = false := bne_self_eq_false _
      rcases hst with ⟨ex, ez⟩ | ⟨ex, ez⟩ | ⟨ex, ez⟩
      · have f1 : ((x.toNat : Int) == 48) = true := by rw [ex]; rfl
        have v3 : IntKind.i64.wrap (Z - X) = 0 := by rw [show Z - X = 0 by omega]; rfl
        clear ex ez
        go_wp2
        repeat (go_quiet (fail); go_wp2)
        go_roundw
        case rel => exact ⟨k + 1, _, by omega, by go_num, by rw [HZ.out], by first | exact World.drewN_drewN _ _ _ | rfl⟩
        case measure => simp [intOf]; omega
      · have f1 : ((x.toNat : Int) == 48) = false := by rw [ex]; rfl
        have v3 : IntKind.i64.wrap (Z - X) = 1 := by rw [show Z - X = 1 by omega]; rfl
        clear ex ez
        go_wp2
        repeat (go_quiet (fail); go_wp2)
        go_roundw
        case rel => exact ⟨k + 1, _, by omega, by go_num, by rw [HZ.out], by first | exact World.drewN_drewN _ _ _ | rfl⟩
        case measure => simp [intOf]; omega
      · have f1 : ((x.toNat : Int) == 48) = false := by rw [ex]; rfl
        have v3 : IntKind.i64.wrap (Z - X) = -1 := by rw [show Z - X = -1 by omega]; rfl
        clear ex ez
        go_wp2
        repeat (go_quiet (fail); go_wp2)
        go_roundw
        case rel => exact ⟨k + 1, _, by omega, by go_num, by rw [HZ.out], by first | exact World.drewN_drewN _ _ _ | rfl⟩
        case measure => simp [intOf]; omega
    · obtain rfl : k = zs.length := by omega
      have g1 : ¬ (zs.length : Int) < (zs.length : Int) := by omega
      go_wp2
      go_ret
      exact ⟨rfl, below_drewN Bt.out _⟩

theorem fnDrift_walk (A0 : Option Addr) (n0 c0 : Nat) (w : World) (hb0 : Byt0 w A0 n0 c0) (hT : Tab w) :
    Calls Tryd.prog 5 #[.slice A0 n0 c0] w (RetB (.bool true) w) := by
  by_cases hl0 : 1048576 < n0
  · have hg0 : (1048576 : Int) < (n0 : Int) := by omega
    clear hb0 hT
    go_enter Tryd.func5, Tryd.ntmps5
    go_wp2
    go_ret
    exact ⟨rfl, Below.refl _ _⟩
  have gn0 : ¬ (1048576 : Int) < (n0 : Int) := by omega
  exact fnDrift_in A0 n0 c0 w (by omega) hb0.1 hb0.2.2 hT

set_option maxRecDepth 100000 in
theorem fnDrift_lifted (os : Os) (started : os.Started) (H : Type) (enc : TypeId × Value → H) :
    ReturnsInHanded {} Tryd.checked os 5 .any (fun w args => (Rows.fnDriftSpec.pre enc Tryd.prog Tryd.f5 [] false w args ∧ laidMetH Tryd.prog Rows.fnDriftRow.laid w) ∧ sizedMet enc Tryd.prog Tryd.f5 (OpenSpec.ofChange Rows.fnDriftSpec) false w args)
      (Rows.fnDriftSpec.post enc Tryd.prog Tryd.f5 false true false false) := by
  refine handed_shaped started (by kernel_rfl) Tryd.func5
    (ChangeSpec.witness_shaped (enc := enc) (C := Tryd.checked) (os := os) (X := fun w _ => laidMetH Tryd.prog laidU w) false (doorW os) #[.slice none 0 0] 8 (doorW_os os) (door_shaped os _) (by kernel_rfl) (by kernel_rfl) (by kernel_rfl) (door_laid os _)) ?_
  intro W base args ds gs before hval0 hW hT
  have hval : ∀ (j : Nat) t v, Tryd.f5.params[j]? = some t → args[j]? = some v → Value.okWide Tryd.prog W .any base t v := hval0
  have hW' := hW
  obtain ⟨p, q, hA0, hV, rfl, _, _⟩ := hW
  have hA : DataW.TrodAll enc Tryd.prog W 0 (fun _ => true) true Tryd.f5.params.toList args.toList ds p := hA0
  rw [Tryd.params5] at hA hval
  obtain ⟨v0, vs0, d0, ds0, p0, q0, hargs, rfl, rfl, h0, r0⟩ := trodAll_cons hA
  obtain ⟨rfl, rfl, rfl⟩ := trodAll_nil r0
  obtain rfl : args = #[v0] := by cases args; simp_all
  obtain ⟨rfl, rfl⟩ := trodVars_none hV
  have hlt0 : ∀ x ∈ p0, x.block < W.heap.size := fun x hx => by exact hW'.lt x (by simp [hx])
  obtain ⟨A0, n0, c0, rfl, hb0⟩ := open_bytes (hval 0 22 v0 rfl rfl) h0 hlt0
  clear hA0 hval0
  refine (fnDrift_walk A0 n0 c0 W hb0 hT).mono fun e W' ⟨he, hb⟩ => ?_
  subst he
  exact ⟨_, rfl, _, _, _, [], _, [], hW', (trodAll_cons_mk (shut_bool Tryd.underlying4 _) trodAll_mk0), (trodAll_cons_mk (read_again_bytes h0 hlt0 hb) trodAll_mk0), rfl, hb.frame _, fun h => by cases h⟩

set_option maxRecDepth 100000 in
theorem fnDrift_closed : joinedFacts Tryd.prog 5 Tryd.f5 Rows.fnDriftSpec Rows.fnDriftRow = true := by
  unfold joinedFacts
  repeat' (with_reducible apply facAnd)
  all_goals first | (with_reducible exact facEnter) | (with_reducible exact facLaid) | (with_reducible exact facMaps) | (with_reducible exact facStops) | (with_reducible exact facKnobs) | (with_reducible exact facHeard) | (rw [facLifts]; as_aux_lemma => kernel_rfl) | (rw [facMake]; as_aux_lemma => kernel_rfl) | (as_aux_lemma => kernel_rfl)

/-- the bare row -/
theorem fnDrift_row : Rows.FnDriftSaid :=
  OpenClaim.holds_of_wide 5 Tryd.f5 rfl rfl rfl rfl rfl rfl rfl ⟨rfl, rfl, rfl, rfl, rfl⟩ rfl rfl rfl rfl rfl (by kernel_rfl) Tryd.func5 fnDrift_closed
    (of_decide_eq_true (by kernel_rfl)) (by unfold Func.isWrapper; first | (rw [if_pos (by decide +kernel)]; kernel_rfl) | (rw [if_neg (by decide +kernel)]; exact ⟨rfl, rfl⟩))
    (fun os started H enc _ => fnDrift_lifted os started H enc)

/-- THE STATEMENT: the card -/
theorem fnDrift_holds : Rows.FnDriftCardSaid :=
  Claim7.holds_tied_plain_at .later [] [.data, .pinned] true Rows.fnDriftCard.stood.harness false
    fnDrift_row (fun _ h => by cases h) (by kernel_rfl) (fun _ h => by cases h) fnDrift_row_tie rfl ⟨rfl, rfl⟩ door_main rfl
    (fun f fn hf hfn => by
      obtain rfl : f = 5 := Option.some.inj ((show Tryd.prog.funcNamed Rows.fnDriftRow.func = some 5 by kernel_rfl).symm.trans hf) |>.symm
      obtain rfl : fn = Tryd.f5 := (Option.some.inj (Tryd.func5.symm.trans hfn)).symm
      exact ⟨door_looks, fun j t ht => by
        rw [Tryd.params5] at ht
        have hm : t ∈ [22] := by simpa using Array.mem_of_getElem? ht
        have hall : ([22].all fun u => !Tryd.prog.wantsStandIn u) = true := by kernel_rfl
        exact (show Tryd.prog.wantsStandIn t = false by simpa using List.all_eq_true.1 hall t hm)⟩)
    (by kernel_rfl)
#print axioms fnDrift_holds
end Go.Proofs.YtgnolhikphoagaaDoor
