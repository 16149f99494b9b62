/-
  The law FnCableText: for all codes the law answers true. No condition.
-/
import Derived.Test.YtgidemhencbgdaaDoorTextD
import Derived.Test.YtgidemhencbgdaaDoorRowB
import Derived.Test.YtgidemhencbgdaaDoorTie
import Derived.Test.YtgidemhencbgdaaDoorCards
import Derived.LaidMore
import Derived.SevenTiedAt
import Derived.Stop.Joined
namespace Go.Proofs.YtgidemhencbgdaaDoor
open Go.ChangeShapes Go.WideShapes Go.ChangeAt Go.RowKit

theorem cab_take {ss : List Sec} (h : cabB ss = true) {k : Nat} (h1 : 1 ≤ k) : cabB (ss.take k) = true := by
  have hc := cabB_true.1 h
  refine cabB_true.2 ⟨by rw [List.length_take]; omega, fun s hs => hc.2 s (List.mem_of_mem_take hs)⟩
theorem cab_drop {ss : List Sec} (h : cabB ss = true) {k : Nat} (h1 : k < ss.length) : cabB (ss.drop k) = true := by
  have hc := cabB_true.1 h
  refine cabB_true.2 ⟨by rw [List.length_drop]; omega, fun s hs => hc.2 s (List.mem_of_mem_drop hs)⟩
theorem str_list (l : List UInt8) : (str l).toList = l := ByteArray.toList_mk l
theorem str_ne {l : List UInt8} (h : 1 ≤ l.length) : (str l).toList.isEmpty = false := by
  rw [str_list]
  cases l with
  | nil => simp at h
  | cons x r => rfl
theorem str_toList (l : List UInt8) : (str l).data.toList = l := by simp [str]
theorem text_parts {ss : List Sec} (h : cabB ss = true) {k : Nat} (h1 : 1 ≤ k) (h2 : k < ss.length) : str (textL (ss.take k)) ++ ⟨#[43]⟩ ++ str (textL (ss.drop k)) = str (textL ss) := by
  rw [textL_yes h, textL_yes (cab_take h h1), textL_yes (cab_drop h h2)]
  show str (txtL (ss.take k)) ++ str [43] ++ str (txtL (ss.drop k)) = str (txtL ss)
  rw [str_append, str_append, List.append_assoc]
  congr 1
  cases hd : ss.drop k with
  | nil =>
    have := congrArg List.length hd
    rw [List.length_drop, List.length_nil] at this
    omega
  | cons s r =>
    have e : ss = ss.take k ++ s :: r := by rw [← hd, List.take_append_drop]
    conv => rhs; rw [e]
    rw [txtL_split _ s r (by intro e; have := congrArg List.length e; rw [List.length_take, List.length_nil] at this; omega)]
    rfl

set_option maxHeartbeats 4000000 in
theorem fnCableText_in (A0 : Option Addr) (n0 c0 : Nat) (A1 : Option Addr) (n1 c1 : Nat) (w : World) (hl0 : n0 ≤ 1048576) (hnc0 : n0 ≤ c0) (hb0 : Bytes w.heap.size w A0 n0) (hl1 : n1 ≤ 1048576) (_hnc1 : n1 ≤ c1) (_hb1 : Bytes w.heap.size w A1 n1) :
    Calls Tryd.prog 3 #[.slice A0 n0 c0, .slice A1 n1 c1] w (RetB (.bool true) w) := by
  have Hb := Lib.hid hb0
  clear hb0 _hb1
  have u0 : decide ((1048576 : Int) < (n0 : Int)) = false := by simp; omega
  have u1 : decide ((1048576 : Int) < (n1 : Int)) = false := by simp; omega
  go_enter Tryd.func3, Tryd.ntmps3
  go_wp2_with fail
  refine (DrawCableText_c A0 n0 c0 _ (by omega) hnc0 Hb.out).mono ?_
  rintro e w1 ⟨B, d, ss, rfl, hzl, ha1, hb1⟩
  have Ha := Lib.hid ha1
  have Bt := Lib.hid hb1
  clear ha1 hb1 Hb
  go_wp2_with fail
  refine (implCableText_b B d ss _ Ha.out).mono ?_
  rintro e w2 ⟨rfl, rb2⟩
  replace Ha := Lib.hid (Ha.out.go rb2)
  replace Bt := Lib.hid (below_step Bt.out rb2)
  clear rb2
  go_wp2_with fail
  refine (specCableText_b B d ss _ Ha.out).mono ?_
  rintro e w3 ⟨rfl, rb3⟩
  replace Ha := Lib.hid (Ha.out.go rb3)
  replace Bt := Lib.hid (below_step Bt.out rb3)
  clear rb3
  obtain ⟨S, hS⟩ : ∃ S, str (textL ss) = S := ⟨_, rfl⟩
  cases hv : cabB ss
  · have e0 : S = ⟨#[]⟩ := by rw [← hS, textL_no hv]; rfl
    have q2 : S.toList.isEmpty = true := by rw [e0]; exact congrArg List.isEmpty (str_list [])
    rw [hS]
    have HS := Lib.hid hS
    clear hv hS e0
    go_wp2
    go_ret
    exact ⟨rfl, Bt.out⟩
  · have hlen := (cabB_true.1 hv).1
    obtain ⟨s, r, rfl⟩ : ∃ s r, ss = s :: r := by
      cases ss with
      | nil => simp at hlen
      | cons s r => exact ⟨s, r, rfl⟩
    obtain ⟨f0, f1, f2, f3, f4, f5⟩ := txtL_facts (cabB_true.1 hv).2
    rw [← textL_yes hv] at f0 f1 f2 f3 f4 f5
    have q2 : S.toList.isEmpty = false := by rw [← hS]; exact str_ne f0
    have hsz : S.size ≤ 1048576 := by rw [← hS, str_size]; omega
    have C1 := Lib.hid (fun w => show Calls Tryd.prog 8 #[.string S, .int .u8 43] w fun e w' => e = .returned (.int .i64 (r.length : Int)) ∧ w = w' by have := countOf_c S 43 w hsz; rw [← hS, str_toList, f2] at this; rw [← hS]; exact this)
    have C2 := Lib.hid (fun w => show Calls Tryd.prog 8 #[.string S, .int .u8 109] w fun e w' => e = .returned (.int .i64 ((r.length : Int) + 1)) ∧ w = w' by have := countOf_c S 109 w hsz; rw [← hS, str_toList, f3] at this; rw [← hS]; exact this)
    have C3 := Lib.hid (fun w => show Calls Tryd.prog 8 #[.string S, .int .u8 107] w fun e w' => e = .returned (.int .i64 ((r.length : Int) + 1)) ∧ w = w' by have := countOf_c S 107 w hsz; rw [← hS, str_toList, f4] at this; rw [← hS]; exact this)
    have C4 := Lib.hid (fun w => show Calls Tryd.prog 8 #[.string S, .int .u8 111] w fun e w' => e = .returned (.int .i64 ((r.length : Int) + 1)) ∧ w = w' by have := countOf_c S 111 w hsz; rw [← hS, str_toList, f5] at this; rw [← hS]; exact this)
    rw [hS]
    have HS := Lib.hid hS
    have Hv := Lib.hid hv
    have hr : r.length ≤ 7 := by simp only [List.length_cons] at hlen; omega
    obtain ⟨N, hN⟩ : ∃ N, r.length = N := ⟨_, rfl⟩
    rw [hN] at C1 C2 C3 C4 hr
    have hN1 : (s :: r).length = N + 1 := by rw [List.length_cons, hN]
    rw [hN1]
    have HN := Lib.hid hN
    have HN1 := Lib.hid hN1
    clear hS hv hlen f0 f1 f2 f3 f4 f5 hN hN1 hsz hzl
    have p0 : ((N : Int) != (N : Int) + 1 - 1) = false := by simp
    have p1 : ((N : Int) != (N : Int)) = false := by simp
    have p2 : ((N : Int) + 1 != (N : Int) + 1) = false := by simp
    by_cases h0 : N = 0
    · subst h0
      go_wp2_with fail
      refine (C1.out _).mono ?_
      rintro e w4 ⟨rfl, rfl⟩
      go_wp2_with fail
      refine (C2.out _).mono ?_
      rintro e w4 ⟨rfl, rfl⟩
      go_wp2_with fail
      refine (C3.out _).mono ?_
      rintro e w4 ⟨rfl, rfl⟩
      go_wp2_with fail
      refine (C4.out _).mono ?_
      rintro e w4 ⟨rfl, rfl⟩
      go_wp2
      go_ret
      exact ⟨rfl, Bt.out⟩
    · have p3 : ((N : Int) + 1 == 1) = false := by rw [beq_eq_false_iff_ne]; omega
      obtain ⟨k, hk⟩ : ∃ k : Nat, 1 + n1 % N = k := ⟨_, rfl⟩
      have hmod : n1 % N < N := Nat.mod_lt _ (by omega)
      have k1 : 1 ≤ k := by omega
      have k2 : k ≤ N := by omega
      have qk : wrap64 (1 + (n1 : Int) % (N : Int)) = (k : Int) := by
        rw [← Int.natCast_emod, show (1 : Int) + ((n1 % N : Nat) : Int) = (k : Int) by omega]
        exact IntWalk.wrap64_in _ (by omega)
      have hd := Ha.out.2.1
      rw [HN1.out] at hd
      obtain ⟨b, off, rfl, _, _, _⟩ := Ha.out.rd.at_ (k := 0) (by rw [HN1.out]; omega)
      have HK := Lib.hid (show KT w (some ⟨b, off, none⟩) d (s :: r) w3.drew from KT.drew ⟨Bt.out, Ha.out⟩)
      obtain ⟨dA, hdA⟩ : ∃ dA, str (textL ((s :: r).take k)) = dA := ⟨_, rfl⟩
      obtain ⟨dB, hdB⟩ : ∃ dB, str (textL ((s :: r).drop k)) = dB := ⟨_, rfl⟩
      have hparts := text_parts Hv.out (k := k) k1 (by rw [HN1.out]; omega)
      rw [hdA, hdB, HS.out] at hparts
      have hSz : S.size ≤ 1048576 := by rw [← HS.out, str_size, textL_yes Hv.out]; have := (txtL_facts (cabB_true.1 Hv.out).2).2.1; rw [HN1.out] at this; omega
      have hPz : dA.size + 1 + dB.size = S.size := by rw [← hparts, ByteArray.size_append, ByteArray.size_append]; rfl
      have z1 : (9223372036854775807 < dA.size + 1) = False := by rw [eq_iff_iff, iff_false]; omega
      have z2 : (9223372036854775807 < dA.size + 1 + dB.size) = False := by rw [eq_iff_iff, iff_false]; omega
      have z3 : ((dA ++ ⟨#[43]⟩ ++ dB).toList == S.toList) = true := by rw [hparts]; simp
      have lA : ((s :: r).take k).length = k := by rw [List.length_take, HN1.out]; omega
      have lB : ((s :: r).drop k).length = N + 1 - k := by rw [List.length_drop, HN1.out]
      have CA := Lib.hid (fun W' (h : KT w (some ⟨b, off, none⟩) d (s :: r) W') => (show Calls Tryd.prog 6 #[.slice (some ⟨b, off, none⟩) k d] W' fun e w'' => e = .returned (.string dA) ∧ Hid (KT w (some ⟨b, off, none⟩) d (s :: r) w'') by
        have := implCableText_b _ d _ W' (h.2.take k)
        rw [lA, hdA] at this
        exact this.mono fun e w'' ⟨he, hb⟩ => ⟨he, Lib.hid (h.go hb)⟩))
      have CB := Lib.hid (fun W' (h : KT w (some ⟨b, off, none⟩) d (s :: r) W') => (show Calls Tryd.prog 6 #[.slice (some ⟨b, off + k * 3, none⟩) (N + 1 - k) (d - k)] W' fun e w'' => e = .returned (.string dB) ∧ Hid (KT w (some ⟨b, off, none⟩) d (s :: r) w'') by
        have := implCableText_b _ (d - k) _ W' (h.2.drop k (by rw [HN1.out]; omega))
        rw [lB, hdB] at this
        exact this.mono fun e w'' ⟨he, hb⟩ => ⟨he, Lib.hid (h.go hb)⟩))
      clear hk hmod hdA hdB hparts hSz hPz lA lB Ha Bt
      have s0 : (0 : Int) ≤ (k : Int) := by omega
      have s1 : (k : Int) ≤ (d : Int) := by omega
      have s2 : (k : Int) ≤ (N : Int) + 1 := by omega
      have s3 : k < d := by omega
      have s4 : k ≤ N + 1 := by omega
      have s5 : ¬ d = k := by omega
      go_wp2_with fail
      refine (C1.out _).mono ?_
      rintro e w4 ⟨rfl, rfl⟩
      go_wp2_with fail
      refine (C2.out _).mono ?_
      rintro e w4 ⟨rfl, rfl⟩
      go_wp2_with fail
      refine (C3.out _).mono ?_
      rintro e w4 ⟨rfl, rfl⟩
      go_wp2_with fail
      refine (C4.out _).mono ?_
      rintro e w4 ⟨rfl, rfl⟩
      go_wp2
      go_region_held3 (fun w' => Hid (KT w (some ⟨b, off, none⟩) d (s :: r) w')) (first | exact HK | exact i1 | go_keep)
        (first
          | (go_at_call 6; ((with_reducible refine (CA.out _ ?_).mono ?_); (first | exact Hid.out (by assumption) | (simp [*])); rintro e w9 ⟨rfl, i1⟩))
          | (go_at_call 6; ((with_reducible refine (CB.out _ ?_).mono ?_); (first | exact Hid.out (by assumption) | (simp [*])); rintro e w9 ⟨rfl, i1⟩)))
      all_goals
        go_wp2
        go_ret
        exact ⟨rfl, (Hid.out (by assumption : Hid (KT w (some ⟨b, off, none⟩) d (s :: r) _))).1⟩

theorem fnCableText_walk (A0 : Option Addr) (n0 c0 : Nat) (A1 : Option Addr) (n1 c1 : Nat) (w : World) (hb0 : Byt0 w A0 n0 c0) (hb1 : Byt0 w A1 n1 c1) :
    Calls Tryd.prog 3 #[.slice A0 n0 c0, .slice A1 n1 c1] w (RetB (.bool true) w) := by
  by_cases hl0 : 1048576 < n0
  · clear hb0; clear hb1
    have u0 : decide ((1048576 : Int) < (n0 : Int)) = true := by simp; omega
    go_enter Tryd.func3, Tryd.ntmps3
    go_wp2
    go_ret
    exact ⟨rfl, Below.refl _ _⟩
  by_cases hl1 : 1048576 < n1
  · clear hb0; clear hb1
    have u0 : decide ((1048576 : Int) < (n0 : Int)) = false := by simp; omega
    have u1 : decide ((1048576 : Int) < (n1 : Int)) = true := by simp; omega
    go_enter Tryd.func3, Tryd.ntmps3
    go_wp2
    go_ret
    exact ⟨rfl, Below.refl _ _⟩
  exact fnCableText_in A0 n0 c0 A1 n1 c1 w (by omega) hb0.1 hb0.2.2 (by omega) hb1.1 hb1.2.2

set_option maxRecDepth 100000 in
theorem fnCableText_door (os : Os) (args : Array Value) : laidMetH Tryd.prog Rows.fnCableTextRow.laid ((World.doorLaid Tryd.prog 4000 os).forCall (fun _ _ => 0) ⟨#[], args, []⟩).memory :=
  laidMetH_of_parts3 (fuel := 8) (laidMet_of_run' 8 (by kernel_rfl) (by kernel_rfl)) (by kernel_rfl) (by kernel_rfl)

set_option maxRecDepth 100000 in
theorem fnCableText_lifted (os : Os) (started : os.Started) (H : Type) (enc : TypeId × Value → H) :
    ReturnsInHanded {} Tryd.checked os 3 .any (fun w args => (Rows.fnCableTextSpec.pre enc Tryd.prog Tryd.f3 [] false w args ∧ laidMetH Tryd.prog Rows.fnCableTextRow.laid w) ∧ sizedMet enc Tryd.prog Tryd.f3 (OpenSpec.ofChange Rows.fnCableTextSpec) false w args)
      (Rows.fnCableTextSpec.post enc Tryd.prog Tryd.f3 false true false false) := by
  refine returnsInHanded_of_change_and (C := Tryd.checked) (X := fun w _ => laidMetH Tryd.prog Rows.fnCableTextRow.laid w) (fun _ _ _ hh h => h.of_heap hh) row_own started (by kernel_rfl) Tryd.func3
    (ChangeSpec.witness_shaped (enc := enc) (C := Tryd.checked) (os := os) (X := fun w _ => laidMetH Tryd.prog Rows.fnCableTextRow.laid w) false (World.doorLaid Tryd.prog 4000 os) #[.slice none 0 0, .slice none 0 0] 8 rfl (World.shaped_of_RefB (by kernel_rfl) (by kernel_rfl)) (by kernel_rfl) (by kernel_rfl) (by kernel_rfl) (fnCableText_door os _)) ?_
  intro W base args ds gs before hval0 hW hcnd _ _ _
  have hval : ∀ (j : Nat) t v, Tryd.f3.params[j]? = some t → args[j]? = some v → Value.okWide Tryd.prog W .any base t v := hval0
  have hW' := hW
  obtain ⟨p, q, hA0, hV, rfl, _, _⟩ := hW
  have hA : DataW.TrodAll enc Tryd.prog W 0 (fun _ => true) true Tryd.f3.params.toList args.toList ds p := hA0
  rw [Tryd.params3] at hA hval
  obtain ⟨v0, vs0, d0, ds0, p0, q0, hargs, rfl, rfl, h0, r0⟩ := trodAll_cons hA
  obtain ⟨v1, vs1, d1, ds1, p1, q1, rfl, rfl, rfl, h1, r1⟩ := trodAll_cons r0
  obtain ⟨rfl, rfl, rfl⟩ := trodAll_nil r1
  obtain rfl : args = #[v0, v1] := by cases args; simp_all
  obtain ⟨rfl, rfl⟩ := trodVars_none hV
  have hlt0 : ∀ x ∈ p0, x.block < W.heap.size := fun x hx => by exact hW'.lt x (by simp [hx])
  obtain ⟨A0, n0, c0, rfl, hb0⟩ := open_bytes (hval 0 22 v0 rfl rfl) h0 hlt0
  have hlt1 : ∀ x ∈ p1, x.block < W.heap.size := fun x hx => by exact hW'.lt x (by simp [hx])
  obtain ⟨A1, n1, c1, rfl, hb1⟩ := open_bytes (hval 1 22 v1 rfl rfl) h1 hlt1
  clear hA0 hval0
  refine (fnCableText_walk A0 n0 c0 A1 n1 c1 W hb0 hb1).mono fun e W' ⟨he, hb⟩ => ?_
  subst he
  exact ⟨_, rfl, _, _, _, [], _, [], hW', (trodAll_cons_mk (shut_bool Tryd.underlying4 _) trodAll_mk0), (trodAll_cons_mk (read_again_bytes h0 hlt0 hb) (trodAll_cons_mk (read_again_bytes h1 hlt1 hb) trodAll_mk0)), rfl, hb.frame _, fun h => by cases h⟩

/-- the bare row -/
theorem fnCableText_row : Rows.FnCableTextSaid :=
  OpenClaim.holds_of_wide 3 Tryd.f3 rfl rfl rfl rfl rfl rfl rfl ⟨rfl, rfl, rfl, rfl, rfl⟩ rfl rfl rfl rfl rfl (by kernel_rfl) Tryd.func3 (by kernel_rfl)
    (of_decide_eq_true (by kernel_rfl)) (by unfold Func.isWrapper; first | (rw [if_pos (by decide +kernel)]; kernel_rfl) | (rw [if_neg (by decide +kernel)]; exact ⟨rfl, rfl⟩))
    (fun os started H enc _ => fnCableText_lifted os started H enc)


/-- THE STATEMENT: the card -/
theorem fnCableText_holds : Rows.FnCableTextCardSaid :=
  Claim7.holds_tied_plain_at .later [] [.data, .data, .data] true Rows.fnCableTextCard.stood.harness false
    fnCableText_row (fun _ h => by cases h) (by kernel_rfl) (fun _ h => by cases h) fnCableText_row_tie rfl ⟨rfl, rfl⟩ (by kernel_rfl) rfl
    (fun f fn hf hfn => by
      obtain rfl : f = 3 := Option.some.inj ((show Tryd.prog.funcNamed Rows.fnCableTextRow.func = some 3 by kernel_rfl).symm.trans hf) |>.symm
      obtain rfl : fn = Tryd.f3 := (Option.some.inj (Tryd.func3.symm.trans hfn)).symm
      exact ⟨by kernel_rfl, fun j t ht => by
        rw [Tryd.params3] at ht
        have hm : t ∈ [22, 22] := by simpa using Array.mem_of_getElem? ht
        have hall : ([22, 22].all fun u => !Tryd.prog.wantsStandIn u) = true := by kernel_rfl
        exact (show Tryd.prog.wantsStandIn t = false by simpa using List.all_eq_true.1 hall t hm)⟩)
    (by kernel_rfl)
#print axioms fnCableText_holds
end Go.Proofs.YtgidemhencbgdaaDoor
