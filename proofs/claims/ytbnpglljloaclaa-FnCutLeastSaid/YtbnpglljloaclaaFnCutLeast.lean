/-
  The law FnCutLeast: for every code the law answers true. No condition.
-/
import Derived.Test.YtbnpglljloaclaaFac
import Derived.Test.YtbnpglljloaclaaRowB
import Derived.Test.YtbnpglljloaclaaSame
import Derived.Test.YtbnpglljloaclaaNdC
import Derived.Test.YtbnpglljloaclaaTfXm
import Derived.Test.YtbnpglljloaclaaTfJ
import Derived.Test.YtbnpglljloaclaaTfJs
import Derived.Test.YtbnpglljloaclaaTfX
import Derived.BigQuiet
namespace Go.Proofs.Ytbnpglljloaclaa
open Go.ChangeShapes Go.WideShapes Go.ChangeAt Go.RowKit

set_option maxRecDepth 100000 in
set_option maxHeartbeats 8000000 in
theorem fnCutLeast_in (A : Option Addr) (n c : Nat) (w : World) (hl : n ≤ 1048576) (hnc : n ≤ c) (hb : Bytes w.heap.size w A n) :
    Calls Try.prog 4 #[.slice A n c] w (RetB (.bool true) w) := by
  obtain ⟨i0, hi, hz0, hz1, hz2⟩ := info_parts intInf
  obtain ⟨j0, hj, hy0, hy1, hy2⟩ := info_parts linInf
  have Hb := Lib.hid hb
  clear hb
  go_enter Try.func4, Try.ntmps4
  go_wp2_with fail
  refine (DrawCutLeast_c A n c _ (by omega) hnc Hb.out).mono ?_
  rintro e w1 ⟨m, B, d, zs, f, t, rfl, hm2, hm5, hzl, ⟨f0, f1⟩, ⟨t0, t1⟩, hA, hB⟩
  have Ha := Lib.hid hA
  have Bt := Lib.hid hB
  clear hA hB Hb
  have Himpl := Lib.hid (fun W h => implCutLeast_b (m : Int) B d zs f t W h)
  have Hspec := Lib.hid (fun W h => specCutLeast_b (m : Int) B d zs f t W h)
  have Hside := Lib.hid (fun h => lcV_side (n := (m : Int)) (N := zs) (f := f) (t := t) h)
  have Hleast := Lib.hid (fun h X hX => lcV_le (n := (m : Int)) (N := zs) (f := f) (t := t) h (S := X) hX)
  obtain ⟨T, hT⟩ : ∃ T, lcV (m : Int) zs f t = T := ⟨_, rfl⟩
  rw [hT] at Himpl Hspec Hside Hleast
  clear hT
  dsimp only
  cases hv : endB (m : Int) zs f t
  · rw [hv] at Himpl Hspec
    clear hv Hside Hleast
    go_wp2_with fail
    refine (Himpl.out _ Ha.out).mono ?_
    rintro e w2 ⟨A7, c7, rfl, ra2, _, rb2⟩
    have Ra := Lib.hid ra2
    replace Ha := Lib.hid (Ha.out.go rb2)
    replace Bt := Lib.hid (below_step Bt.out rb2)
    clear ra2 rb2
    dsimp only
    go_wp2_with fail
    refine (Hspec.out _ Ha.out).mono ?_
    rintro e w3 ⟨A9, c9, rfl, ra3, _, rb3⟩
    have Rb := Lib.hid ra3
    replace Ra := Lib.hid (Ra.out.go rb3)
    replace Bt := Lib.hid (below_step Bt.out rb3)
    clear ra3 rb3
    dsimp only
    go_wp2_with fail
    refine (sameInts_c _ _ _ _ _ _ _ Ra.out Rb.out).mono ?_
    rintro e w4 ⟨rfl, q4, rfl⟩
    rw [decide_eq_true (rfl : T = T)]
    go_wp2_with fail
    refine (sameInts_c _ _ _ _ _ _ _ (Ra.out.go (below_drewN (Below.refl _ _) q4)) (Rb.out.go (below_drewN (Below.refl _ _) q4))).mono ?_
    rintro e w5 ⟨rfl, q5, rfl⟩
    rw [decide_eq_true (rfl : T = T)]
    go_wp2
    go_ret
    exact ⟨rfl, below_drewN Bt.out (q4 + q5)⟩
  rw [hv] at Himpl Hspec
  obtain ⟨hs, hpos⟩ := Hside.out hv
  have Hl := Lib.hid (fun X hX => Hleast.out hv X hX)
  have Hrest := Lib.hid (most_rest hpos)
  have Hnet := Lib.hid (endB_true.1 hv).1
  have h10 := (netB_true.1 Hnet.out).2.1
  obtain ⟨hTl, h01, _, _⟩ := sideB_true.1 hs
  have H01 := Lib.hid h01
  obtain ⟨l1, l2⟩ : T.length ≤ m ∧ m ≤ T.length := by omega
  clear hv Hside Hleast hs hTl h01
  go_wp2_with fail
  refine (Himpl.out _ Ha.out).mono ?_
  rintro e w2 ⟨A7, c7, rfl, ra2, _, rb2⟩
  have Ra := Lib.hid ra2
  replace Ha := Lib.hid (Ha.out.go rb2)
  replace Bt := Lib.hid (below_step Bt.out rb2)
  clear ra2 rb2
  dsimp only
  go_wp2_with fail
  refine (Hspec.out _ Ha.out).mono ?_
  rintro e w3 ⟨A9, c9, rfl, ra3, _, rb3⟩
  have Rb := Lib.hid ra3
  replace Ra := Lib.hid (Ra.out.go rb3)
  replace Ha := Lib.hid (Ha.out.go rb3)
  replace Bt := Lib.hid (below_step Bt.out rb3)
  clear ra3 rb3
  dsimp only
  go_wp2_with fail
  refine (sameInts_c _ _ _ _ _ _ _ Ra.out Rb.out).mono ?_
  rintro e w4 ⟨rfl, q4, hq4⟩
  have hb4 : Below w3.heap.size w3 w4 := by rw [hq4]; exact below_drewN (Below.refl _ _) q4
  replace Ra := Lib.hid (Ra.out.go hb4)
  replace Ha := Lib.hid (Ha.out.go hb4)
  replace Bt := Lib.hid (below_step Bt.out hb4)
  rw [decide_eq_true (rfl : T = T)]
  have Hcut := Lib.hid (implCutOf_b (m : Int) f t B A7 d c7 zs T w4 Ha.out Ra.out)
  obtain ⟨v, hvv⟩ : ∃ v, cutV (m : Int) zs f t T = v := ⟨_, rfl⟩
  rw [hvv] at Hcut Hl hpos
  clear hb4 hq4 Rb Himpl Hspec hvv
  go_wp2_with fail
  refine Hcut.out.mono ?_
  rintro e w5 ⟨rfl, rb5⟩
  replace Ra := Lib.hid (Ra.out.go rb5)
  replace Ha := Lib.hid (Ha.out.go rb5)
  replace Bt := Lib.hid (below_step Bt.out rb5)
  clear rb5 Hcut
  go_wp2
  go_loopw [12, 13] (fun o i wr => ∃ (k : Nat) (v : Value) (M : List Lin), k ≤ zs.length ∧ i = .int .i64 k ∧ v = o ∧ M = insTo zs T k ∧ wr.ownsRow w5.heap.size 29 3 v M.length (linCells M) ∧ Below w5.heap.size w5 wr) (fun _ i _ => zs.length - (intOf i).toNat)
  case atStart => exact ⟨0, _, [], Nat.zero_le _, rfl, rfl, rfl, ownL_none w5 _, belowL_none w5 _⟩
  case round =>
    obtain ⟨k, v9, M, hk, rfl, rfl, hM, hok, hbr⟩ := hrel
    have hMl : M.length ≤ k := by rw [hM]; exact rest_len _
    have HM := Lib.hid hM
    have Hok := Lib.hid hok
    have Hbr := Lib.hid hbr
    clear hM hok hbr
    by_cases hlt : k < zs.length
    · obtain ⟨b1, off1, rfl, _, hb1, hc0, hc1, hc2⟩ := Ha.out.rd.at_ hlt
      have hnt := netB_at Hnet.out hlt
      have hins := (show insTo zs T (k + 1) = if sdAt T (linAt zs k).a = sdAt T (linAt zs k).b then insTo zs T k ++ [linAt zs k] else insTo zs T k from rfl)
      obtain ⟨xa, hxa⟩ : ∃ xa : Nat, (linAt zs k).a = (xa : Int) := ⟨_, (Int.toNat_of_nonneg hnt.1.1.1).symm⟩
      obtain ⟨xb, hxb⟩ : ∃ xb : Nat, (linAt zs k).b = (xb : Int) := ⟨_, (Int.toNat_of_nonneg hnt.1.2.1.1).symm⟩
      rw [hxa, hxb] at hnt
      have hxaS : xa < T.length := by omega
      have hxbS : xb < T.length := by omega
      obtain ⟨b2, off2, rfl, hb2, da⟩ := sd_cell Ra.out hxaS
      obtain ⟨b', off', e', _, db⟩ := sd_cell Ra.out hxbS
      injection e' with e'
      injection e' with e1 e2 _
      subst e1; subst e2
      obtain ⟨l, hll⟩ : ∃ l, linAt zs k = l := ⟨_, rfl⟩
      rw [hll] at hc0 hc1 hc2 hins hxa hxb
      have c0 := below_cell Hbr.out hb1 hc0
      have c1 := below_cell Hbr.out hb1 hc1
      have c2 := below_cell Hbr.out hb1 hc2
      have ca := below_cell Hbr.out hb2 da
      have cb := below_cell Hbr.out hb2 db
      rw [hxa, hxb] at hins
      obtain ⟨va, hva⟩ : ∃ v, sdAt T (xa : Int) = v := ⟨_, rfl⟩
      obtain ⟨vb, hvb⟩ : ∃ v, sdAt T (xb : Int) = v := ⟨_, rfl⟩
      rw [hva] at ca hins
      rw [hvb] at cb hins
      rw [hxa] at c0
      rw [hxb] at c1
      have Hxa := Lib.hid hxa
      have Hxb := Lib.hid hxb
      have Hins := Lib.hid hins
      have Hcells := Lib.hid (And.intro c0 (And.intro c1 c2))
      have g3 : (k : Int) < (zs.length : Int) := by omega
      have g4 : (xa : Int) < (T.length : Int) := by omega
      have g5 : (xb : Int) < (T.length : Int) := by omega
      clear hva hvb hxa hxb hnt hll hins hc0 hc1 hc2 da db
      by_cases h1 : va = vb
      · have q1 : (va == vb) = true := by simp [h1]
        have q2 : (vb == va) = true := by simp [h1]
        have N : Hid (insTo zs T (k + 1) = insTo zs T k ++ [l]) := Lib.hid (by rw [Hins.out, if_pos h1])
        clear h1
        go_wp2
        go_quiet (fail)
        generalize hW1 : wr.drewN _ = wr1
        have hb6 : Below w5.heap.size w5 wr1 := by rw [← hW1]; exact below_drewN Hbr.out _
        have ho6 : wr1.ownsRow w5.heap.size 29 3 v9 M.length (linCells M) := by rw [← hW1]; exact Hok.out
        have c60 : wr1.cell? ⟨b1, off1 + k * 3, none⟩ = some (.int .i64 (xa : Int)) := by rw [← hW1]; exact Hcells.out.1
        have c61 : wr1.cell? ⟨b1, off1 + k * 3 + 1, none⟩ = some (.int .i64 (xb : Int)) := by rw [← hW1]; exact Hcells.out.2.1
        have c62 : wr1.cell? ⟨b1, off1 + k * 3 + 2, none⟩ = some (.int .i64 l.c) := by rw [← hW1]; exact Hcells.out.2.2
        have hs6 := hb6.size
        have Hb6 := Lib.hid hb6
        have Ho6 := Lib.hid ho6
        have hla : (⟨(xa : Int), (xb : Int), l.c⟩ : Lin) = l := by rw [← Hxa.out, ← Hxb.out]
        have Hla := Lib.hid hla
        clear hb6 ho6 hW1 hla
        go_wp2_with (at_builtin; refine wpList_append_own _ rfl _ _ 23 rfl w5.heap.size 29 j0 _ 3 24 Try.underlying23 hj hy0 hy1 hy2 rfl (by decide) v9 M.length _ rfl (Ho6.out.alloc _) ⟨wr1.heap.size, 0, none⟩ 1 1 (linCell ⟨(xa : Int), (xb : Int), l.c⟩) rfl rfl (linCell_new _ ⟨(xa : Int), (xb : Int), l.c⟩ _) (linCell_one _) (by unfold maxLen; omega) (by omega) (by simp; omega) ?_; intro v' w8 hown8 hg8 _)
        have hga : wr1.grownBy w8 v9.ownBlock := grown_then (grown_alloc (World.grownBy.refl wr1 _) _) hg8
        have Hb8 := Lib.hid (Hb6.out.grown hga hs6 (fun r e => (Ho6.out.lt r e).1))
        have Hown8 := Lib.hid hown8
        clear hga hg8 hown8
        go_roundw
        case rel => exact ⟨k + 1, v', M ++ [l], by omega, by go_num, rfl, by rw [N.out, HM.out], by rw [List.length_append, linCells_append, ← Hla.out]; exact Hown8.out, Hb8.out⟩
        case measure => simp [intOf]; omega
      · have q1 : (va == vb) = false := by simp [h1]
        have q2 : (vb == va) = false := by simpa using fun e => h1 e.symm
        have N : Hid (insTo zs T (k + 1) = insTo zs T k) := Lib.hid (by rw [Hins.out, if_neg h1])
        clear h1
        go_wp2
        go_quiet (fail)
        go_wp2
        go_roundw
        case rel => exact ⟨k + 1, v9, M, by omega, by go_num, rfl, by rw [N.out, HM.out], Hok.out, below_drewN Hbr.out _⟩
        case measure => simp [intOf]; omega
    · obtain rfl : k = zs.length := by omega
      have hof := OwL.of_own Hok.out
      obtain ⟨A8, c8, rfl, _, _, _⟩ := hof.form
      have Hm := Lib.hid (hof.arg (by omega) (Nat.le_refl _))
      have Ha6 := Lib.hid (Ha.out.go Hbr.out)
      have Ra6 := Lib.hid (Ra.out.go Hbr.out)
      have Bt6 := Lib.hid (below_step Bt.out Hbr.out)
      have hrest := Hrest.out
      rw [← HM.out] at hrest
      have HR := Lib.hid (fun (W : World) (h : ArgL W A8 c8 M) => (by have h2 := implTrafficMost_b (m : Int) A8 c8 M f t W h; rw [hrest] at h2; exact h2 : Calls Try.prog 21 #[.int .i64 (m : Int), .slice A8 M.length c8, .int .i64 f, .int .i64 t] W (RetB (.int .i64 0) W)))
      obtain ⟨W6, hW6⟩ : ∃ W6, wr = W6 := ⟨_, rfl⟩
      subst wr
      clear hof hrest Hok Hbr Ha Ra Bt HM Hrest
      go_wp2
      go_loopw [14] (fun i wr => ∃ k : Nat, k ≤ m ∧ i = .int .i64 k ∧ Below W6.heap.size W6 wr) (fun i _ => m - (intOf i).toNat)
      case atStart => exact ⟨0, Nat.zero_le _, rfl, Below.refl _ _⟩
      case round =>
        obtain ⟨k, hk2, rfl, hbr⟩ := hrel
        have Hbr := Lib.hid hbr
        have hwr := hbr.size
        clear hbr
        by_cases hlt2 : k < m
        · have hkT : k < T.length := by omega
          have Ra7 := Lib.hid (Ra6.out.go Hbr.out)
          obtain ⟨b0, off0, rfl, _⟩ := sd_cell Ra7.out hkT
          have hx01 := sd_01 H01.out (k : Int)
          have hsd := sd_nat hkT
          have g5 : (k : Int) < (T.length : Int) := by omega
          have g6 : (k : Int) < (m : Int) := by omega
          obtain ⟨x, hx⟩ : ∃ x, sdAt T (k : Int) = x := ⟨_, rfl⟩
          rw [hx] at hx01 hsd
          have q1 : IntKind.i64.wrap (1 - x) = 1 - x := IntWalk.i64_in _ (by omega)
          have Hsd := Lib.hid hsd
          clear hx hsd
          go_wp2_with (at_builtin; refine wpList_append_ints rfl (.tmp 106) (.tmp 107) 24 rfl wr.heap.size 3 i0 (.int .i64 0) Try.underlying24 hi hz0 hz1 hz2 rfl (.slice (some ⟨wr.heap.size, 0, none⟩) 0 0) [] rfl (own_none wr _) (some ⟨b0, off0, none⟩) _ T rfl (Ra7.out.go (below_none wr _)) (by simp; omega) (by simp) ?_; intro v1 w8 hown8 hg8; obtain ⟨ho8, hb8⟩ := next1 hown8 hg8; clear hown8 hg8; obtain ⟨g, cap, rfl, hcap⟩ := own_ptrR (k := T.length - 1) ho8 (by omega); have hgl := (ho8.lt g rfl).1; have hck := ho8.cellAt k (by omega); have hfk := ho8.frozenAt k; rw [List.getElem?_map, List.getElem?_eq_getElem hkT, Option.map_some, ← Hsd.out] at hck; have hst := ho8.stored k (.int .i64 (1 - x)); rw [← List.map_set] at hst; have Hst := Lib.hid hst; have Hb8 := Lib.hid hb8; clear hst hb8 ho8)
          obtain ⟨W9, hW9⟩ : ∃ W9, w8.setCell ⟨g, k, none⟩ (.int .i64 (1 - x)) = W9 := ⟨_, rfl⟩
          have hb9 : Below wr.heap.size wr W9 := by rw [← hW9]; exact Hb8.out.setCell (p := ⟨g, k, none⟩) hgl _
          have hst := Hst.out.1
          rw [hW9] at hst
          have how : Ow 3 wr.heap.size W9.heap.size W9 (.slice (some ⟨g, 0, none⟩) (T.set k (1 - x)).length cap) (T.set k (1 - x)) := Ow.of_own (by rw [List.length_set]; exact hst)
          have harg := how.arg (by rw [List.length_set]; omega) (Nat.le_refl _)
          have hcall := implCutOf_b (m : Int) f t B (some ⟨g, 0, none⟩) d cap zs (T.set k (1 - x)) W9 (Ha6.out.go (below_step Hbr.out hb9)) harg
          have hleast := Hl.out (T.set k (1 - x))
          obtain ⟨y, hy⟩ : ∃ y, cutV (m : Int) zs f t (T.set k (1 - x)) = y := ⟨_, rfl⟩
          rw [hy] at hcall hleast
          rw [List.length_set] at hcall
          have Hcall := Lib.hid hcall
          have Hb9 := Lib.hid (below_step Hbr.out hb9)
          clear hb9 hst how harg hcall hy Hst Hb8 hck hfk hgl
          rw [hW9]
          clear hW9
          go_wp2_with fail
          refine Hcall.out.mono ?_
          rintro e wA ⟨rfl, rbA⟩
          have HbA := Lib.hid (below_step Hb9.out rbA)
          clear rbA
          by_cases hy0 : 0 ≤ y
          · have hvy := hleast hy0
            have hnv : ¬ y < v := by omega
            clear hleast
            go_wp2
            go_roundw
            case rel => exact ⟨k + 1, by omega, by go_num, HbA.out⟩
            case measure => simp [intOf]; omega
          · clear hleast
            go_wp2
            go_roundw
            case rel => exact ⟨k + 1, by omega, by go_num, HbA.out⟩
            case measure => simp [intOf]; omega
        · obtain rfl : k = m := by omega
          go_wp2_with fail
          refine (HR.out _ (Hm.out.go Hbr.out)).mono ?_
          rintro e wB ⟨rfl, rbB⟩
          have HbB := Lib.hid (below_step (below_step Bt6.out Hbr.out) rbB)
          clear rbB
          go_wp2
          go_ret
          exact ⟨rfl, HbB.out⟩

theorem fnCutLeast_walk (A0 : Option Addr) (n0 c0 : Nat) (w : World) (hb0 : Byt0 w A0 n0 c0) :
    Calls Try.prog 4 #[.slice A0 n0 c0] w (RetB (.bool true) w) := by
  by_cases hl0 : 1048576 < n0
  · clear hb0
    go_enter Try.func4, Try.ntmps4
    go_wp2
    go_ret
    exact ⟨rfl, Below.refl _ _⟩
  exact fnCutLeast_in A0 n0 c0 w (by omega) hb0.1 hb0.2.2

set_option maxRecDepth 100000 in
theorem fnCutLeast_lifted (os : Os) (started : os.Started) (H : Type) (enc : TypeId × Value → H) :
    ReturnsInHanded {} Try.checked os 4 .any (Rows.fnCutLeastSpec.pre6 enc Try.prog Try.f4 Rows.fnCutLeastRow.domain false) (Rows.fnCutLeastSpec.post enc Try.prog Try.f4 false true false false) := by
  refine returnsInHanded_of_change (C := Try.checked) row_own started (by kernel_rfl) Try.func4
    (ChangeSpec.witness6 (enc := enc) (C := Try.checked) false ⟨#[], #[.slice none 0 0], []⟩ 8 (by kernel_rfl) (by kernel_rfl) (by kernel_rfl) (by kernel_rfl)) ?_
  intro W base args ds gs before hval0 hW hcnd _
  have hval : ∀ (j : Nat) t v, Try.f4.params[j]? = some t → args[j]? = some v → Value.okWide Try.prog W .any base t v := hval0
  have hW' := hW
  obtain ⟨p, q, hA0, hV, rfl, _, _⟩ := hW
  have hA : DataW.TrodAll enc Try.prog W 0 (fun _ => true) true Try.f4.params.toList args.toList ds p := hA0
  rw [Try.params4] at hA hval
  obtain ⟨v0, vs0, d0, ds0, p0, q0, hargs, rfl, rfl, h0, r0⟩ := trodAll_cons hA
  obtain ⟨rfl, rfl, rfl⟩ := trodAll_nil r0
  obtain rfl : args = #[v0] := by cases args; simp_all
  obtain ⟨rfl, rfl⟩ := trodVars_none hV
  have hlt0 : ∀ x ∈ p0, x.block < W.heap.size := fun x hx => by exact hW'.lt x (by simp [hx])
  obtain ⟨A0, n0, c0, rfl, hb0⟩ := open_bytes (hval 0 22 v0 rfl rfl) h0 hlt0
  clear hA0 hval0
  refine (fnCutLeast_walk A0 n0 c0 W hb0).mono fun e W' ⟨he, hb⟩ => ?_
  subst he
  exact ⟨_, rfl, _, _, _, [], _, [], hW', (trodAll_cons_mk (shut_bool Try.underlying4 _) trodAll_mk0), (trodAll_cons_mk (read_again_bytes h0 hlt0 hb) trodAll_mk0), rfl, hb.frame _, fun h => by cases h⟩

set_option maxRecDepth 100000 in
theorem fnCutLeast_closed : joinedFacts Try.prog 4 Try.f4 Rows.fnCutLeastSpec Rows.fnCutLeastRow = true := by
  unfold joinedFacts
  repeat' (with_reducible apply facAnd)
  all_goals first | (with_reducible exact facEnter) | (with_reducible exact facLaid) | (with_reducible exact facMaps) | (with_reducible exact facStops) | (with_reducible exact facKnobs) | (with_reducible exact facHeard) | (rw [facLifts]; as_aux_lemma => kernel_rfl) | (rw [facMake]; as_aux_lemma => kernel_rfl) | (as_aux_lemma => kernel_rfl)

/-- THE STATEMENT -/
theorem fnCutLeast_holds : Rows.FnCutLeastSaid :=
  OpenClaim.holds_of_wide 4 Try.f4 rfl rfl rfl rfl rfl rfl rfl ⟨rfl, rfl, rfl, rfl, rfl⟩ rfl rfl rfl rfl rfl (by kernel_rfl) Try.func4 fnCutLeast_closed
    (of_decide_eq_true (by kernel_rfl)) (by unfold Func.isWrapper; first | (rw [if_pos (by decide +kernel)]; kernel_rfl) | (rw [if_neg (by decide +kernel)]; exact ⟨rfl, rfl⟩))
    (fun os started H enc _ => fnCutLeast_lifted os started H enc)
#print axioms fnCutLeast_holds
end Go.Proofs.Ytbnpglljloaclaa
