/-
  The law FnCutOf: for every code the law answers true. No condition.
-/
import Derived.Test.YtbnpglljloaclaaFac
import Derived.Test.YtbnpglljloaclaaRowB
import Derived.Test.YtbnpglljloaclaaNdC
import Derived.Test.YtbnpglljloaclaaTfXm
import Derived.Test.YtbnpglljloaclaaTfK
import Derived.Test.YtbnpglljloaclaaTfX
import Derived.Deep.AppendLies
import Derived.BigQuiet
namespace Go.Proofs.Ytbnpglljloaclaa
open Go.ChangeShapes Go.WideShapes Go.ChangeAt Go.RowKit

theorem comp_take {S : List Int} {k : Nat} (h : k < S.length) : ((compS S).take k).map (Value.int .i64) ++ [1 - sdAt S (k : Int)].map (Value.int .i64) = ((compS S).take (k + 1)).map (Value.int .i64) := by
  have hk : k < (compS S).length := by rw [comp_len]; exact h
  rw [← List.map_append, List.take_succ_eq_append_getElem hk, sd_nat h]
  congr 2
  simp [compS]
theorem ones_more (k : Nat) : (List.replicate k (1 : Int)).map (Value.int .i64) ++ [(1 : Int)].map (Value.int .i64) = (List.replicate (k + 1) (1 : Int)).map (Value.int .i64) := by
  rw [← List.map_append, List.replicate_succ']
theorem int_news (w : World) (y : Int) (t : TypeId) : ∀ j u, (([y].map (Value.int .i64)))[j]? = some u → (w.alloc (.cells #[.int .i64 y] t)).cell? ((⟨w.heap.size, 0, none⟩ : Addr).add j) = some u := argI_cells (arg_one w y t)

theorem own_ne {a b g1 g2 : Nat} (h : g1 ≠ g2) : (Value.slice (some ⟨g1, 0, none⟩) a b).ownBlock ≠ some g2 := fun e => h (by
  have e2 : some g1 = some g2 := e
  injection e2)
theorem own_or {a b g1 g2 g3 H : Nat} (h : (Value.slice (some ⟨g1, 0, none⟩) a b).ownBlock = some g3 ∨ g3 = H) (hne : g1 ≠ g2) (hH : g2 < H) : g3 ≠ g2 := by
  rcases h with h | h
  · have e2 : some g1 = some g3 := h
    injection e2 with e2
    omega
  · omega

set_option maxRecDepth 100000 in
set_option maxHeartbeats 8000000 in
theorem fnCutOf_in (A : Option Addr) (n c : Nat) (w : World) (hl : n ≤ 1048576) (hnc : n ≤ c) (hb : Bytes w.heap.size w A n) :
    Calls Try.prog 3 #[.slice A n c] w (RetB (.bool true) w) := by
  obtain ⟨i0, hi, hz0, hz1, hz2⟩ := info_parts intInf
  have Hb := Lib.hid hb
  clear hb
  go_enter Try.func3, Try.ntmps3
  go_wp2_with fail
  refine (DrawCutOf_c A n c _ (by omega) hnc Hb.out).mono ?_
  rintro e w1 ⟨m, B, d, zs, f, t, B2, d2, S, rfl, hm2, hm5, hzl, ⟨f0, f1⟩, ⟨t0, t1⟩, hSl, hA, hA2, hB⟩
  subst hSl
  have Ha := Lib.hid hA
  have Ha2 := Lib.hid hA2
  have Bt := Lib.hid hB
  clear hA hA2 hB Hb
  have Himpl := Lib.hid (fun W h1 h2 => implCutOf_b (S.length : Int) f t B B2 d d2 zs S W h1 h2)
  have Hspec := Lib.hid (fun W h1 h2 => specCutOf_b (S.length : Int) f t B B2 d d2 zs S W h1 h2)
  have Hcomp := Lib.hid (fun h => cut_comp (n := (S.length : Int)) (N := zs) (f := f) (t := t) (S := S) h)
  have Hmost := Lib.hid (fun h => most_cutV (n := (S.length : Int)) (N := zs) (f := f) (t := t) (S := S) h)
  have Hpos := Lib.hid (cutV_nonneg (n := (S.length : Int)) (N := zs) (f := f) (t := t) (S := S))
  obtain ⟨v, hv⟩ : ∃ v, cutV (S.length : Int) zs f t S = v := ⟨_, rfl⟩
  rw [hv] at Himpl Hspec Hcomp Hmost Hpos
  have nv : (v != v) = false := by simp
  have ne : (v == v) = true := by simp
  clear hv
  dsimp only
  go_wp2_with fail
  refine (Himpl.out _ Ha.out Ha2.out).mono ?_
  rintro e w2 ⟨rfl, rb2⟩
  replace Ha := Lib.hid (Ha.out.go rb2)
  replace Ha2 := Lib.hid (Ha2.out.go rb2)
  replace Bt := Lib.hid (below_step Bt.out rb2)
  clear rb2
  go_wp2_with fail
  refine (Hspec.out _ Ha.out Ha2.out).mono ?_
  rintro e w3 ⟨rfl, rb3⟩
  replace Ha := Lib.hid (Ha.out.go rb3)
  replace Ha2 := Lib.hid (Ha2.out.go rb3)
  replace Bt := Lib.hid (below_step Bt.out rb3)
  clear rb3
  by_cases h0 : v < 0
  · go_wp2
    go_ret
    exact ⟨rfl, Bt.out⟩
  obtain ⟨he, hs⟩ := Hpos.out.1 (by omega)
  obtain ⟨hnet, _, ⟨ht0, ht1⟩, hft⟩ := endB_true.1 he
  have h01 := (sideB_true.1 hs).2.1
  obtain ⟨fn, rfl⟩ : ∃ fn : Nat, f = (fn : Int) := ⟨f.toNat, by omega⟩
  obtain ⟨tn, rfl⟩ : ∃ tn : Nat, t = (tn : Int) := ⟨t.toNat, by omega⟩
  have Hall := Lib.hid (cut_all he)
  have Hnet := Lib.hid hnet
  have H01 := Lib.hid h01
  have hC := Hcomp.out (by omega)
  have hM := Hmost.out (by omega)
  have HC := Lib.hid hC
  clear he hs hnet h01 hft hC
  have htl : tn < S.length := by omega
  obtain ⟨M, hMd⟩ : ∃ M, mostV (S.length : Int) zs (fn : Int) (tn : Int) = M := ⟨_, rfl⟩
  rw [hMd] at hM
  have HMd := Lib.hid hMd
  clear hMd
  go_wp2
  go_loopw [10, 11, 12] (fun o1 o2 i wr => ∃ k g1 c1 g2 c2 : Nat, k ≤ S.length ∧ i = .int .i64 k ∧ o1 = .slice (some ⟨g1, 0, none⟩) k c1 ∧ o2 = .slice (some ⟨g2, 0, none⟩) k c2 ∧ g1 ≠ g2 ∧ wr.ownsRow w3.heap.size 3 1 (.slice (some ⟨g1, 0, none⟩) k c1) k (((compS S).take k).map (Value.int .i64)) ∧ wr.ownsRow w3.heap.size 3 1 (.slice (some ⟨g2, 0, none⟩) k c2) k ((List.replicate k (1 : Int)).map (Value.int .i64)) ∧ Below w3.heap.size w3 wr) (fun _ _ i _ => S.length - (intOf i).toNat)
  case atStart =>
    have h1 := own_none w3 3
    have h2 := own_none (w3.alloc (.cells #[] 3)) 3
    rw [World.size_alloc] at h2
    exact ⟨0, _, _, _, _, Nat.zero_le _, rfl, rfl, rfl, by simp, h1.alloc _, OwnsRow.more h2 (Nat.le_succ _), (below_none w3 _).alloc (by simp) _⟩
  case round =>
    obtain ⟨k, g1, c1, g2, c2, hk, rfl, rfl, rfl, hne, ho1, ho2, hbr⟩ := hrel
    have hw3 := hbr.size
    have l1 := (ho1.lt g1 rfl).2
    have l2 := (ho2.lt g2 rfl).2
    have b1 := (ho1.lt g1 rfl).1
    have b2 := (ho2.lt g2 rfl).1
    have Ho1 := Lib.hid ho1
    have Ho2 := Lib.hid ho2
    have Hbr := Lib.hid hbr
    clear ho1 ho2 hbr
    by_cases hlt : k < S.length
    · obtain ⟨b0, off0, rfl, hb0, hc0⟩ := sd_cell Ha2.out hlt
      have hc := below_cell Hbr.out hb0 hc0
      have hx01 := sd_01 H01.out (k : Int)
      have hct := comp_take hlt
      obtain ⟨x, hx⟩ : ∃ x, sdAt S (k : Int) = x := ⟨_, rfl⟩
      rw [hx] at hc hx01 hct
      have Hct := Lib.hid hct
      have q1 : IntKind.i64.wrap (1 - x) = 1 - x := IntWalk.i64_in _ (by omega)
      have g5 : (k : Int) < (S.length : Int) := by omega
      clear hx hct hc0
      go_wp2_with (first
        | (at_builtin; refine wpList_append_lies _ rfl (.tmp 55) (.tmp 61) 24 rfl w3.heap.size 3 i0 (.int .i64 0) 1 8 Try.underlying24 hi hz0 hz1 hz2 rfl (by decide) (.slice (some ⟨g1, 0, none⟩) k c1) k (((compS S).take k).map (Value.int .i64)) rfl (Ho1.out.alloc _) ⟨wr.heap.size, 0, none⟩ 1 1 ([1 - x].map (Value.int .i64)) rfl rfl (int_news wr (1 - x) _) (intsOne [1 - x]) (by omega) (by unfold maxLen; omega) (by omega) (by simp; omega) _ rfl ?_; intro g6 c6 w6 hown6 hg6 hor6 hlt6; rw [Hct.out] at hown6; have hne6 : g6 ≠ g2 := own_or hor6 hne (by simp; omega); have Ho6 := Lib.hid hown6; have hs6 := hg6.size; rw [World.size_alloc] at hs6; have Ho7 := Lib.hid ((Ho2.out.alloc (.cells #[.int .i64 (1 - x)] 3)).kept hg6 (.inr (own_ne (fun e => hne e.symm)))); have Hb6 := Lib.hid ((Hbr.out.alloc (by omega) (.cells #[.int .i64 (1 - x)] 3)).grown hg6 (by simp; omega) (fun r e => by have e2 : some g1 = some r := e; injection e2 with e2; omega)); clear hown6 hg6 hor6)
        | (at_builtin; refine wpList_append_lies _ rfl (.tmp 63) (.tmp 64) 24 rfl w3.heap.size 3 i0 (.int .i64 0) 1 8 Try.underlying24 hi hz0 hz1 hz2 rfl (by decide) (.slice (some ⟨g2, 0, none⟩) k c2) k ((List.replicate k (1 : Int)).map (Value.int .i64)) rfl (Ho7.out.alloc _) ⟨w6.heap.size, 0, none⟩ 1 1 ([(1 : Int)].map (Value.int .i64)) rfl rfl (int_news w6 1 _) (intsOne [1]) (by omega) (by unfold maxLen; omega) (by omega) (by simp; omega) _ rfl ?_; intro g8 c8 w8 hown8 hg8 hor8 hlt8; rw [ones_more] at hown8; have hne8 : g8 ≠ g6 := own_or hor8 (fun e => hne6 e.symm) (by simp; omega); have Ho8 := Lib.hid hown8; have Ho9 := Lib.hid ((Ho6.out.alloc (.cells #[.int .i64 1] 3)).kept hg8 (.inr (own_ne hne6))); have Hb8 := Lib.hid ((Hb6.out.alloc (by omega) (.cells #[.int .i64 1] 3)).grown hg8 (by simp; omega) (fun r e => by have e2 : some g2 = some r := e; injection e2 with e2; omega)); clear hown8 hg8 hor8))
      go_roundw
      case rel => exact ⟨k + 1, g6, c6, g8, c8, by omega, by go_num, rfl, rfl, fun e => hne8 e.symm, Ho9.out, Ho8.out, Hb8.out⟩
      case measure => simp [intOf]; omega
    · obtain rfl : k = S.length := by omega
      have ho1 := Ho1.out
      rw [List.take_of_length_le (by rw [comp_len]; exact Nat.le_refl _)] at ho1
      have hst := Ho2.out.stored tn (.int .i64 0)
      rw [← List.map_set] at hst
      obtain ⟨x2, hx2⟩ : ∃ x, wr.cell? ⟨g2, tn, none⟩ = some x := ⟨_, (Ho2.out.cellAt tn (by omega)).trans (List.getElem?_eq_getElem (by simp; omega))⟩
      have hf2 := Ho2.out.frozenAt tn
      have g6 : (tn : Int) < (S.length : Int) := by omega
      have ho4 := ho1.kept hst.2 (.inr (own_ne hne))
      have hb4 := Hbr.out.setCell (p := ⟨g2, tn, none⟩) b2 (.int .i64 0)
      have ha4 := Ha.out.go hb4
      have Harg1 := Lib.hid ((Ow.of_own (by rw [comp_len]; exact ho4) : Ow 3 w3.heap.size _ _ _ (compS S)))
      have Harg2 := Lib.hid ((Ow.of_own (by rw [allS_len]; exact hst.1) : Ow 3 w3.heap.size _ _ _ (allS S.length tn)))
      have Hb4 := Lib.hid hb4
      have Ha4 := Lib.hid ha4
      clear ho1 hst ho4 hb4 ha4 Ho1 Ho2 Hbr
      obtain ⟨W4, hW4⟩ : ∃ W4, wr.setCell ⟨g2, tn, none⟩ (.int .i64 0) = W4 := ⟨_, rfl⟩
      rw [hW4] at Harg1 Harg2 Hb4 Ha4
      have HW4 := Lib.hid hW4
      have hch := fun k hk => chT_bd (t := (tn : Int)) Hnet.out k hk
      have Hch := Lib.hid hch
      clear hW4 hch
      go_wp2
      rw [HW4.out]
      go_loop [13, 14] (fun s i => ∃ k : Nat, k ≤ zs.length ∧ i = .int .i64 k ∧ s = .int .i64 (chT zs (tn : Int) k)) (fun _ i => zs.length - (intOf i).toNat)
      case atStart => exact ⟨0, Nat.zero_le _, rfl, rfl⟩
      case round =>
        obtain ⟨k, hk2, rfl, rfl⟩ := hrel
        have hbd := Hch.out k hk2
        by_cases hlt2 : k < zs.length
        · obtain ⟨b3, off3, rfl, _, _, d0, d1, d2⟩ := Ha4.out.rd.at_ hlt2
          have hnt := netB_at Hnet.out hlt2
          have hs := (show chT zs (tn : Int) (k + 1) = chT zs (tn : Int) k + (if (linAt zs k).a = (tn : Int) ∨ (linAt zs k).b = (tn : Int) then (linAt zs k).c else 0) from rfl)
          obtain ⟨l, hll⟩ : ∃ l, linAt zs k = l := ⟨_, rfl⟩
          obtain ⟨T, hT⟩ : ∃ T, chT zs (tn : Int) k = T := ⟨_, rfl⟩
          rw [hll] at d0 d1 d2 hnt hs
          rw [hT] at hbd hs ⊢
          obtain ⟨p1, p2⟩ := hbd
          have p3 := hnt.2.1
          have p4 := hnt.2.2
          have p5 : T ≤ 90 := by omega
          have g7 : (k : Int) < (zs.length : Int) := by omega
          have Hs := Lib.hid hs
          clear hs hll hT hnt p2
          by_cases ea : l.a = (tn : Int)
          · have qa : (l.a == (tn : Int)) = true := by simpa using ea
            have N : Hid (chT zs (tn : Int) (k + 1) = T + l.c) := Lib.hid (by rw [Hs.out, if_pos (.inl ea)])
            clear ea
            go_wp2
            go_round
            case rel => exact ⟨k + 1, by omega, by go_num, by rw [N.out]⟩
            case measure => simp [intOf]; omega
          · have qa : (l.a == (tn : Int)) = false := by simpa using ea
            by_cases eb : l.b = (tn : Int)
            · have qb : (l.b == (tn : Int)) = true := by simpa using eb
              have N : Hid (chT zs (tn : Int) (k + 1) = T + l.c) := Lib.hid (by rw [Hs.out, if_pos (.inr eb)])
              clear ea eb
              go_wp2
              go_round
              case rel => exact ⟨k + 1, by omega, by go_num, by rw [N.out]⟩
              case measure => simp [intOf]; omega
            · have qb : (l.b == (tn : Int)) = false := by simpa using eb
              have N : Hid (chT zs (tn : Int) (k + 1) = T) := Lib.hid (by rw [Hs.out, if_neg (by rintro (h | h); exact ea h; exact eb h), Int.add_zero])
              clear ea eb
              go_wp2
              go_round
              case rel => exact ⟨k + 1, by omega, by go_num, by rw [N.out]⟩
              case measure => simp [intOf]; omega
        · obtain rfl : k = zs.length := by omega
          obtain ⟨X, hX⟩ : ∃ X, chT zs (tn : Int) zs.length = X := ⟨_, rfl⟩
          have hall := Hall.out
          rw [hX] at hall ⊢
          have nx : (X == X) = true := by simp
          have hcl := comp_len S
          have hal := allS_len S.length tn
          have hg1 := Harg1.out
          have hg2 := Harg2.out
          have a1 : Arg W4 (some ⟨g1, 0, none⟩) c1 (compS S) := by
            obtain ⟨A9, c9, e9, h91, h92, h93⟩ := hg1.form
            injection e9 with e1 e2 e3
            subst e1; subst e3
            exact ⟨by omega, h91, h92, h93.more (Nat.zero_le _) (Nat.le_refl _)⟩
          have a2 : Arg W4 (some ⟨g2, 0, none⟩) c2 (allS S.length tn) := by
            obtain ⟨A9, c9, e9, h91, h92, h93⟩ := hg2.form
            injection e9 with e1 e2 e3
            subst e1; subst e3
            exact ⟨by omega, h91, h92, h93.more (Nat.zero_le _) (Nat.le_refl _)⟩
          have call1 := implCutOf_b (S.length : Int) (tn : Int) (fn : Int) B (some ⟨g1, 0, none⟩) d c1 zs (compS S) W4 Ha4.out a1
          rw [hcl, HC.out] at call1
          have call2 := fun (W : World) (h1 : ArgL W B d zs) (h2 : Arg W (some ⟨g2, 0, none⟩) c2 (allS S.length tn)) => implCutOf_b (S.length : Int) (fn : Int) (tn : Int) B (some ⟨g2, 0, none⟩) d c2 zs (allS S.length tn) W h1 h2
          rw [hal, hall] at call2
          have call3 := fun (W : World) (h1 : ArgL W B d zs) => implTrafficMost_b (S.length : Int) B d zs (fn : Int) (tn : Int) W h1
          rw [HMd.out] at call3
          have C1 := Lib.hid call1
          have C2 := Lib.hid call2
          have C3 := Lib.hid call3
          have A2 := Lib.hid a2
          clear call1 call2 call3 a1 a2 hg1 hg2 hcl hal hall hX hbd
          have Hbt := Lib.hid (below_step Bt.out Hb4.out)
          go_wp2_with fail
          refine C1.out.mono ?_
          rintro e w5 ⟨rfl, rb5⟩
          have Ha5 := Lib.hid (Ha4.out.go rb5)
          have A25 := Lib.hid (A2.out.go rb5)
          have Hb5 := Lib.hid (below_step Hbt.out rb5)
          clear rb5
          go_wp2_with fail
          refine (C2.out _ Ha5.out A25.out).mono ?_
          rintro e w6 ⟨rfl, rb6⟩
          have Ha6 := Lib.hid (Ha5.out.go rb6)
          have Hb6 := Lib.hid (below_step Hb5.out rb6)
          clear rb6
          go_wp2_with fail
          refine (C3.out _ Ha6.out).mono ?_
          rintro e w7 ⟨rfl, rb7⟩
          have Hb7 := Lib.hid (below_step Hb6.out rb7)
          clear rb7
          go_wp2
          go_ret
          exact ⟨rfl, Hb7.out⟩

theorem fnCutOf_walk (A0 : Option Addr) (n0 c0 : Nat) (w : World) (hb0 : Byt0 w A0 n0 c0) :
    Calls Try.prog 3 #[.slice A0 n0 c0] w (RetB (.bool true) w) := by
  by_cases hl0 : 1048576 < n0
  · clear hb0
    go_enter Try.func3, Try.ntmps3
    go_wp2
    go_ret
    exact ⟨rfl, Below.refl _ _⟩
  exact fnCutOf_in A0 n0 c0 w (by omega) hb0.1 hb0.2.2

set_option maxRecDepth 100000 in
theorem fnCutOf_lifted (os : Os) (started : os.Started) (H : Type) (enc : TypeId × Value → H) :
    ReturnsInHanded {} Try.checked os 3 .any (Rows.fnCutOfSpec.pre6 enc Try.prog Try.f3 Rows.fnCutOfRow.domain false) (Rows.fnCutOfSpec.post enc Try.prog Try.f3 false true false false) := by
  refine returnsInHanded_of_change (C := Try.checked) row_own started (by kernel_rfl) Try.func3
    (ChangeSpec.witness6 (enc := enc) (C := Try.checked) false ⟨#[], #[.slice none 0 0], []⟩ 8 (by kernel_rfl) (by kernel_rfl) (by kernel_rfl) (by kernel_rfl)) ?_
  intro W base args ds gs before hval0 hW hcnd _
  have hval : ∀ (j : Nat) t v, Try.f3.params[j]? = some t → args[j]? = some v → Value.okWide Try.prog W .any base t v := hval0
  have hW' := hW
  obtain ⟨p, q, hA0, hV, rfl, _, _⟩ := hW
  have hA : DataW.TrodAll enc Try.prog W 0 (fun _ => true) true Try.f3.params.toList args.toList ds p := hA0
  rw [Try.params3] at hA hval
  obtain ⟨v0, vs0, d0, ds0, p0, q0, hargs, rfl, rfl, h0, r0⟩ := trodAll_cons hA
  obtain ⟨rfl, rfl, rfl⟩ := trodAll_nil r0
  obtain rfl : args = #[v0] := by cases args; simp_all
  obtain ⟨rfl, rfl⟩ := trodVars_none hV
  have hlt0 : ∀ x ∈ p0, x.block < W.heap.size := fun x hx => by exact hW'.lt x (by simp [hx])
  obtain ⟨A0, n0, c0, rfl, hb0⟩ := open_bytes (hval 0 22 v0 rfl rfl) h0 hlt0
  clear hA0 hval0
  refine (fnCutOf_walk A0 n0 c0 W hb0).mono fun e W' ⟨he, hb⟩ => ?_
  subst he
  exact ⟨_, rfl, _, _, _, [], _, [], hW', (trodAll_cons_mk (shut_bool Try.underlying4 _) trodAll_mk0), (trodAll_cons_mk (read_again_bytes h0 hlt0 hb) trodAll_mk0), rfl, hb.frame _, fun h => by cases h⟩

set_option maxRecDepth 100000 in
theorem fnCutOf_closed : joinedFacts Try.prog 3 Try.f3 Rows.fnCutOfSpec Rows.fnCutOfRow = true := by
  unfold joinedFacts
  repeat' (with_reducible apply facAnd)
  all_goals first | (with_reducible exact facEnter) | (with_reducible exact facLaid) | (with_reducible exact facMaps) | (with_reducible exact facStops) | (with_reducible exact facKnobs) | (with_reducible exact facHeard) | (rw [facLifts]; as_aux_lemma => kernel_rfl) | (rw [facMake]; as_aux_lemma => kernel_rfl) | (as_aux_lemma => kernel_rfl)

/-- THE STATEMENT -/
theorem fnCutOf_holds : Rows.FnCutOfSaid :=
  OpenClaim.holds_of_wide 3 Try.f3 rfl rfl rfl rfl rfl rfl rfl ⟨rfl, rfl, rfl, rfl, rfl⟩ rfl rfl rfl rfl rfl (by kernel_rfl) Try.func3 fnCutOf_closed
    (of_decide_eq_true (by kernel_rfl)) (by unfold Func.isWrapper; first | (rw [if_pos (by decide +kernel)]; kernel_rfl) | (rw [if_neg (by decide +kernel)]; exact ⟨rfl, rfl⟩))
    (fun os started H enc _ => fnCutOf_lifted os started H enc)
#print axioms fnCutOf_holds
end Go.Proofs.Ytbnpglljloaclaa
