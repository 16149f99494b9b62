/-
  The law FnServeMany: for every code the law answers true. No condition.
-/
import Derived.Test.YtkicifkigbciaaaFac
import Derived.Test.YtkicifkigbciaaaZDrawN
import Derived.Test.YtkicifkigbciaaaManM
import Derived.Test.YtkicifkigbciaaaSvMI
import Derived.Test.YtkicifkigbciaaaSvMS
import Derived.Test.YtkicifkigbciaaaSpTkS
import Derived.Test.YtkicifkigbciaaaRowB
import Derived.BigQuiet
namespace Go.Proofs.Ytkicifkigbciaaa
open Go.ChangeShapes Go.WideShapes Go.ChangeAt Go.RowKit

/-- append(own, spares...) as a step of a region that draws -/
theorem step_append_sprs {P : Program} {w : World} {ops : Array Oper} {o : Oper} {a : Act} {K : Act → World → Prop} {Q : Exit → Act → World → Prop} {E : Prop} (hgd : o.guard = none) (s x : Operand) (t : TypeId)
    (ho : o.op = .call { callee := .builtin .append, args := #[s, x], argTypes := #[t, t] })
    (base : Nat) (e : TypeId) (i : TypeInfo) (z : Value) (ht : P.underlying t = some (.slice e)) (hi : P.info? e = some i) (hz : i.zero = some z)
    (hsize : i.size = 2) (hby : i.bytes = 16) (hzs : z.cells.size = 2)
    (v : Value) (xs : List Spr) (hs : a.eval s = v) (hown : w.ownsRow base e 2 v xs.length (sprCells xs))
    (b off c : Nat) (ss : List Spr) (hx : a.eval x = .slice (some ⟨b, off, none⟩) ss.length c) (ha : ArgZ w (some ⟨b, off, none⟩) c ss)
    (h63 : xs.length + ss.length ≤ 8388608) (hbase : base ≤ w.heap.size)
    (h : ∀ v' w', w'.ownsRow base e 2 v' (xs ++ ss).length (sprCells (xs ++ ss)) → w.grownBy w' v.ownBlock → K (a.put o.dst v') w') :
    if Region.wanted o (yielded ops a.tmps) = true then Oper.wp P o a w K Q else E := by
  have hw : Region.wanted o (yielded ops a.tmps) = true := by simp [Region.wanted, hgd]
  rw [if_pos hw]
  rw [List.length_append, sprCells_append] at h
  obtain ⟨v', w', hr, h2, h3, _⟩ := run_append_own (P := P) w base t o.type e i z 2 16 ht hi hz hsize hby hzs (by omega) v xs.length (sprCells xs) hown ⟨b, off, none⟩ ss.length c (sprCells ss) (sprCells_length ss) (argZ_cells ha) (sprCells_oneCell ss) (by unfold maxLen; omega) (by omega) hbase
  unfold Oper.wp execOp
  simp only [ho, resolve, invoke, builtin, Sem.run_bind, Sem.run_pure, Result.andThen_ok, List.map_toArray, List.map_cons, List.map_nil, hs, hx, hr]
  exact h v' w' h2 h3
theorem many_card (L Nd : List Spr) : -1 ≤ manyZ L Nd ∧ manyZ L Nd ≤ 100000 := by
  unfold manyZ
  by_cases h : bothB L Nd = true
  · rw [if_pos h]
    have h1 := (sprB_true.1 (bothB_true.1 h).1).1
    have h2 := (sprB_true.1 (bothB_true.1 h).2).1
    have := fromS_card (L := L) (Nd := Nd) (r := []) h1 h2
    rw [allS_from]
    omega
  · rw [if_neg h]; omega

set_option maxRecDepth 100000 in
set_option maxHeartbeats 3000000 in
theorem fnServeMany_in (A : Option Addr) (n c : Nat) (w : World) (hl : n ≤ 1048576) (hnc : n ≤ c) (hb : Bytes w.heap.size w A n) :
    Calls Try.prog 5 #[.slice A n c] w (RetB (.bool true) w) := by
  obtain ⟨i0, hi, hz0, hz1, hz2⟩ := info_parts sprInfo
  have Hb := Lib.hid hb
  clear hb
  go_enter Try.func5, Try.ntmps5
  go_wp2_with fail
  refine (DrawServeMany_c A n c _ (by omega) hnc Hb.out).mono ?_
  rintro e w1 ⟨B, d, L, B2, d2, Nd, rfl, hzl, hnl, hA, hA2, hB⟩
  have Ha := Lib.hid hA
  have Ha2 := Lib.hid hA2
  have Bt := Lib.hid hB
  clear hA hA2 hB Hb
  have Himpl := Lib.hid (fun A c A2 d2 w h h2 => implServeMany_b A c L A2 d2 Nd w h h2)
  have Hspec := Lib.hid (fun A c A2 d2 w h h2 => specServeMany_b A c L A2 d2 Nd w h h2)
  obtain ⟨v, hv⟩ : ∃ v, manyZ L Nd = v := ⟨_, rfl⟩
  rw [hv] at Himpl Hspec
  have Hv := Lib.hid hv
  have nv : (v != v) = false := by simp
  have ne : (v == v) = true := by simp
  clear hv
  go_wp2_with fail
  refine (Himpl.out B d B2 d2 _ Ha.out Ha2.out).mono ?_
  rintro e w2 ⟨rfl, rb2⟩
  replace Ha := Lib.hid (Ha.out.go rb2)
  replace Ha2 := Lib.hid (Ha2.out.go rb2)
  replace Bt := Lib.hid (below_step Bt.out rb2)
  clear rb2
  go_wp2_with fail
  refine (Hspec.out B d B2 d2 _ Ha.out Ha2.out).mono ?_
  rintro e w3 ⟨rfl, rb3⟩
  replace Ha := Lib.hid (Ha.out.go rb3)
  replace Ha2 := Lib.hid (Ha2.out.go rb3)
  replace Bt := Lib.hid (below_step Bt.out rb3)
  clear rb3
  cases hBo : bothB L Nd
  · have hv1 : v = -1 := by rw [← Hv.out]; unfold manyZ; rw [hBo]; rfl
    subst hv1
    go_wp2
    go_ret
    exact ⟨rfl, Bt.out⟩
  have hv0 : 0 ≤ v := by rw [← Hv.out]; unfold manyZ; rw [hBo, if_pos rfl]; omega
  have hvn : ¬ v < 0 := by omega
  cases Nd with
  | nil =>
    have hv1 : v = 1 := by rw [← Hv.out]; exact many_none hBo
    subst hv1
    go_wp2
    go_ret
    exact ⟨rfl, Bt.out⟩
  | cons f N' =>
    have HBo := Lib.hid hBo
    have Hv1 := Lib.hid (show manyTo L (f :: N') L.length = v by rw [manyTo_all hBo, Hv.out])
    have hl10 := (sprB_true.1 (bothB_true.1 hBo).1).1
    have hnf : (f :: N').length = N'.length + 1 := rfl
    rw [hnf] at hnl
    obtain ⟨b2, o2, rfl, _, hbw2, f0, f1⟩ := Ha2.out.rd.at_ (k := 0) (by simp)
    clear hBo f0 f1
    rw [hnf]
    go_wp2
    go_loopw [7, 8] (fun sv kv wr => ∃ k : Nat, k ≤ L.length ∧ kv = .int .i64 k ∧ sv = .int .i64 (manyTo L (f :: N') k) ∧ Below w3.heap.size w3 wr) (fun _ kv _ => L.length - (intOf kv).toNat)
    case atStart => exact ⟨0, Nat.zero_le _, rfl, rfl, Below.refl _ _⟩
    case round =>
      obtain ⟨k, hk, rfl, rfl, hb⟩ := hrel
      have Hb := Lib.hid hb
      clear hb
      by_cases hlt : k < L.length
      · have hcd1 : 0 ≤ manyTo L (f :: N') k ∧ manyTo L (f :: N') k ≤ 100000 := by
          have := preS_card (L := L) (Nd := f :: N') (r := []) (k := k) hl10 (by rw [hnf]; omega) (by simp) (by omega)
          unfold manyTo; omega
        have hE := (show erL L k = L.take k ++ L.drop (k + 1) from rfl)
        have hEl := erL_length hlt
        have Hno := Lib.hid (fun h => manyTo_no (L := L) (Nd := N') (d := f) (k := k) h)
        have Hyes := Lib.hid (fun h => manyTo_yes (L := L) (Nd := N') (d := f) (k := k) HBo.out hlt h)
        have ha := Ha.out.go Hb.out
        have ha2 := Ha2.out.go Hb.out
        have hac := ha.2.1
        have ham := ha.2.2.1
        have had2 := ha2.2.1
        rw [hnf] at had2
        have had2m := ha2.2.2.1
        obtain ⟨b, off, rfl, _, hbw, c0, c1⟩ := ha.rd.at_ hlt
        obtain ⟨b9, o9, e9, _, _, f0, f1⟩ := ha2.rd.at_ (k := 0) (by simp)
        injection e9 with e9
        injection e9 with e91 e92 _
        subst e91; subst e92
        have hsf : sprAt (f :: N') 0 = f := rfl
        rw [hsf, Nat.zero_mul, Nat.add_zero] at f0 f1
        obtain ⟨q, hq⟩ : ∃ q, manyTo L (f :: N') k = q := ⟨_, rfl⟩
        rw [hq] at hcd1 Hno Hyes ⊢
        have hst := @srvB_true (sprAt L k) f
        have hst2 := fun h : ¬ ((sprAt L k).k = f.k ∧ f.m ≤ (sprAt L k).m) => (show srvB (sprAt L k) f = false from by cases e : srvB (sprAt L k) f; rfl; exact absurd (hst.1 e) h)
        obtain ⟨s, hs⟩ : ∃ s, sprAt L k = s := ⟨_, rfl⟩
        rw [hs] at c0 c1 hst hst2 Hno Hyes
        have HXt := Lib.hid (ha.take k)
        have HXd := Lib.hid (ha.drop (k + 1))
        have HNt := Lib.hid (show ArgZ wr (some ⟨b2, o2 + 2, none⟩) (d2 - 1) N' from by have := ha2.drop 1; simpa using this)
        obtain ⟨X1, hX1⟩ : ∃ X, X = L.take k := ⟨_, rfl⟩
        obtain ⟨X3, hX3⟩ : ∃ X, X = L.drop (k + 1) := ⟨_, rfl⟩
        have hx1 : X1.length = k := by rw [hX1]; simp; omega
        have hx3 : X3.length = L.length - (k + 1) := by rw [hX3]; simp
        rw [← hX1] at HXt
        rw [← hX3] at HXd
        rw [← hX1, ← hX3] at hE
        have HE := Lib.hid hE
        have HEl := Lib.hid hEl
        clear hE hEl
        have g1 : (k : Int) < (L.length : Int) := by omega
        have g2 : (k : Int) ≤ (d : Int) := by omega
        have g3 : k ≤ d := by omega
        have g4 : k + 1 ≤ d := by omega
        have g5 : (0 : Int) ≤ (k : Int) + 1 := by omega
        have g6 : (k : Int) + 1 ≤ (L.length : Int) := by omega
        have g7 : (k : Int) + 1 ≤ (d : Int) := by omega
        have g8 : IntKind.i64.wrap ((k : Int) + 1) = (k : Int) + 1 := IntWalk.i64_in _ (by omega)
        have g9 : ((k : Int) + 1).toNat = k + 1 := by omega
        have g10 : (k : Int) ≤ (k : Int) + 1 := by omega
        have Hq := Lib.hid hq
        clear ha ha2 hs hq hX1 hX3 hsf
        by_cases hkk : s.k = f.k
        · have hkb : (s.k == f.k) = true := by simp [hkk]
          by_cases hmm : f.m ≤ s.m
          · have Hm := Lib.hid (Hyes.out (hst.2 ⟨hkk, hmm⟩))
            clear hst hst2 hkk
            go_wp2
            go_quiet (fail)
            generalize hW1 : wr.drewN _ = wr1
            go_wp2
            by_cases hc : d = k + 1
            · subst hc
              have hX30 : X3 = [] := List.eq_nil_of_length_eq_zero (by omega)
              have HZ := Lib.hid (fun (W : World) (A : Option Addr) (c : Nat) (hc : c ≤ maxLen) => (show ArgZ W A c X3 by rw [hX30]; exact argZ_empty W A c hc))
              clear hX30
              refine wp_region_held_drew (S := (fun _ => True)) (by kernel_rfl) (trivial) (fun hHeld => ?_)
              generalize hwd : wr1.drew = wd
              have HX1 := Lib.hid (show ArgZ wd (some ⟨b, off, none⟩) (k + 1) X1 by rw [← hwd, ← hW1]; exact (HXt.out.go (below_drewN (Below.refl _ _) _)).go (below_drewN (Below.refl _ _) 1))
              have HX3 := Lib.hid (show ArgZ wd (some ⟨b, off + (k + 1) * 2, none⟩) ((k + 1) - (k + 1)) X3 by rw [← hwd, ← hW1]; exact (HXd.out.go (below_drewN (Below.refl _ _) _)).go (below_drewN (Below.refl _ _) 1))
              have HNd := Lib.hid (show ArgZ wd (some ⟨b2, o2 + 2, none⟩) (d2 - 1) N' by rw [← hwd, ← hW1]; exact (HNt.out.go (below_drewN (Below.refl _ _) _)).go (below_drewN (Below.refl _ _) 1))
              have Hbd := Lib.hid (show Below w3.heap.size w3 wd by rw [← hwd, ← hW1]; exact below_drewN (below_drewN Hb.out _) 1)
              clear hwd hW1
              refine wpAnyH_take (i := 1) (oi := { dst := some 68, op := _, type := _, pos := _, after := _, guard := _ }) (v := ?va0) rfl (by kernel_rfl) (by kernel_rfl) (by kernel_rfl) (fun _ _ _ h => h) (Or.inl ⟨by kernel_rfl, ?ya0⟩) (by assumption) ?ra0
              case ya0 => intro w hSw; (try dsimp only at hSw); go_simp; try with_reducible rfl
              try simp only [Act.put, List.setIfInBounds_toArray, List.set_cons_zero, List.set_cons_succ]
              refine wpAnyH_take (i := 2) (oi := { dst := some 69, op := _, type := _, pos := _, after := _, guard := _ }) (v := ?va1) rfl (by kernel_rfl) (by kernel_rfl) (by kernel_rfl) (fun _ _ _ h => h) (Or.inl ⟨by kernel_rfl, ?ya1⟩) (by assumption) ?ra1
              case ya1 => intro w hSw; (try dsimp only at hSw); go_simp; try with_reducible rfl
              try simp only [Act.put, List.setIfInBounds_toArray, List.set_cons_zero, List.set_cons_succ]
              refine wpAnyH_take (i := 3) (oi := { dst := some 70, op := _, type := _, pos := _, after := _, guard := _ }) (v := ?va2) rfl (by kernel_rfl) (by kernel_rfl) (by kernel_rfl) (fun _ _ _ h => h) (Or.inl ⟨by kernel_rfl, ?ya2⟩) (by assumption) ?ra2
              case ya2 => intro w hSw; (try dsimp only at hSw); go_simp; try with_reducible rfl
              try simp only [Act.put, List.setIfInBounds_toArray, List.set_cons_zero, List.set_cons_succ]
              refine wpAnyH_take (i := 5) (oi := { dst := some 72, op := _, type := _, pos := _, after := _, guard := _ }) (v := ?va3) rfl (by kernel_rfl) (by kernel_rfl) (by kernel_rfl) (fun _ _ _ h => h) (Or.inl ⟨by kernel_rfl, ?ya3⟩) (by assumption) ?ra3
              case ya3 => intro w hSw; (try dsimp only at hSw); go_simp; try with_reducible rfl
              try simp only [Act.put, List.setIfInBounds_toArray, List.set_cons_zero, List.set_cons_succ]
              refine wpAnyH_take (i := 6) (oi := { dst := some 73, op := _, type := _, pos := _, after := _, guard := _ }) (v := ?va4) rfl (by kernel_rfl) (by kernel_rfl) (by kernel_rfl) (fun _ _ _ h => h) (Or.inl ⟨by kernel_rfl, ?ya4⟩) (by assumption) ?ra4
              case ya4 => intro w hSw; (try dsimp only at hSw); go_simp; try with_reducible rfl
              try simp only [Act.put, List.setIfInBounds_toArray, List.set_cons_zero, List.set_cons_succ]
              refine wpAnyH_take (i := 7) (oi := { dst := some 74, op := _, type := _, pos := _, after := _, guard := _ }) (v := ?va5) rfl (by kernel_rfl) (by kernel_rfl) (by kernel_rfl) (fun _ _ _ h => h) (Or.inl ⟨by kernel_rfl, ?ya5⟩) (by assumption) ?ra5
              case ya5 => intro w hSw; (try dsimp only at hSw); go_simp; try with_reducible rfl
              try simp only [Act.put, List.setIfInBounds_toArray, List.set_cons_zero, List.set_cons_succ]
              refine wpAnyH_take (i := 8) (oi := { dst := some 75, op := _, type := _, pos := _, after := _, guard := _ }) (v := ?va6) rfl (by kernel_rfl) (by kernel_rfl) (by kernel_rfl) (fun _ _ _ h => h) (Or.inl ⟨by kernel_rfl, ?ya6⟩) (by assumption) ?ra6
              case ya6 => intro w hSw; (try dsimp only at hSw); go_simp; try with_reducible rfl
              try simp only [Act.put, List.setIfInBounds_toArray, List.set_cons_zero, List.set_cons_succ]
              refine wpAnyH_ready (rs := [0]) (by kernel_rfl) (by simp) ?_
              refine AllReadyH.cons (o := { dst := some 67, op := _, type := _, pos := _, after := _, guard := _ }) rfl (fun K hK => ?_) AllReadyH.nil
              go_simp
              refine hK.out _ _ (trivial) (fun hHeld2 => ?_)
              clear hK K
              try simp only [Act.put, List.setIfInBounds_toArray, List.set_cons_zero, List.set_cons_succ]
              refine wpAnyH_ready (rs := [4]) (by kernel_rfl) (by simp) ?_
              refine AllReadyH.cons (o := { dst := some 71, op := _, type := _, pos := _, after := _, guard := _ }) rfl (fun K hK => ?_) AllReadyH.nil
              refine step_append_sprs rfl (.tmp 67) (.tmp 70) 23 rfl wd.heap.size 25 i0 (.agg #[.int .i64 0, .int .i64 0]) Try.underlying23 hi hz0 hz1 hz2 rfl (.slice (some ⟨wd.heap.size, 0, none⟩) 0 0) [] (by simp [Act.eval]) (ownZ_none wd _) b off (k + 1) X1 (by simp [Act.eval, hx1]) (HX1.out.go (belowZ_none wd _)) (by simp; omega) (by simp) ?_
              intro v4 w4 hown4 hg4
              have H4 := Lib.hid (show OnZ wd w4 v4 X1 from ((show OnZ wd (wd.alloc (.cells #[] 25)) _ [] from ⟨ownZ_none wd _, belowZ_none wd _⟩)).grown0 hown4 hg4)
              clear hown4 hg4
              refine hK.out _ _ (trivial) (fun hHeld2 => ?_)
              clear hK K
              try simp only [Act.put, List.setIfInBounds_toArray, List.set_cons_zero, List.set_cons_succ]
              refine wpAnyH_ready (rs := [9]) (by kernel_rfl) (by simp) ?_
              refine AllReadyH.cons (o := { dst := some 76, op := _, type := _, pos := _, after := _, guard := _ }) rfl (fun K hK => ?_) AllReadyH.nil
              refine step_append_sprs rfl (.tmp 71) (.tmp 75) 23 rfl wd.heap.size 25 i0 (.agg #[.int .i64 0, .int .i64 0]) Try.underlying23 hi hz0 hz1 hz2 rfl v4 X1 (by simp [Act.eval]) H4.out.1 b (off) (0) X3 (by first | (simp [Act.eval, hx3]; done) | (rw [show X3.length = 0 by omega]; simp [Act.eval]; done)) (HZ.out _ _ _ (by first | omega | simp)) (by omega) H4.out.2.size ?_
              intro v5 w5 hown5 hg5
              have H5 := Lib.hid (show OnZ wd w5 v5 (erL L k) by rw [HE.out]; exact H4.out.grown0 hown5 hg5)
              clear hown5 hg5
              refine hK.out _ _ (trivial) (fun hHeld2 => ?_)
              clear hK K
              try simp only [Act.put, List.setIfInBounds_toArray, List.set_cons_zero, List.set_cons_succ]
              refine wpAnyH_take (i := 10) (oi := { dst := some 9, op := _, type := _, pos := _, after := _, guard := _ }) (v := ?va10) rfl (by kernel_rfl) (by kernel_rfl) (by kernel_rfl) (fun _ _ _ h => h) (Or.inl ⟨by kernel_rfl, ?ya10⟩) (by assumption) ?ra10
              case ya10 => intro w hSw; (try dsimp only at hSw); go_simp; try with_reducible rfl
              try simp only [Act.put, List.setIfInBounds_toArray, List.set_cons_zero, List.set_cons_succ]
              refine wpAnyH_done (by kernel_rfl) ?_ _
              obtain ⟨A5, c5, rfl, _, _, _⟩ := (OwZ.of_own H5.out.1).form
              have h5a := (OwZ.of_own H5.out.1).arg (by have := HEl.out; omega) (Nat.le_refl _)
              have Ha5 := Lib.hid h5a
              have hcd := many_card (erL L k) N'
              clear h5a
              by_cases hc2 : d2 = 1
              · subst hc2
                have hN0 : N'.length = 0 := by omega
                have Hn := Lib.hid (show ArgZ w5 (some ⟨b2, o2, none⟩) 0 N' by rw [List.eq_nil_of_length_eq_zero hN0]; exact argZ_empty _ _ _ (by simp))
                have Hcall := Lib.hid (implServeMany_b A5 c5 (erL L k) (some ⟨b2, o2, none⟩) 0 N' w5 Ha5.out Hn.out)
                rw [hN0] at Hcall
                go_wp2_with fail
                refine Hcall.out.mono ?_
                rintro e w6 ⟨rfl, hb6⟩
                have Hb6 := Lib.hid (below_step Hbd.out (below_step H5.out.2 hb6))
                clear hb6
                go_wp2
                refine ⟨?_, ?_⟩
                · (repeat apply Exists.intro)
                  refine ⟨?_, ?_⟩
                  rotate_left
                  · simp only [hN0]
                    rfl
                  exact ⟨k + 1, by omega, by go_num, by rw [Hm.out], Hb6.out⟩
                · simp [intOf]; omega
              · have Hn := Lib.hid (show ArgZ w5 (some ⟨b2, o2 + 2, none⟩) (d2 - 1) N' from HNd.out.go H5.out.2)
                have Hcall := Lib.hid (implServeMany_b A5 c5 (erL L k) (some ⟨b2, o2 + 2, none⟩) (d2 - 1) N' w5 Ha5.out Hn.out)
                go_wp2_with fail
                refine Hcall.out.mono ?_
                rintro e w6 ⟨rfl, hb6⟩
                have Hb6 := Lib.hid (below_step Hbd.out (below_step H5.out.2 hb6))
                clear hb6
                go_wp2
                refine ⟨?_, ?_⟩
                · (repeat apply Exists.intro)
                  refine ⟨?_, rfl⟩
                  exact ⟨k + 1, by omega, by go_num, by rw [Hm.out], Hb6.out⟩
                · simp [intOf]; omega

            · skip
              refine wp_region_held_drew (S := (fun _ => True)) (by kernel_rfl) (trivial) (fun hHeld => ?_)
              generalize hwd : wr1.drew = wd
              have HX1 := Lib.hid (show ArgZ wd (some ⟨b, off, none⟩) d X1 by rw [← hwd, ← hW1]; exact (HXt.out.go (below_drewN (Below.refl _ _) _)).go (below_drewN (Below.refl _ _) 1))
              have HX3 := Lib.hid (show ArgZ wd (some ⟨b, off + (k + 1) * 2, none⟩) (d - (k + 1)) X3 by rw [← hwd, ← hW1]; exact (HXd.out.go (below_drewN (Below.refl _ _) _)).go (below_drewN (Below.refl _ _) 1))
              have HNd := Lib.hid (show ArgZ wd (some ⟨b2, o2 + 2, none⟩) (d2 - 1) N' by rw [← hwd, ← hW1]; exact (HNt.out.go (below_drewN (Below.refl _ _) _)).go (below_drewN (Below.refl _ _) 1))
              have Hbd := Lib.hid (show Below w3.heap.size w3 wd by rw [← hwd, ← hW1]; exact below_drewN (below_drewN Hb.out _) 1)
              clear hwd hW1
              refine wpAnyH_take (i := 1) (oi := { dst := some 68, op := _, type := _, pos := _, after := _, guard := _ }) (v := ?vb0) rfl (by kernel_rfl) (by kernel_rfl) (by kernel_rfl) (fun _ _ _ h => h) (Or.inl ⟨by kernel_rfl, ?yb0⟩) (by assumption) ?rb0
              case yb0 => intro w hSw; (try dsimp only at hSw); go_simp; try with_reducible rfl
              try simp only [Act.put, List.setIfInBounds_toArray, List.set_cons_zero, List.set_cons_succ]
              refine wpAnyH_take (i := 2) (oi := { dst := some 69, op := _, type := _, pos := _, after := _, guard := _ }) (v := ?vb1) rfl (by kernel_rfl) (by kernel_rfl) (by kernel_rfl) (fun _ _ _ h => h) (Or.inl ⟨by kernel_rfl, ?yb1⟩) (by assumption) ?rb1
              case yb1 => intro w hSw; (try dsimp only at hSw); go_simp; try with_reducible rfl
              try simp only [Act.put, List.setIfInBounds_toArray, List.set_cons_zero, List.set_cons_succ]
              refine wpAnyH_take (i := 3) (oi := { dst := some 70, op := _, type := _, pos := _, after := _, guard := _ }) (v := ?vb2) rfl (by kernel_rfl) (by kernel_rfl) (by kernel_rfl) (fun _ _ _ h => h) (Or.inl ⟨by kernel_rfl, ?yb2⟩) (by assumption) ?rb2
              case yb2 => intro w hSw; (try dsimp only at hSw); go_simp; try with_reducible rfl
              try simp only [Act.put, List.setIfInBounds_toArray, List.set_cons_zero, List.set_cons_succ]
              refine wpAnyH_take (i := 5) (oi := { dst := some 72, op := _, type := _, pos := _, after := _, guard := _ }) (v := ?vb3) rfl (by kernel_rfl) (by kernel_rfl) (by kernel_rfl) (fun _ _ _ h => h) (Or.inl ⟨by kernel_rfl, ?yb3⟩) (by assumption) ?rb3
              case yb3 => intro w hSw; (try dsimp only at hSw); go_simp; try with_reducible rfl
              try simp only [Act.put, List.setIfInBounds_toArray, List.set_cons_zero, List.set_cons_succ]
              refine wpAnyH_take (i := 6) (oi := { dst := some 73, op := _, type := _, pos := _, after := _, guard := _ }) (v := ?vb4) rfl (by kernel_rfl) (by kernel_rfl) (by kernel_rfl) (fun _ _ _ h => h) (Or.inl ⟨by kernel_rfl, ?yb4⟩) (by assumption) ?rb4
              case yb4 => intro w hSw; (try dsimp only at hSw); go_simp; try with_reducible rfl
              try simp only [Act.put, List.setIfInBounds_toArray, List.set_cons_zero, List.set_cons_succ]
              refine wpAnyH_take (i := 7) (oi := { dst := some 74, op := _, type := _, pos := _, after := _, guard := _ }) (v := ?vb5) rfl (by kernel_rfl) (by kernel_rfl) (by kernel_rfl) (fun _ _ _ h => h) (Or.inl ⟨by kernel_rfl, ?yb5⟩) (by assumption) ?rb5
              case yb5 => intro w hSw; (try dsimp only at hSw); go_simp; try with_reducible rfl
              try simp only [Act.put, List.setIfInBounds_toArray, List.set_cons_zero, List.set_cons_succ]
              refine wpAnyH_take (i := 8) (oi := { dst := some 75, op := _, type := _, pos := _, after := _, guard := _ }) (v := ?vb6) rfl (by kernel_rfl) (by kernel_rfl) (by kernel_rfl) (fun _ _ _ h => h) (Or.inl ⟨by kernel_rfl, ?yb6⟩) (by assumption) ?rb6
              case yb6 => intro w hSw; (try dsimp only at hSw); go_simp; try with_reducible rfl
              try simp only [Act.put, List.setIfInBounds_toArray, List.set_cons_zero, List.set_cons_succ]
              refine wpAnyH_ready (rs := [0]) (by kernel_rfl) (by simp) ?_
              refine AllReadyH.cons (o := { dst := some 67, op := _, type := _, pos := _, after := _, guard := _ }) rfl (fun K hK => ?_) AllReadyH.nil
              go_simp
              refine hK.out _ _ (trivial) (fun hHeld2 => ?_)
              clear hK K
              try simp only [Act.put, List.setIfInBounds_toArray, List.set_cons_zero, List.set_cons_succ]
              refine wpAnyH_ready (rs := [4]) (by kernel_rfl) (by simp) ?_
              refine AllReadyH.cons (o := { dst := some 71, op := _, type := _, pos := _, after := _, guard := _ }) rfl (fun K hK => ?_) AllReadyH.nil
              refine step_append_sprs rfl (.tmp 67) (.tmp 70) 23 rfl wd.heap.size 25 i0 (.agg #[.int .i64 0, .int .i64 0]) Try.underlying23 hi hz0 hz1 hz2 rfl (.slice (some ⟨wd.heap.size, 0, none⟩) 0 0) [] (by simp [Act.eval]) (ownZ_none wd _) b off d X1 (by simp [Act.eval, hx1]) (HX1.out.go (belowZ_none wd _)) (by simp; omega) (by simp) ?_
              intro v4 w4 hown4 hg4
              have H4 := Lib.hid (show OnZ wd w4 v4 X1 from ((show OnZ wd (wd.alloc (.cells #[] 25)) _ [] from ⟨ownZ_none wd _, belowZ_none wd _⟩)).grown0 hown4 hg4)
              clear hown4 hg4
              refine hK.out _ _ (trivial) (fun hHeld2 => ?_)
              clear hK K
              try simp only [Act.put, List.setIfInBounds_toArray, List.set_cons_zero, List.set_cons_succ]
              refine wpAnyH_ready (rs := [9]) (by kernel_rfl) (by simp) ?_
              refine AllReadyH.cons (o := { dst := some 76, op := _, type := _, pos := _, after := _, guard := _ }) rfl (fun K hK => ?_) AllReadyH.nil
              refine step_append_sprs rfl (.tmp 71) (.tmp 75) 23 rfl wd.heap.size 25 i0 (.agg #[.int .i64 0, .int .i64 0]) Try.underlying23 hi hz0 hz1 hz2 rfl v4 X1 (by simp [Act.eval]) H4.out.1 b (off + (k + 1) * 2) (d - (k + 1)) X3 (by first | (simp [Act.eval, hx3]; done) | (rw [show X3.length = 0 by omega]; simp [Act.eval]; done)) (HX3.out.go H4.out.2) (by omega) H4.out.2.size ?_
              intro v5 w5 hown5 hg5
              have H5 := Lib.hid (show OnZ wd w5 v5 (erL L k) by rw [HE.out]; exact H4.out.grown0 hown5 hg5)
              clear hown5 hg5
              refine hK.out _ _ (trivial) (fun hHeld2 => ?_)
              clear hK K
              try simp only [Act.put, List.setIfInBounds_toArray, List.set_cons_zero, List.set_cons_succ]
              refine wpAnyH_take (i := 10) (oi := { dst := some 9, op := _, type := _, pos := _, after := _, guard := _ }) (v := ?vb10) rfl (by kernel_rfl) (by kernel_rfl) (by kernel_rfl) (fun _ _ _ h => h) (Or.inl ⟨by kernel_rfl, ?yb10⟩) (by assumption) ?rb10
              case yb10 => intro w hSw; (try dsimp only at hSw); go_simp; try with_reducible rfl
              try simp only [Act.put, List.setIfInBounds_toArray, List.set_cons_zero, List.set_cons_succ]
              refine wpAnyH_done (by kernel_rfl) ?_ _
              obtain ⟨A5, c5, rfl, _, _, _⟩ := (OwZ.of_own H5.out.1).form
              have h5a := (OwZ.of_own H5.out.1).arg (by have := HEl.out; omega) (Nat.le_refl _)
              have Ha5 := Lib.hid h5a
              have hcd := many_card (erL L k) N'
              clear h5a
              by_cases hc2 : d2 = 1
              · subst hc2
                have hN0 : N'.length = 0 := by omega
                have Hn := Lib.hid (show ArgZ w5 (some ⟨b2, o2, none⟩) 0 N' by rw [List.eq_nil_of_length_eq_zero hN0]; exact argZ_empty _ _ _ (by simp))
                have Hcall := Lib.hid (implServeMany_b A5 c5 (erL L k) (some ⟨b2, o2, none⟩) 0 N' w5 Ha5.out Hn.out)
                rw [hN0] at Hcall
                go_wp2_with fail
                refine Hcall.out.mono ?_
                rintro e w6 ⟨rfl, hb6⟩
                have Hb6 := Lib.hid (below_step Hbd.out (below_step H5.out.2 hb6))
                clear hb6
                go_wp2
                refine ⟨?_, ?_⟩
                · (repeat apply Exists.intro)
                  refine ⟨?_, ?_⟩
                  rotate_left
                  · simp only [hN0]
                    rfl
                  exact ⟨k + 1, by omega, by go_num, by rw [Hm.out], Hb6.out⟩
                · simp [intOf]; omega
              · have Hn := Lib.hid (show ArgZ w5 (some ⟨b2, o2 + 2, none⟩) (d2 - 1) N' from HNd.out.go H5.out.2)
                have Hcall := Lib.hid (implServeMany_b A5 c5 (erL L k) (some ⟨b2, o2 + 2, none⟩) (d2 - 1) N' w5 Ha5.out Hn.out)
                go_wp2_with fail
                refine Hcall.out.mono ?_
                rintro e w6 ⟨rfl, hb6⟩
                have Hb6 := Lib.hid (below_step Hbd.out (below_step H5.out.2 hb6))
                clear hb6
                go_wp2
                refine ⟨?_, ?_⟩
                · (repeat apply Exists.intro)
                  refine ⟨?_, rfl⟩
                  exact ⟨k + 1, by omega, by go_num, by rw [Hm.out], Hb6.out⟩
                · simp [intOf]; omega

          · have hmd : decide (f.m ≤ s.m) = false := decide_eq_false hmm
            have Hm := Lib.hid (Hno.out (hst2 (fun h => hmm h.2)))
            clear hst hst2 hkk
            go_wp2
            go_quiet (fail)
            go_wp2
            refine ⟨?_, ?_⟩
            · (repeat apply Exists.intro)
              refine ⟨?_, rfl⟩
              exact ⟨k + 1, by omega, by go_num, by rw [Hm.out], below_drewN Hb.out nq⟩
            · simp [intOf]; omega
        · have hkb : (s.k == f.k) = false := by simp [hkk]
          have Hm := Lib.hid (Hno.out (hst2 (fun h => hkk h.1)))
          clear hst hst2 hkk
          go_wp2
          go_quiet (fail)
          go_wp2
          refine ⟨?_, ?_⟩
          · (repeat apply Exists.intro)
            refine ⟨?_, rfl⟩
            exact ⟨k + 1, by omega, by go_num, by rw [Hm.out], below_drewN Hb.out nq⟩
          · simp [intOf]; omega
      · obtain rfl : k = L.length := by omega
        rw [Hv1.out]
        go_wp2
        go_ret
        exact ⟨rfl, below_step Bt.out Hb.out⟩

theorem fnServeMany_walk (A0 : Option Addr) (n0 c0 : Nat) (w : World) (hb0 : Byt0 w A0 n0 c0) :
    Calls Try.prog 5 #[.slice A0 n0 c0] w (RetB (.bool true) w) := by
  by_cases hl0 : 1048576 < n0
  · clear hb0
    go_enter Try.func5, Try.ntmps5
    go_wp2
    go_ret
    exact ⟨rfl, Below.refl _ _⟩
  exact fnServeMany_in A0 n0 c0 w (by omega) hb0.1 hb0.2.2

set_option maxRecDepth 100000 in
theorem fnServeMany_lifted (os : Os) (started : os.Started) (H : Type) (enc : TypeId × Value → H) :
    ReturnsInHanded {} Try.checked os 5 .any (Rows.fnServeManySpec.pre6 enc Try.prog Try.f5 Rows.fnServeManyRow.domain false) (Rows.fnServeManySpec.post enc Try.prog Try.f5 false true false false) := by
  refine returnsInHanded_of_change (C := Try.checked) row_own started (by kernel_rfl) Try.func5
    (ChangeSpec.witness6 (enc := enc) (C := Try.checked) false ⟨#[], #[.slice none 0 0], []⟩ 8 (by kernel_rfl) (by kernel_rfl) (by kernel_rfl) (by kernel_rfl)) ?_
  intro W base args ds gs before hval0 hW hcnd _
  have hval : ∀ (j : Nat) t v, Try.f5.params[j]? = some t → args[j]? = some v → Value.okWide Try.prog W .any base t v := hval0
  have hW' := hW
  obtain ⟨p, q, hA0, hV, rfl, _, _⟩ := hW
  have hA : DataW.TrodAll enc Try.prog W 0 (fun _ => true) true Try.f5.params.toList args.toList ds p := hA0
  rw [Try.params5] at hA hval
  obtain ⟨v0, vs0, d0, ds0, p0, q0, hargs, rfl, rfl, h0, r0⟩ := trodAll_cons hA
  obtain ⟨rfl, rfl, rfl⟩ := trodAll_nil r0
  obtain rfl : args = #[v0] := by cases args; simp_all
  obtain ⟨rfl, rfl⟩ := trodVars_none hV
  have hlt0 : ∀ x ∈ p0, x.block < W.heap.size := fun x hx => by exact hW'.lt x (by simp [hx])
  obtain ⟨A0, n0, c0, rfl, hb0⟩ := open_bytes (hval 0 22 v0 rfl rfl) h0 hlt0
  clear hA0 hval0
  refine (fnServeMany_walk A0 n0 c0 W hb0).mono fun e W' ⟨he, hb⟩ => ?_
  subst he
  exact ⟨_, rfl, _, _, _, [], _, [], hW', (trodAll_cons_mk (shut_bool Try.underlying4 _) trodAll_mk0), (trodAll_cons_mk (read_again_bytes h0 hlt0 hb) trodAll_mk0), rfl, hb.frame _, fun h => by cases h⟩

set_option maxRecDepth 100000 in
theorem fnServeMany_closed : joinedFacts Try.prog 5 Try.f5 Rows.fnServeManySpec Rows.fnServeManyRow = true := by
  unfold joinedFacts
  repeat' (with_reducible apply facAnd)
  all_goals first | (with_reducible exact facEnter) | (with_reducible exact facLaid) | (with_reducible exact facMaps) | (with_reducible exact facStops) | (with_reducible exact facKnobs) | (with_reducible exact facHeard) | (rw [facLifts]; as_aux_lemma => kernel_rfl) | (rw [facMake]; as_aux_lemma => kernel_rfl) | (as_aux_lemma => kernel_rfl)

/-- THE STATEMENT -/
theorem fnServeMany_holds : Rows.FnServeManySaid :=
  OpenClaim.holds_of_wide 5 Try.f5 rfl rfl rfl rfl rfl rfl rfl ⟨rfl, rfl, rfl, rfl, rfl⟩ rfl rfl rfl rfl rfl (by kernel_rfl) Try.func5 fnServeMany_closed
    (of_decide_eq_true (by kernel_rfl)) (by unfold Func.isWrapper; first | (rw [if_pos (by decide +kernel)]; kernel_rfl) | (rw [if_neg (by decide +kernel)]; exact ⟨rfl, rfl⟩))
    (fun os started H enc _ => fnServeMany_lifted os started H enc)
#print axioms fnServeMany_holds
end Go.Proofs.Ytkicifkigbciaaa
