/-
  ChartDrop of both: a chart without one of its routes. (Written by a program of mine, gen9w.py.)
-/
import Derived.Test.YtjboamhjfncgdaaRtB
import Derived.Test.YtjboamhjfncgdaaDelK
import Derived.Deep.RegionHeld3
import Derived.Deep.AppendLies
namespace Go.Proofs.Ytjboamhjfncgdaa
open Go.RowKit

/-- the chart without route k -/
def dropR (R : List Rot) (k : Nat) : List Rot := R.take k ++ R.drop (k + 1)
def cdV (R : List Rot) (k : Int) : List Rot := if hasR R k then dropR R k.toNat else []
theorem cd_no {R : List Rot} {k : Int} (h : hasR R k = false) : cdV R k = [] := by unfold cdV; rw [h]; rfl
theorem cd_yes {R : List Rot} {k : Nat} (h : hasR R (k : Int) = true) : cdV R (k : Int) = dropR R k := by unfold cdV; rw [if_pos h, Int.toNat_natCast]
theorem dropR_len {R : List Rot} {k : Nat} (h : k < R.length) : (dropR R k).length = R.length - 1 := by unfold dropR; simp; omega
theorem ownK_pos {W : World} {base : Nat} {e : TypeId} {size n : Nat} {v : Value} {xs : List Value} (h : W.ownsRow base e size v n xs) (hp : 0 < n) : ∃ g cap, v = .slice (some ⟨g, 0, none⟩) n cap ∧ base ≤ g := by
  rcases h.2 with ⟨_, h0⟩ | ⟨g, cap, cur, e, hg, _⟩
  · omega
  · exact ⟨g, cap, e, hg⟩

/-- append(own, lines...) as a step of a region that draws -/
theorem step_append_rots {P : Program} {w : World} {ops : Array Oper} {o : Oper} {a : Act} {K : Act → World → Prop} {Q : Exit → Act → World → Prop} {E : Prop} (hgd : o.guard = none) (s x : Operand) (t : TypeId)
    (ho : o.op = .call { callee := .builtin .append, args := #[s, x], argTypes := #[t, t] })
    (base : Nat) (e : TypeId) (i : TypeInfo) (z : Value) (ht : P.underlying t = some (.slice e)) (hi : P.info? e = some i) (hz : i.zero = some z)
    (hsize : i.size = 4) (hby : i.bytes = 32) (hzs : z.cells.size = 4)
    (v : Value) (xs : List Rot) (hs : a.eval s = v) (hown : w.ownsRow base e 4 v xs.length (rotCells xs))
    (b off c : Nat) (ss : List Rot) (hx : a.eval x = .slice (some ⟨b, off, none⟩) ss.length c) (ha : ArgK w (some ⟨b, off, none⟩) c ss)
    (h63 : xs.length + ss.length ≤ 8388608) (hbase : base ≤ w.heap.size)
    (h : ∀ v' w', w'.ownsRow base e 4 v' (xs ++ ss).length (rotCells (xs ++ ss)) → w.grownBy w' v.ownBlock → K (a.put o.dst v') w') :
    if Region.wanted o (yielded ops a.tmps) = true then Oper.wp P o a w K Q else E := by
  have hw : Region.wanted o (yielded ops a.tmps) = true := by simp [Region.wanted, hgd]
  rw [if_pos hw]
  rw [List.length_append, rotCells_append] at h
  obtain ⟨v', w', hr, h2, h3, _⟩ := run_append_own (P := P) w base t o.type e i z 4 32 ht hi hz hsize hby hzs (by omega) v xs.length (rotCells xs) hown ⟨b, off, none⟩ ss.length c (rotCells ss) (rotCells_length ss) (argK_cells ha) (rotCells_oneCell ss) (by unfold maxLen; omega) (by omega) hbase
  unfold Oper.wp execOp
  simp only [ho, resolve, invoke, builtin, Sem.run_bind, Sem.run_pure, Result.andThen_ok, List.map_toArray, List.map_cons, List.map_nil, hs, hx, hr]
  exact h v' w' h2 h3

set_option maxRecDepth 100000 in
set_option maxHeartbeats 4000000 in
theorem implChartDrop_b (A : Option Addr) (c : Nat) (ss : List Rot) (kk : Int) (w : World) (ha : ArgK w A c ss) :
    Calls Try.prog 58 #[.slice A ss.length c, .int .i64 kk] w (RetK 37 (fun v => .tuple #[v, .bool (hasR ss kk)]) (cdV ss kk) w) := by
  have hl := ha.len
  have HA := Lib.hid ha
  clear ha
  go_enter Try.func58, Try.ntmps58
  go_wp2_with fail
  refine (hasRoute_c _ _ _ _ _ HA.out).mono ?_
  rintro e w1 ⟨rfl, hb1⟩
  have Hb1 := Lib.hid hb1
  have HA1 := Lib.hid (HA.out.go hb1)
  clear hb1
  cases e1 : hasR ss kk
  · have N := Lib.hid (And.intro e1 (cd_no e1))
    clear e1
    go_wp2
    go_ret2
    rw [N.out.1, N.out.2]
    exact RetK.nil (f := fun v => .tuple #[v, .bool false]) Hb1.out
  obtain ⟨e2, e3, e4⟩ := hasR_true.1 e1
  have h10 := chart_len e2
  obtain ⟨k, rfl⟩ : ∃ k : Nat, kk = (k : Int) := ⟨kk.toNat, by omega⟩
  have hlt : k < ss.length := by omega
  clear e2 e3 e4
  have q2 : IntKind.i64.wrap ((k : Int) + 1) = (k : Int) + 1 := IntWalk.i64_in _ (by omega)
  have N := Lib.hid (And.intro e1 (cd_yes e1))
  clear e1
  have hdl := dropR_len hlt
  have Hdl := Lib.hid hdl
  clear hdl
  go_wp2_with fail
  refine (cloneK_c A c ss _ HA1.out).mono ?_
  rintro e w3 ⟨A2, c2, rfl, ra2, ro2, rb2⟩
  dsimp only [id]
  have ho2 := ro2.1
  obtain ⟨g, cap, e3, hgb⟩ := ownK_pos ho2 (by omega)
  injection e3 with e3 _ e4
  subst e3; subst e4
  have Hdel := Lib.hid (deleteK_c _ g c2 k ss w3 ho2 hlt (by omega))
  have Hb3 := Lib.hid rb2
  clear ho2 ra2 ro2 rb2
  go_wp2_with fail
  refine Hdel.out.mono ?_
  rintro e w4 ⟨rfl, ho4, hg4⟩
  have hb4 := Hb3.out.grown hg4 Hb3.out.size (fun r e => by cases e; exact hgb)
  have Hb4 := Lib.hid (below_step Hb1.out hb4)
  have Ho4 := Lib.hid (show w4.ownsRow w.heap.size 37 4 (.slice (some ⟨g, 0, none⟩) (ss.length - 1) c2) (dropR ss k).length (rotCells (dropR ss k)) by rw [Hdl.out]; exact OwnsRow.more ho4 Hb1.out.size)
  clear ho4 hg4 hb4 hgb
  go_wp2
  go_ret2
  rw [N.out.1, N.out.2]
  exact RetK.mk (f := fun v => .tuple #[v, .bool true]) (by rw [Hdl.out]; omega) Ho4.out Hb4.out

set_option maxRecDepth 100000 in
set_option maxHeartbeats 4000000 in
theorem specChartDrop_b (A : Option Addr) (c : Nat) (ss : List Rot) (kk : Int) (w : World) (ha : ArgK w A c ss) :
    Calls Try.prog 57 #[.slice A ss.length c, .int .i64 kk] w (RetK 37 (fun v => .tuple #[v, .bool (hasR ss kk)]) (cdV ss kk) w) := by
  obtain ⟨i0, hi, hz0, hz1, hz2⟩ := info_parts rotInf
  have hl := ha.len
  have HA := Lib.hid ha
  clear ha
  go_enter Try.func57, Try.ntmps57
  go_wp2_with fail
  refine (l9Has_c _ _ _ _ _ HA.out).mono ?_
  rintro e w1 ⟨rfl, hb1⟩
  have Hb1 := Lib.hid hb1
  have HA1 := Lib.hid (HA.out.go hb1)
  clear hb1
  have Ho0 := Lib.hid (show OnK w1 (w1.alloc (.cells #[] 37)) (.slice (some ⟨w1.heap.size, 0, none⟩) 0 0) [] from ⟨ownK_none w1 _, belowK_none w1 _⟩)
  cases e1 : hasR ss kk
  · have N := Lib.hid (And.intro e1 (cd_no e1))
    clear e1
    go_wp2
    go_ret2
    rw [N.out.1, N.out.2]
    exact RetK.mk (f := fun v => .tuple #[v, .bool false]) (by simp) (Ho0.out.base Hb1.out).1 (Ho0.out.base Hb1.out).2
  obtain ⟨e2, e3, e4⟩ := hasR_true.1 e1
  have h10 := chart_len e2
  obtain ⟨k, rfl⟩ : ∃ k : Nat, kk = (k : Int) := ⟨kk.toNat, by omega⟩
  have hlt : k < ss.length := by omega
  clear e2 e3 e4 Ho0
  have N := Lib.hid (And.intro e1 (cd_yes e1))
  clear e1
  have ha := HA1.out
  have hac := ha.2.1
  have ham := ha.2.2.1
  obtain ⟨b, off, rfl, _, hbw, _⟩ := ha.rd.at_ hlt
  have HXt := Lib.hid (ha.take k)
  have HXd := Lib.hid (ha.drop (k + 1))
  have HE := Lib.hid (show dropR ss k = ss.take k ++ ss.drop (k + 1) from rfl)
  have Hdl := Lib.hid (dropR_len hlt)
  obtain ⟨X1, hX1⟩ : ∃ X, X = ss.take k := ⟨_, rfl⟩
  obtain ⟨X3, hX3⟩ : ∃ X, X = ss.drop (k + 1) := ⟨_, rfl⟩
  have hx1 : X1.length = k := by rw [hX1]; simp; omega
  have hx3 : X3.length = ss.length - (k + 1) := by rw [hX3]; simp
  rw [← hX1] at HXt
  rw [← hX3] at HXd
  rw [← hX1, ← hX3] at HE
  have HEnd := Lib.hid (show ∀ (v5 : Value) (w5 : World), OnK w w5 v5 (X1 ++ X3) → RetK 37 (fun v => .tuple #[v, .bool (hasR ss (k : Int))]) (cdV ss (k : Int)) w (.returned (.tuple #[v5, .bool true])) w5 from fun v5 w5 h => by
    rw [N.out.1, N.out.2, HE.out]
    exact RetK.mk (f := fun v => .tuple #[v, .bool true]) (by simp; omega) h.1 h.2)
  clear ha hX1 hX3
  have g1 : (k : Int) < (ss.length : Int) := by omega
  have g2 : (k : Int) ≤ (c : Int) := by omega
  have g3 : k ≤ c := by omega
  have g4 : k + 1 ≤ c := by omega
  have g5 : (0 : Int) ≤ (k : Int) + 1 := by omega
  have g6 : (k : Int) + 1 ≤ (ss.length : Int) := by omega
  have g7 : (k : Int) + 1 ≤ (c : Int) := by omega
  have g8 : IntKind.i64.wrap ((k : Int) + 1) = (k : Int) + 1 := IntWalk.i64_in _ (by omega)
  have g9 : ((k : Int) + 1).toNat = k + 1 := by omega
  have g10 : (k : Int) ≤ (k : Int) + 1 := by omega
  go_wp2
  by_cases hc : c = k + 1
  · subst hc
    have hX30 : X3 = [] := List.eq_nil_of_length_eq_zero (by omega)
    have HZ := Lib.hid (fun (W : World) (A : Option Addr) (c : Nat) (hc : c ≤ maxLen) => (show ArgK W A c X3 by rw [hX30]; exact argK_empty W A c hc))
    clear hX30
    refine wp_region_held_drew (S := (fun _ => True)) (by kernel_rfl) (trivial) (fun hHeld => ?_)
    generalize hwd : w1.drew = wd
    have HX1 := Lib.hid (show ArgK wd (some ⟨b, off, none⟩) (k + 1) X1 by rw [← hwd]; exact HXt.out.go (below_drewN (Below.refl _ _) 1))
    have HX3 := Lib.hid (show ArgK wd (some ⟨b, off + (k + 1) * 4, none⟩) ((k + 1) - (k + 1)) X3 by rw [← hwd]; exact HXd.out.go (below_drewN (Below.refl _ _) 1))
    have Hbd := Lib.hid (show Below w.heap.size w wd by rw [← hwd]; exact below_drewN Hb1.out 1)
    clear hwd
    refine wpAnyH_take (i := 1) (oi := { dst := some 12, op := _, type := _, pos := _, after := _, guard := _ }) (v := ?va0) rfl (by kernel_rfl) (by kernel_rfl) (by kernel_rfl) (fun _ _ _ h => h) (Or.inl ⟨by kernel_rfl, ?ya0⟩) (by assumption) ?ra0
    case ya0 => intro w hSw; (try dsimp only at hSw); go_simp; try with_reducible rfl
    try simp only [Act.put, List.setIfInBounds_toArray, List.set_cons_zero, List.set_cons_succ]
    refine wpAnyH_take (i := 2) (oi := { dst := some 13, op := _, type := _, pos := _, after := _, guard := _ }) (v := ?va1) rfl (by kernel_rfl) (by kernel_rfl) (by kernel_rfl) (fun _ _ _ h => h) (Or.inl ⟨by kernel_rfl, ?ya1⟩) (by assumption) ?ra1
    case ya1 => intro w hSw; (try dsimp only at hSw); go_simp; try with_reducible rfl
    try simp only [Act.put, List.setIfInBounds_toArray, List.set_cons_zero, List.set_cons_succ]
    refine wpAnyH_take (i := 3) (oi := { dst := some 14, op := _, type := _, pos := _, after := _, guard := _ }) (v := ?va2) rfl (by kernel_rfl) (by kernel_rfl) (by kernel_rfl) (fun _ _ _ h => h) (Or.inl ⟨by kernel_rfl, ?ya2⟩) (by assumption) ?ra2
    case ya2 => intro w hSw; (try dsimp only at hSw); go_simp; try with_reducible rfl
    try simp only [Act.put, List.setIfInBounds_toArray, List.set_cons_zero, List.set_cons_succ]
    refine wpAnyH_take (i := 5) (oi := { dst := some 16, op := _, type := _, pos := _, after := _, guard := _ }) (v := ?va3) rfl (by kernel_rfl) (by kernel_rfl) (by kernel_rfl) (fun _ _ _ h => h) (Or.inl ⟨by kernel_rfl, ?ya3⟩) (by assumption) ?ra3
    case ya3 => intro w hSw; (try dsimp only at hSw); go_simp; try with_reducible rfl
    try simp only [Act.put, List.setIfInBounds_toArray, List.set_cons_zero, List.set_cons_succ]
    refine wpAnyH_take (i := 6) (oi := { dst := some 17, op := _, type := _, pos := _, after := _, guard := _ }) (v := ?va4) rfl (by kernel_rfl) (by kernel_rfl) (by kernel_rfl) (fun _ _ _ h => h) (Or.inl ⟨by kernel_rfl, ?ya4⟩) (by assumption) ?ra4
    case ya4 => intro w hSw; (try dsimp only at hSw); go_simp; try with_reducible rfl
    try simp only [Act.put, List.setIfInBounds_toArray, List.set_cons_zero, List.set_cons_succ]
    refine wpAnyH_take (i := 7) (oi := { dst := some 18, op := _, type := _, pos := _, after := _, guard := _ }) (v := ?va5) rfl (by kernel_rfl) (by kernel_rfl) (by kernel_rfl) (fun _ _ _ h => h) (Or.inl ⟨by kernel_rfl, ?ya5⟩) (by assumption) ?ra5
    case ya5 => intro w hSw; (try dsimp only at hSw); go_simp; try with_reducible rfl
    try simp only [Act.put, List.setIfInBounds_toArray, List.set_cons_zero, List.set_cons_succ]
    refine wpAnyH_take (i := 8) (oi := { dst := some 19, op := _, type := _, pos := _, after := _, guard := _ }) (v := ?va6) rfl (by kernel_rfl) (by kernel_rfl) (by kernel_rfl) (fun _ _ _ h => h) (Or.inl ⟨by kernel_rfl, ?ya6⟩) (by assumption) ?ra6
    case ya6 => intro w hSw; (try dsimp only at hSw); go_simp; try with_reducible rfl
    try simp only [Act.put, List.setIfInBounds_toArray, List.set_cons_zero, List.set_cons_succ]
    refine wpAnyH_ready (rs := [0]) (by kernel_rfl) (by simp) ?_
    refine AllReadyH.cons (o := { dst := some 11, op := _, type := _, pos := _, after := _, guard := _ }) rfl (fun K hK => ?_) AllReadyH.nil
    go_simp
    refine hK.out _ _ (trivial) (fun hHeld2 => ?_)
    clear hK K
    try simp only [Act.put, List.setIfInBounds_toArray, List.set_cons_zero, List.set_cons_succ]
    refine wpAnyH_ready (rs := [4]) (by kernel_rfl) (by simp) ?_
    refine AllReadyH.cons (o := { dst := some 15, op := _, type := _, pos := _, after := _, guard := _ }) rfl (fun K hK => ?_) AllReadyH.nil
    refine step_append_rots rfl (.tmp 11) (.tmp 14) 23 rfl wd.heap.size 37 i0 (.agg #[.int .i64 0, .int .i64 0, .int .i64 0, .int .i64 0]) Try.underlying23 hi hz0 hz1 hz2 rfl (.slice (some ⟨wd.heap.size, 0, none⟩) 0 0) [] (by simp [Act.eval]) (ownK_none wd _) b off (k + 1) X1 (by simp [Act.eval, hx1]) (HX1.out.go (belowK_none wd _)) (by simp; omega) (by simp) ?_
    intro v4 w4 hown4 hg4
    have H4 := Lib.hid (show OnK wd w4 v4 X1 from ((show OnK wd (wd.alloc (.cells #[] 37)) _ [] from ⟨ownK_none wd _, belowK_none wd _⟩)).grown0 hown4 hg4)
    clear hown4 hg4
    refine hK.out _ _ (trivial) (fun hHeld2 => ?_)
    clear hK K
    try simp only [Act.put, List.setIfInBounds_toArray, List.set_cons_zero, List.set_cons_succ]
    refine wpAnyH_ready (rs := [9]) (by kernel_rfl) (by simp) ?_
    refine AllReadyH.cons (o := { dst := some 20, op := _, type := _, pos := _, after := _, guard := _ }) rfl (fun K hK => ?_) AllReadyH.nil
    refine step_append_rots rfl (.tmp 15) (.tmp 19) 23 rfl wd.heap.size 37 i0 (.agg #[.int .i64 0, .int .i64 0, .int .i64 0, .int .i64 0]) Try.underlying23 hi hz0 hz1 hz2 rfl v4 X1 (by simp [Act.eval]) H4.out.1 b (off) (0) X3 (by first | (simp [Act.eval, hx3]; done) | (rw [show X3.length = 0 by omega]; simp [Act.eval]; done)) (HZ.out _ _ _ (by first | omega | simp)) (by omega) H4.out.2.size ?_
    intro v5 w5 hown5 hg5
    have H5 := Lib.hid (show OnK wd w5 v5 (X1 ++ X3) by exact H4.out.grown0 hown5 hg5)
    clear hown5 hg5
    refine hK.out _ _ (trivial) (fun hHeld2 => ?_)
    clear hK K
    try simp only [Act.put, List.setIfInBounds_toArray, List.set_cons_zero, List.set_cons_succ]
    refine wpAnyH_take (i := 10) (oi := { dst := some 4, op := _, type := _, pos := _, after := _, guard := _ }) (v := ?va10) rfl (by kernel_rfl) (by kernel_rfl) (by kernel_rfl) (fun _ _ _ h => h) (Or.inl ⟨by kernel_rfl, ?ya10⟩) (by assumption) ?ra10
    case ya10 => intro w hSw; (try dsimp only at hSw); go_simp; try with_reducible rfl
    try simp only [Act.put, List.setIfInBounds_toArray, List.set_cons_zero, List.set_cons_succ]
    refine wpAnyH_take (i := 11) (oi := { dst := some 5, op := _, type := _, pos := _, after := _, guard := _ }) (v := ?va11) rfl (by kernel_rfl) (by kernel_rfl) (by kernel_rfl) (fun _ _ _ h => h) (Or.inl ⟨by kernel_rfl, ?ya11⟩) (by assumption) ?ra11
    case ya11 => intro w hSw; (try dsimp only at hSw); go_simp; try with_reducible rfl
    try simp only [Act.put, List.setIfInBounds_toArray, List.set_cons_zero, List.set_cons_succ]
    refine wpAnyH_done (by kernel_rfl) ?_ _
    go_wp2
    go_ret2
    exact HEnd.out _ _ (H5.out.base Hbd.out)
  · skip
    refine wp_region_held_drew (S := (fun _ => True)) (by kernel_rfl) (trivial) (fun hHeld => ?_)
    generalize hwd : w1.drew = wd
    have HX1 := Lib.hid (show ArgK wd (some ⟨b, off, none⟩) c X1 by rw [← hwd]; exact HXt.out.go (below_drewN (Below.refl _ _) 1))
    have HX3 := Lib.hid (show ArgK wd (some ⟨b, off + (k + 1) * 4, none⟩) (c - (k + 1)) X3 by rw [← hwd]; exact HXd.out.go (below_drewN (Below.refl _ _) 1))
    have Hbd := Lib.hid (show Below w.heap.size w wd by rw [← hwd]; exact below_drewN Hb1.out 1)
    clear hwd
    refine wpAnyH_take (i := 1) (oi := { dst := some 12, op := _, type := _, pos := _, after := _, guard := _ }) (v := ?vb0) rfl (by kernel_rfl) (by kernel_rfl) (by kernel_rfl) (fun _ _ _ h => h) (Or.inl ⟨by kernel_rfl, ?yb0⟩) (by assumption) ?rb0
    case yb0 => intro w hSw; (try dsimp only at hSw); go_simp; try with_reducible rfl
    try simp only [Act.put, List.setIfInBounds_toArray, List.set_cons_zero, List.set_cons_succ]
    refine wpAnyH_take (i := 2) (oi := { dst := some 13, op := _, type := _, pos := _, after := _, guard := _ }) (v := ?vb1) rfl (by kernel_rfl) (by kernel_rfl) (by kernel_rfl) (fun _ _ _ h => h) (Or.inl ⟨by kernel_rfl, ?yb1⟩) (by assumption) ?rb1
    case yb1 => intro w hSw; (try dsimp only at hSw); go_simp; try with_reducible rfl
    try simp only [Act.put, List.setIfInBounds_toArray, List.set_cons_zero, List.set_cons_succ]
    refine wpAnyH_take (i := 3) (oi := { dst := some 14, op := _, type := _, pos := _, after := _, guard := _ }) (v := ?vb2) rfl (by kernel_rfl) (by kernel_rfl) (by kernel_rfl) (fun _ _ _ h => h) (Or.inl ⟨by kernel_rfl, ?yb2⟩) (by assumption) ?rb2
    case yb2 => intro w hSw; (try dsimp only at hSw); go_simp; try with_reducible rfl
    try simp only [Act.put, List.setIfInBounds_toArray, List.set_cons_zero, List.set_cons_succ]
    refine wpAnyH_take (i := 5) (oi := { dst := some 16, op := _, type := _, pos := _, after := _, guard := _ }) (v := ?vb3) rfl (by kernel_rfl) (by kernel_rfl) (by kernel_rfl) (fun _ _ _ h => h) (Or.inl ⟨by kernel_rfl, ?yb3⟩) (by assumption) ?rb3
    case yb3 => intro w hSw; (try dsimp only at hSw); go_simp; try with_reducible rfl
    try simp only [Act.put, List.setIfInBounds_toArray, List.set_cons_zero, List.set_cons_succ]
    refine wpAnyH_take (i := 6) (oi := { dst := some 17, op := _, type := _, pos := _, after := _, guard := _ }) (v := ?vb4) rfl (by kernel_rfl) (by kernel_rfl) (by kernel_rfl) (fun _ _ _ h => h) (Or.inl ⟨by kernel_rfl, ?yb4⟩) (by assumption) ?rb4
    case yb4 => intro w hSw; (try dsimp only at hSw); go_simp; try with_reducible rfl
    try simp only [Act.put, List.setIfInBounds_toArray, List.set_cons_zero, List.set_cons_succ]
    refine wpAnyH_take (i := 7) (oi := { dst := some 18, op := _, type := _, pos := _, after := _, guard := _ }) (v := ?vb5) rfl (by kernel_rfl) (by kernel_rfl) (by kernel_rfl) (fun _ _ _ h => h) (Or.inl ⟨by kernel_rfl, ?yb5⟩) (by assumption) ?rb5
    case yb5 => intro w hSw; (try dsimp only at hSw); go_simp; try with_reducible rfl
    try simp only [Act.put, List.setIfInBounds_toArray, List.set_cons_zero, List.set_cons_succ]
    refine wpAnyH_take (i := 8) (oi := { dst := some 19, op := _, type := _, pos := _, after := _, guard := _ }) (v := ?vb6) rfl (by kernel_rfl) (by kernel_rfl) (by kernel_rfl) (fun _ _ _ h => h) (Or.inl ⟨by kernel_rfl, ?yb6⟩) (by assumption) ?rb6
    case yb6 => intro w hSw; (try dsimp only at hSw); go_simp; try with_reducible rfl
    try simp only [Act.put, List.setIfInBounds_toArray, List.set_cons_zero, List.set_cons_succ]
    refine wpAnyH_ready (rs := [0]) (by kernel_rfl) (by simp) ?_
    refine AllReadyH.cons (o := { dst := some 11, op := _, type := _, pos := _, after := _, guard := _ }) rfl (fun K hK => ?_) AllReadyH.nil
    go_simp
    refine hK.out _ _ (trivial) (fun hHeld2 => ?_)
    clear hK K
    try simp only [Act.put, List.setIfInBounds_toArray, List.set_cons_zero, List.set_cons_succ]
    refine wpAnyH_ready (rs := [4]) (by kernel_rfl) (by simp) ?_
    refine AllReadyH.cons (o := { dst := some 15, op := _, type := _, pos := _, after := _, guard := _ }) rfl (fun K hK => ?_) AllReadyH.nil
    refine step_append_rots rfl (.tmp 11) (.tmp 14) 23 rfl wd.heap.size 37 i0 (.agg #[.int .i64 0, .int .i64 0, .int .i64 0, .int .i64 0]) Try.underlying23 hi hz0 hz1 hz2 rfl (.slice (some ⟨wd.heap.size, 0, none⟩) 0 0) [] (by simp [Act.eval]) (ownK_none wd _) b off c X1 (by simp [Act.eval, hx1]) (HX1.out.go (belowK_none wd _)) (by simp; omega) (by simp) ?_
    intro v4 w4 hown4 hg4
    have H4 := Lib.hid (show OnK wd w4 v4 X1 from ((show OnK wd (wd.alloc (.cells #[] 37)) _ [] from ⟨ownK_none wd _, belowK_none wd _⟩)).grown0 hown4 hg4)
    clear hown4 hg4
    refine hK.out _ _ (trivial) (fun hHeld2 => ?_)
    clear hK K
    try simp only [Act.put, List.setIfInBounds_toArray, List.set_cons_zero, List.set_cons_succ]
    refine wpAnyH_ready (rs := [9]) (by kernel_rfl) (by simp) ?_
    refine AllReadyH.cons (o := { dst := some 20, op := _, type := _, pos := _, after := _, guard := _ }) rfl (fun K hK => ?_) AllReadyH.nil
    refine step_append_rots rfl (.tmp 15) (.tmp 19) 23 rfl wd.heap.size 37 i0 (.agg #[.int .i64 0, .int .i64 0, .int .i64 0, .int .i64 0]) Try.underlying23 hi hz0 hz1 hz2 rfl v4 X1 (by simp [Act.eval]) H4.out.1 b (off + (k + 1) * 4) (c - (k + 1)) X3 (by first | (simp [Act.eval, hx3]; done) | (rw [show X3.length = 0 by omega]; simp [Act.eval]; done)) (HX3.out.go H4.out.2) (by omega) H4.out.2.size ?_
    intro v5 w5 hown5 hg5
    have H5 := Lib.hid (show OnK wd w5 v5 (X1 ++ X3) by exact H4.out.grown0 hown5 hg5)
    clear hown5 hg5
    refine hK.out _ _ (trivial) (fun hHeld2 => ?_)
    clear hK K
    try simp only [Act.put, List.setIfInBounds_toArray, List.set_cons_zero, List.set_cons_succ]
    refine wpAnyH_take (i := 10) (oi := { dst := some 4, op := _, type := _, pos := _, after := _, guard := _ }) (v := ?vb10) rfl (by kernel_rfl) (by kernel_rfl) (by kernel_rfl) (fun _ _ _ h => h) (Or.inl ⟨by kernel_rfl, ?yb10⟩) (by assumption) ?rb10
    case yb10 => intro w hSw; (try dsimp only at hSw); go_simp; try with_reducible rfl
    try simp only [Act.put, List.setIfInBounds_toArray, List.set_cons_zero, List.set_cons_succ]
    refine wpAnyH_take (i := 11) (oi := { dst := some 5, op := _, type := _, pos := _, after := _, guard := _ }) (v := ?vb11) rfl (by kernel_rfl) (by kernel_rfl) (by kernel_rfl) (fun _ _ _ h => h) (Or.inl ⟨by kernel_rfl, ?yb11⟩) (by assumption) ?rb11
    case yb11 => intro w hSw; (try dsimp only at hSw); go_simp; try with_reducible rfl
    try simp only [Act.put, List.setIfInBounds_toArray, List.set_cons_zero, List.set_cons_succ]
    refine wpAnyH_done (by kernel_rfl) ?_ _
    go_wp2
    go_ret2
    exact HEnd.out _ _ (H5.out.base Hbd.out)

end Go.Proofs.Ytjboamhjfncgdaa
