/-
  LoadAdd of the model. (Written by a program of mine, gen7i.py.)
-/
import Derived.Test.YtbnpglljloaclaaTfI0
import Derived.Test.YtbnpglljloaclaaTfW
import Derived.Test.YtbnpglljloaclaaApI0
import Derived.Deep.RegionHeld3
import Derived.Deep.AppendLies
namespace Go.Proofs.Ytbnpglljloaclaa
open Go.RowKit

/-- append(own, ints...) as a step of a region that draws -/
theorem step_append_ints {P : Program} {w : World} {ops : Array Oper} {o : Oper} {a : Act} {K : Act → World → Prop} {Q : Exit → Act → World → Prop} {E : Prop} (hgd : o.guard = none) (s x : Operand) (t : TypeId)
    (ho : o.op = .call { callee := .builtin .append, args := #[s, x], argTypes := #[t, t] })
    (base : Nat) (e : TypeId) (i : TypeInfo) (z : Value) (ht : P.underlying t = some (.slice e)) (hi : P.info? e = some i) (hz : i.zero = some z)
    (hsize : i.size = 1) (hby : i.bytes = 8) (hzs : z.cells.size = 1)
    (v : Value) (xs : List Int) (hs : a.eval s = v) (hown : w.ownsRow base e 1 v xs.length (xs.map (Value.int .i64)))
    (b off c : Nat) (ss : List Int) (hx : a.eval x = .slice (some ⟨b, off, none⟩) ss.length c) (ha : Arg w (some ⟨b, off, none⟩) c ss)
    (h63 : xs.length + ss.length ≤ 8388608) (hbase : base ≤ w.heap.size)
    (h : ∀ v' w', w'.ownsRow base e 1 v' (xs ++ ss).length ((xs ++ ss).map (Value.int .i64)) → w.grownBy w' v.ownBlock → K (a.put o.dst v') w') :
    if Region.wanted o (yielded ops a.tmps) = true then Oper.wp P o a w K Q else E := by
  have hw : Region.wanted o (yielded ops a.tmps) = true := by simp [Region.wanted, hgd]
  rw [if_pos hw]
  rw [List.length_append, List.map_append] at h
  obtain ⟨v', w', hr, h2, h3, _⟩ := run_append_own (P := P) w base t o.type e i z 1 8 ht hi hz hsize hby hzs (by omega) v xs.length (xs.map (Value.int .i64)) hown ⟨b, off, none⟩ ss.length c (ss.map (Value.int .i64)) (by simp) (argI_cells ha) (intsOne ss) (by unfold maxLen; omega) (by omega) hbase
  unfold Oper.wp execOp
  simp only [ho, resolve, invoke, builtin, Sem.run_bind, Sem.run_pure, Result.andThen_ok, List.map_toArray, List.map_cons, List.map_nil, hs, hx, hr]
  exact h v' w' h2 h3
theorem RetS.noneI {f : Value → Value} {w w1 : World} (hb : Below w.heap.size w w1) : RetS 3 f [] w (.returned (f (.slice (some ⟨w1.heap.size, 0, none⟩) 0 0))) (w1.alloc (.cells #[] 3)) :=
  RetS.mk (by simp) (OwnsRow.more (own_none w1 _) hb.size) (below_step hb (below_none w1 _))
theorem ch_bd {n : Int} {ss : List Lin} {L : List Int} (hn : netB n ss = true) (hc : chB ss L = true) : ∀ k, k < L.length → -9 ≤ ldAt L k ∧ ldAt L k ≤ 9 := fun k hk => by
  obtain ⟨h1, h2⟩ := chB_true.1 hc
  have h3 := netB_at hn (k := k) (by omega)
  have h4 := h2 k (by omega)
  omega

set_option maxRecDepth 100000 in
set_option maxHeartbeats 4000000 in
theorem specLoadAdd_b (n f t : Int) (A B C : Option Addr) (c d e : Nat) (ss : List Lin) (L M : List Int) (w : World) (ha : ArgL w A c ss) (hb : Arg w B d L) (hc : Arg w C e M) :
    Calls Try.prog 53 #[.int .i64 n, .slice A ss.length c, .int .i64 f, .int .i64 t, .slice B L.length d, .slice C M.length e] w (RetS 3 (fun v => .tuple #[v, .bool (addB n ss f t L M)]) (addV n ss f t L M) w) := by
  obtain ⟨i0, hi, hz0, hz1, hz2⟩ := info_parts intInf
  have HA := Lib.hid ha
  have HB := Lib.hid hb
  have HC := Lib.hid hc
  clear ha hb hc
  go_enter Try.func53, Try.ntmps53
  go_wp2_with fail
  refine (specLoadValid_b n f t _ _ _ _ _ _ _ HA.out HB.out).mono ?_
  rintro e w1 ⟨rfl, hb1⟩
  have Hb1 := Lib.hid hb1
  clear hb1
  cases e1 : loadB n ss f t L
  · have E := Lib.hid (add_no1 (M := M) e1)
    have N := Lib.hid (add_no E.out)
    clear e1
    go_wp2
    go_ret2
    rw [N.out, E.out]
    exact RetS.noneI (f := fun v => .tuple #[v, .bool false]) Hb1.out
  go_wp2_with fail
  refine (specLoadValid_b n f t _ _ _ _ _ _ _ (HA.out.go Hb1.out) (HC.out.go Hb1.out)).mono ?_
  rintro e w2 ⟨rfl, hb2⟩
  have Hb2 := Lib.hid (below_step Hb1.out hb2)
  clear hb2
  cases e2 : loadB n ss f t M
  · have E := Lib.hid (add_no2 (L := L) e2)
    have N := Lib.hid (add_no E.out)
    clear e1 e2
    go_wp2
    go_ret2
    rw [N.out, E.out]
    exact RetS.noneI (f := fun v => .tuple #[v, .bool false]) Hb2.out
  obtain ⟨he, hc1, _⟩ := loadB_true.1 e1
  obtain ⟨_, hc2, _⟩ := loadB_true.1 e2
  have hn := (endB_true.1 he).1
  have hl1 := (chB_true.1 hc1).1
  have hl2 := (chB_true.1 hc2).1
  have h10 := (netB_true.1 hn).2.1
  obtain ⟨l1, l2⟩ : L.length ≤ ss.length ∧ ss.length ≤ L.length := by omega
  obtain ⟨l3, l4⟩ : M.length ≤ ss.length ∧ ss.length ≤ M.length := by omega
  clear hl1 hl2
  have E1 := Lib.hid e1
  have E2 := Lib.hid e2
  have H91 := Lib.hid (ch_bd hn hc1)
  have H92 := Lib.hid (ch_bd hn hc2)
  have hs2 := Hb2.out.size
  clear e1 e2 he hc1 hc2 hn
  go_wp2
  go_loopw [14, 15] (fun lv i wr => ∃ (k : Nat) (xs : List Int) (sv : Value), k ≤ L.length ∧ i = .int .i64 k ∧ lv = sv ∧ xs = sumTo L M k ∧ wr.ownsRow w.heap.size 3 1 sv xs.length (xs.map (Value.int .i64)) ∧ Below w.heap.size w wr) (fun _ i _ => L.length - (intOf i).toNat)
  case atStart => exact ⟨0, [], _, Nat.zero_le _, rfl, rfl, rfl, OwnsRow.more (own_none w2 _) hs2, Hb2.out.alloc hs2 _⟩
  case round =>
    obtain ⟨k, xs, sv, hk, rfl, rfl, hx, ho, hb⟩ := hrel
    have hxl : xs.length = k := by rw [hx, sumTo_len]
    obtain ⟨x1, x2⟩ : xs.length ≤ k ∧ k ≤ xs.length := by omega
    have Hx := Lib.hid hx
    have Ho := Lib.hid ho
    have Hb := Lib.hid hb
    have hwsz := hb.size
    clear hx ho hb hxl
    by_cases hlt : k < L.length
    · have hltM : k < M.length := by omega
      obtain ⟨b0, off0, rfl, _, hb0, hc0⟩ := HB.out.rd.at_ hlt
      obtain ⟨b1, off1, rfl, _, hb1, hc1⟩ := HC.out.rd.at_ hltM
      rw [show L[k]?.getD 0 = ldAt L k from rfl] at hc0
      rw [show M[k]?.getD 0 = ldAt M k from rfl] at hc1
      have hs := sumTo_succ L M k
      have hd1 := H91.out k hlt
      have hd2 := H92.out k hltM
      obtain ⟨x, hxx⟩ : ∃ x, ldAt L k = x := ⟨_, rfl⟩
      obtain ⟨y, hyy⟩ : ∃ y, ldAt M k = y := ⟨_, rfl⟩
      rw [hxx] at hc0 hs hd1
      rw [hyy] at hc1 hs hd2
      have Hs := Lib.hid hs
      obtain ⟨p1, p2⟩ := hd1
      obtain ⟨p3, p4⟩ := hd2
      have pk0 : wr.drew.cell? ⟨b0, off0 + k, none⟩ = some (.int .i64 x) ∧ wr.drew.cell? ⟨b1, off1 + k, none⟩ = some (.int .i64 y) := ⟨below_cell (below_drewN Hb.out 1) hb0 hc0, below_cell (below_drewN Hb.out 1) hb1 hc1⟩
      have hb0d : b0 < wr.drew.heap.size := by show b0 < wr.heap.size; omega
      have hb1d : b1 < wr.drew.heap.size := by show b1 < wr.heap.size; omega
      have hwd : w.heap.size ≤ wr.drew.heap.size := hwsz
      have Hod := Lib.hid (show wr.drew.ownsRow w.heap.size 3 1 u14 xs.length (xs.map (Value.int .i64)) from Ho.out)
      have Hbd := Lib.hid (show Below w.heap.size w wr.drew from below_drewN Hb.out 1)
      have g1 : (k : Int) < (L.length : Int) := by omega
      have g2 : (k : Int) < (M.length : Int) := by omega
      have q1 : IntKind.i64.wrap (x + y) = x + y := IntWalk.i64_in _ (by omega)
      clear hxx hyy hs hc0 hc1
      go_wp2
      · skip
        refine wp_region_held_drew (S := (fun w9 => w9.cell? ⟨b0, off0 + k, none⟩ = some (.int .i64 x) ∧ w9.cell? ⟨b1, off1 + k, none⟩ = some (.int .i64 y))) (by kernel_rfl) (pk0) (fun hHeld => ?_)
        refine wpAnyH_take (i := 0) (oi := { dst := some 40, op := _, type := _, pos := _, after := _, guard := _ }) (v := ?v0) rfl (by kernel_rfl) (by kernel_rfl) (by kernel_rfl) (fun _ _ _ h => h) (Or.inl ⟨by kernel_rfl, ?y0⟩) (by assumption) ?r0
        case y0 => intro w hSw; (try dsimp only at hSw); go_simp; try with_reducible rfl
        try simp only [Act.put, List.setIfInBounds_toArray, List.set_cons_zero, List.set_cons_succ]
        refine wpAnyH_take (i := 1) (oi := { dst := some 41, op := _, type := _, pos := _, after := _, guard := _ }) (v := ?v1) rfl (by kernel_rfl) (by kernel_rfl) (by kernel_rfl) (fun _ _ _ h => h) (Or.inl ⟨by kernel_rfl, ?y1⟩) (by assumption) ?r1
        case y1 => intro w hSw; (try dsimp only at hSw); go_simp; try with_reducible rfl
        try simp only [Act.put, List.setIfInBounds_toArray, List.set_cons_zero, List.set_cons_succ]
        refine wpAnyH_take (i := 2) (oi := { dst := some 42, op := _, type := _, pos := _, after := _, guard := _ }) (v := ?v2) rfl (by kernel_rfl) (by kernel_rfl) (by kernel_rfl) (fun _ _ _ h => h) (Or.inl ⟨by kernel_rfl, ?y2⟩) (by assumption) ?r2
        case y2 => intro w hSw; (try dsimp only at hSw); go_simp; try with_reducible rfl
        try simp only [Act.put, List.setIfInBounds_toArray, List.set_cons_zero, List.set_cons_succ]
        refine wpAnyH_take (i := 3) (oi := { dst := some 43, op := _, type := _, pos := _, after := _, guard := _ }) (v := ?v3) rfl (by kernel_rfl) (by kernel_rfl) (by kernel_rfl) (fun _ _ _ h => h) (Or.inl ⟨by kernel_rfl, ?y3⟩) (by assumption) ?r3
        case y3 => intro w hSw; (try dsimp only at hSw); go_simp; try with_reducible rfl
        try simp only [Act.put, List.setIfInBounds_toArray, List.set_cons_zero, List.set_cons_succ]
        refine wpAnyH_take (i := 4) (oi := { dst := some 44, op := _, type := _, pos := _, after := _, guard := _ }) (v := ?v4) rfl (by kernel_rfl) (by kernel_rfl) (by kernel_rfl) (fun _ _ _ h => h) (Or.inl ⟨by kernel_rfl, ?y4⟩) (by assumption) ?r4
        case y4 => intro w hSw; (try dsimp only at hSw); go_simp; try with_reducible rfl
        try simp only [Act.put, List.setIfInBounds_toArray, List.set_cons_zero, List.set_cons_succ]
        refine wpAnyH_take (i := 5) (oi := { dst := some 45, op := _, type := _, pos := _, after := _, guard := _ }) (v := ?v5) rfl (by kernel_rfl) (by kernel_rfl) (by kernel_rfl) (fun _ _ _ h => h) (Or.inl ⟨by kernel_rfl, ?y5⟩) (by assumption) ?r5
        case y5 => intro w hSw; (try dsimp only at hSw); go_simp; try with_reducible rfl
        try simp only [Act.put, List.setIfInBounds_toArray, List.set_cons_zero, List.set_cons_succ]
        refine wpAnyH_take (i := 6) (oi := { dst := some 46, op := _, type := _, pos := _, after := _, guard := _ }) (v := ?v6) rfl (by kernel_rfl) (by kernel_rfl) (by kernel_rfl) (fun _ _ _ h => h) (Or.inl ⟨by kernel_rfl, ?y6⟩) (by assumption) ?r6
        case y6 => intro w hSw; (try dsimp only at hSw); go_simp; try with_reducible rfl
        try simp only [Act.put, List.setIfInBounds_toArray, List.set_cons_zero, List.set_cons_succ]
        refine wpAnyH_take (i := 7) (oi := { dst := some 47, op := _, type := _, pos := _, after := _, guard := _ }) (v := ?v7) rfl (by kernel_rfl) (by kernel_rfl) (by kernel_rfl) (fun _ _ _ h => h) (Or.inl ⟨by kernel_rfl, ?y7⟩) (by assumption) ?r7
        case y7 => intro w hSw; (try dsimp only at hSw); go_simp; try with_reducible rfl
        try simp only [Act.put, List.setIfInBounds_toArray, List.set_cons_zero, List.set_cons_succ]
        refine wpAnyH_take (i := 8) (oi := { dst := some 48, op := _, type := _, pos := _, after := _, guard := _ }) (v := ?v8) rfl (by kernel_rfl) (by kernel_rfl) (by kernel_rfl) (fun _ _ _ h => h) (Or.inl ⟨by kernel_rfl, ?y8⟩) (by assumption) ?r8
        case y8 => intro w hSw; (try dsimp only at hSw); go_simp; try with_reducible rfl
        try simp only [Act.put, List.setIfInBounds_toArray, List.set_cons_zero, List.set_cons_succ]
        refine wpAnyH_take (i := 9) (oi := { dst := some 49, op := _, type := _, pos := _, after := _, guard := _ }) (v := ?v9) rfl (by kernel_rfl) (by kernel_rfl) (by kernel_rfl) (fun _ _ _ h => h) (Or.inl ⟨by kernel_rfl, ?y9⟩) (by assumption) ?r9
        case y9 => intro w hSw; (try dsimp only at hSw); go_simp; try with_reducible rfl
        try simp only [Act.put, List.setIfInBounds_toArray, List.set_cons_zero, List.set_cons_succ]
        refine wpAnyH_ready (rs := [10]) (by kernel_rfl) (by simp) ?_
        refine AllReadyH.cons (o := { dst := some 50, op := _, type := _, pos := _, after := _, guard := _ }) rfl (fun K hK => ?_) AllReadyH.nil
        go_simp
        refine hK.out _ _ (⟨(World.cell?_alloc_lt _ _ _ hb0d).trans pk0.1, (World.cell?_alloc_lt _ _ _ hb1d).trans pk0.2⟩) (fun hHeld2 => ?_)
        clear hK K
        try simp only [Act.put, List.setIfInBounds_toArray, List.set_cons_zero, List.set_cons_succ]
        refine wpAnyH_ready (rs := [11]) (by kernel_rfl) (by simp) ?_
        refine AllReadyH.cons (o := { dst := some 51, op := _, type := _, pos := _, after := _, guard := _ }) rfl (fun K hK => ?_) AllReadyH.nil
        refine step_append_ints rfl (.tmp 40) (.tmp 50) 24 rfl w.heap.size 3 i0 (.int .i64 0) Try.underlying24 hi hz0 hz1 hz2 rfl u14 xs (by simp [Act.eval]) (Hod.out.alloc _) _ 0 1 [x + y] (by simp [Act.eval]) (arg_one _ (x + y) _) (by simp; omega) (by simp; omega) ?_
        intro v5 w5 hown5 hg5
        have hga : wr.drew.grownBy w5 u14.ownBlock := grown_then (World.grownBy_alloc _ _ _) hg5
        have hgl := fun r e => (Hod.out.lt r e).1
        have H5 := Lib.hid hown5
        have Hb5 := Lib.hid (Hbd.out.grown hga (by have := Hbd.out.size; exact this) hgl)
        have pk5 := And.intro ((World.cell?_of_block (hga.block b0 hb0d (fun e => by have := hgl _ e.symm; omega))).trans pk0.1) ((World.cell?_of_block (hga.block b1 hb1d (fun e => by have := hgl _ e.symm; omega))).trans pk0.2)
        clear hga hgl hg5 hown5
        refine hK.out _ _ (pk5) (fun hHeld2 => ?_)
        clear hK K
        try simp only [Act.put, List.setIfInBounds_toArray, List.set_cons_zero, List.set_cons_succ]
        refine wpAnyH_take (i := 12) (oi := { dst := some 14, op := _, type := _, pos := _, after := _, guard := _ }) (v := ?v12) rfl (by kernel_rfl) (by kernel_rfl) (by kernel_rfl) (fun _ _ _ h => h) (Or.inl ⟨by kernel_rfl, ?y12⟩) (by assumption) ?r12
        case y12 => intro w hSw; (try dsimp only at hSw); go_simp; try with_reducible rfl
        try simp only [Act.put, List.setIfInBounds_toArray, List.set_cons_zero, List.set_cons_succ]
        refine wpAnyH_done (by kernel_rfl) ?_ _
        go_wp2
        go_roundw
        case rel => exact ⟨k + 1, _, _, by omega, by go_num, rfl, by rw [Hs.out, Hx.out], H5.out, Hb5.out⟩
        case measure => simp [intOf]; omega
    · obtain rfl : k = L.length := by omega
      have Hsum := Lib.hid (show xs = sumL L M from Hx.out)
      have harg := Ow.of_own Ho.out
      obtain ⟨A2, c2, rfl, _, _, _⟩ := harg.form
      have Ra := Lib.hid (harg.arg (by omega) (Nat.le_refl _))
      clear harg
      go_wp2_with fail
      refine (specLoadValid_b n f t _ _ _ _ _ _ _ (HA.out.go Hb.out) Ra.out).mono ?_
      rintro e w3 ⟨rfl, hb3⟩
      have Ho3 := Lib.hid (own_below Ho.out hb3)
      have Hb3 := Lib.hid (below_step Hb.out hb3)
      clear hb3
      cases e3 : loadB n ss f t xs
      · have E := Lib.hid (add_no3 (n := n) (N := ss) (f := f) (t := t) (L := L) (M := M) (by rw [← Hsum.out]; exact e3))
        have N := Lib.hid (add_no E.out)
        clear e3
        go_wp2
        go_ret2
        rw [N.out, E.out]
        exact RetS.noneI (f := fun v => .tuple #[v, .bool false]) Hb3.out
      · have N := Lib.hid (add_yes E1.out E2.out (by rw [← Hsum.out]; exact e3))
        clear e3
        go_wp2
        go_ret2
        rw [N.out.1, N.out.2, ← Hsum.out]
        exact RetS.mk (f := fun v => .tuple #[v, .bool true]) (by omega) Ho3.out Hb3.out
end Go.Proofs.Ytbnpglljloaclaa
