/-
  CablePlain of the model.
-/
import Derived.Test.YtndpdoiomoefpaaCPlain
import Derived.Test.YtndpdoiomoefpaaAppC
namespace Go.Proofs.Ytndpdoiomoefpaa
open Go.RowKit

theorem plainStep_miles (out : List Sec) (s : Sec) : milesL (plainStep out s) = milesL out + s.m := by
  rcases List.eq_nil_or_concat out with rfl | ⟨xs, l, rfl⟩
  · rw [plainStep_nil, milesL_cons, milesL_nil]; omega
  · rw [List.concat_eq_append]
    by_cases h : l.k = s.k ∧ l.o = s.o
    · rw [plainStep_same xs h.1 h.2, milesL_snoc, milesL_snoc]
      dsimp only
      omega
    · rw [plainStep_other xs h, milesL_snoc]
theorem plainStep_nonneg {out : List Sec} {s : Sec} (h : ∀ x ∈ out, 0 ≤ x.m) (hs : 0 ≤ s.m) : ∀ x ∈ plainStep out s, 0 ≤ x.m := by
  rcases List.eq_nil_or_concat out with rfl | ⟨xs, l, rfl⟩
  · rw [plainStep_nil]
    intro x hx
    simp only [List.mem_singleton] at hx
    rw [hx]
    exact hs
  · rw [List.concat_eq_append] at h ⊢
    have hl := h l (by simp)
    by_cases hc : l.k = s.k ∧ l.o = s.o
    · rw [plainStep_same xs hc.1 hc.2]
      intro x hx
      rcases List.mem_append.1 hx with hx | hx
      · exact h x (by simp [hx])
      · simp only [List.mem_singleton] at hx
        rw [hx]
        dsimp only
        omega
    · rw [plainStep_other xs hc]
      intro x hx
      rcases List.mem_append.1 hx with hx | hx
      · exact h x hx
      · simp only [List.mem_singleton] at hx
        rw [hx]
        exact hs
theorem plain_facts {ss : List Sec} (h : ∀ x ∈ ss, 0 ≤ x.m) (k : Nat) (hk : k ≤ ss.length) : milesL (plainL (ss.take k)) = milesL (ss.take k) ∧ ∀ x ∈ plainL (ss.take k), 0 ≤ x.m := by
  induction k with
  | zero => exact ⟨rfl, fun x hx => by simp [plainL] at hx⟩
  | succ k ih =>
    obtain ⟨i1, i2⟩ := ih (by omega)
    have hlt : k < ss.length := by omega
    rw [plain_take ss hlt]
    refine ⟨by rw [plainStep_miles, i1, take_snoc ss hlt, milesL_snoc], plainStep_nonneg i2 (h _ (List.getElem_mem hlt))⟩
theorem plain_good {ss : List Sec} (h : cabB ss = true) {k : Nat} (hk : k < ss.length) : Good (plainL (ss.take k) ++ [secAt ss k]) := by
  have hn : ∀ x ∈ ss, 0 ≤ x.m := fun x hx => (cab_small h x hx).1
  obtain ⟨i1, i2⟩ := plain_facts hn k (by omega)
  refine ⟨fun x hx => ?_, ?_⟩
  · rcases List.mem_append.1 hx with hx | hx
    · exact i2 x hx
    · simp only [List.mem_singleton] at hx
      rw [hx]
      exact hn _ (secAt_mem hk)
  · rw [milesL_snoc, i1, ← milesL_snoc, ← take_succ_at hk]
    have h1 := (cab_miles h).2
    have h2 := nonneg_sum (L := ss.drop (k + 1)) (fun x hx => hn x (List.mem_of_mem_drop hx))
    have h3 : milesL ss = milesL (ss.take (k + 1)) + milesL (ss.drop (k + 1)) := by rw [← milesL_append, List.take_append_drop]
    omega
theorem secCells_setm (xs : List Sec) (l : Sec) (z : Int) : (secCells (xs ++ [l])).set (xs.length * 3) (.int .i64 z) = secCells (xs ++ [⟨z, l.k, l.o⟩]) := by
  rw [secCells_append, secCells_append, List.set_append_right _ _ (by rw [secCells_length]; omega), secCells_length, Nat.sub_self]
  rfl

theorem own_ptrC {W : World} {base n k : Nat} {e : TypeId} {v : Value} {xs : List Value} (h : W.ownsRow base e 3 v n xs) (hn : n = k + 1) : ∃ g cap, v = .slice (some ⟨g, 0, none⟩) n cap ∧ n ≤ cap := by
  rcases h.2 with ⟨_, h0⟩ | ⟨g, cap, cur, h1, _, _, h2, _⟩
  · omega
  · exact ⟨g, cap, h1, h2⟩

set_option maxHeartbeats 4000000 in
set_option maxRecDepth 100000 in
theorem specCablePlain_b (A : Option Addr) (c : Nat) (ss : List Sec) (w : World) (ha : ArgC w A c ss) :
    Calls Try.prog 63 #[.slice A ss.length c] w (RetC 54 (fun v => .tuple #[v, .bool (cabB (plainX ss))]) (cabL (plainX ss)) w) := by
  obtain ⟨i0, hi, hz0, hz1, hz2⟩ := info_parts section_info
  obtain ⟨N, hN⟩ : ∃ N, N = if cabB ss then ss.length else 0 := ⟨_, rfl⟩
  have hl := ha.len
  have HA := Lib.hid ha
  have HN := Lib.hid hN
  have hNl : N ≤ ss.length := by rw [hN]; split <;> omega
  clear ha hN
  go_enter Try.func63, Try.ntmps63
  go_wp2
  go_loopw [4, 5] (fun o i wr => ∃ (k : Nat) (v : Value) (P : List Sec), k ≤ N ∧ i = .int .i64 k ∧ v = o ∧ P = plainL (ss.take k) ∧ wr.ownsRow w.heap.size 54 3 v P.length (secCells P) ∧ Below w.heap.size w wr) (fun _ i _ => ss.length - (intOf i).toNat)
  case atStart => exact ⟨0, _, [], Nat.zero_le _, rfl, rfl, rfl, World.ownsRow_made w #[] 0 (Nat.le_refl _) (by simp) rfl, (Below.refl _ _).alloc (Nat.le_refl _) _⟩
  case round =>
    obtain ⟨k, v, P, hk, rfl, rfl, hP, hok, hbk⟩ := hrel
    have Ha := Lib.hid (HA.out.go hbk)
    by_cases hlt : k < N
    · have hv : cabB ss = true := by
        have := HN.out
        cases h : cabB ss
        · rw [h] at this; simp at this; omega
        · rfl
      have Hv := Lib.hid hv
      have h16 := (cab_len hv).2
      have hkl : k < ss.length := by omega
      have hgood := plain_good hv hkl
      have hstep : plainL (ss.take (k + 1)) = plainStep P (secAt ss k) := by rw [plain_take ss hkl, secAt_lt hkl, hP]
      have hPl : P.length ≤ 8 := by
        have := plainL_length (ss.take k)
        rw [← hP, List.length_take] at this
        omega
      rw [← hP] at hgood
      have Hok := Lib.hid hok
      have Hbk := Lib.hid hbk
      clear hP hok hbk hv
      have g2 : (k : Int) < (ss.length : Int) := by omega
      have gN : (k : Int) < (ss.length : Int) := g2
      rcases List.eq_nil_or_concat P with rfl | ⟨Q, l, rfl⟩
      · rw [plainStep_nil] at hstep
        have Hst := Lib.hid hstep
        clear hstep hgood hPl
        obtain ⟨A1, c1, rfl, _, _, _⟩ := (OwC.of_own Hok.out).form
        go_wp2_with fail
        refine (specCableValid_c _ c ss _ Ha.out).mono ?_
        rintro e w2 ⟨rfl, hb2⟩
        rw [Hv.out]
        have Hok2 := Lib.hid (own_below Hok.out hb2)
        have Hb2 := Lib.hid (Hbk.out.trans (hb2.mono Hbk.out.size))
        obtain ⟨b, off, rfl, _, _, hc0, hc1, hc2⟩ := (Ha.out.go hb2).rd.at_ hkl
        obtain ⟨y, hy⟩ : ∃ y, secAt ss k = y := ⟨_, rfl⟩
        rw [hy] at hc0 hc1 hc2 Hst
        clear hy hb2 Hok Hbk
        go_wp2
        go_quiet (fail)
        generalize hW : w2.drewN _ = W
        have hokW : W.ownsRow w.heap.size 54 3 (.slice A1 0 c1) 0 [] := by rw [← hW]; exact Hok2.out
        have HbW := Lib.hid (show Below w.heap.size w W by rw [← hW]; exact below_drewN Hb2.out _)
        have cw0 : W.cell? ⟨b, off + k * 3, none⟩ = some (.int .i64 y.m) := by rw [← hW]; exact hc0
        have cw1 : W.cell? ⟨b, off + k * 3 + 1, none⟩ = some (.int .i64 y.k) := by rw [← hW]; exact hc1
        have cw2 : W.cell? ⟨b, off + k * 3 + 2, none⟩ = some (.int .i64 y.o) := by rw [← hW]; exact hc2
        clear hW hc0 hc1 hc2
        go_wp2_with (at_builtin; refine wpList_append_own _ rfl _ _ 45 rfl w.heap.size 54 i0 _ 3 24 Try.underlying45 hi hz0 hz1 hz2 rfl (by decide) (.slice A1 0 c1) 0 _ rfl (hokW.alloc _) ⟨W.heap.size, 0, none⟩ 1 1 (secCell y) rfl rfl (secCell_new _ _ _) (secCell_one _) (by unfold maxLen; omega) (by omega) (by have := HbW.out.size; simp; omega) ?_; intro v' w3 hown3 hg3 _)
        have hb3 : Below w.heap.size w w3 := (HbW.out.alloc HbW.out.size _).grown hg3 (by have := HbW.out.size; simp; omega) (fun r e => (hokW.lt r e).1)
        go_roundw
        case rel => exact ⟨k + 1, v', [y], by omega, by go_num, rfl, Hst.out.symm, by rw [secCells_one]; exact hown3, hb3⟩
        case measure => simp [intOf]; omega
      · rw [List.concat_eq_append] at *
        have hPl2 : Q.length ≤ 7 := by rw [List.length_append, List.length_singleton] at hPl; omega
        have hok1 := Hok.out
        rw [List.length_append, List.length_singleton] at hok1
        obtain ⟨g, cap, rfl, hcap⟩ := own_ptrC hok1 rfl
        have hgl := hok1.lt g rfl
        rw [List.append_assoc, List.singleton_append] at hgood
        obtain ⟨t1, t2, t3⟩ := hgood.two
        have Hok1 := Lib.hid hok1
        clear hok1 Hok hPl hgood
        go_wp2_with fail
        refine (specCableValid_c _ c ss _ Ha.out).mono ?_
        rintro e w2 ⟨rfl, hb2⟩
        rw [Hv.out]
        have hok2 := own_below Hok1.out hb2
        have Hb2 := Lib.hid (Hbk.out.trans (hb2.mono Hbk.out.size))
        obtain ⟨b, off, rfl, _, _, hc0, hc1, hc2⟩ := (Ha.out.go hb2).rd.at_ hkl
        obtain ⟨y, hy⟩ : ∃ y, secAt ss k = y := ⟨_, rfl⟩
        rw [hy] at hc0 hc1 hc2 hstep t2 t3
        have hd0 := hok2.cellAt (Q.length * 3) (by omega)
        have hd1 := hok2.cellAt (Q.length * 3 + 1) (by omega)
        have hd2 := hok2.cellAt (Q.length * 3 + 2) (by omega)
        have hfr := hok2.frozenAt (Q.length * 3)
        have qa : secAt (Q ++ [l]) Q.length = l := by simp [secAt]
        rw [secCells_0 (by simp), qa] at hd0
        rw [secCells_1 (by simp), qa] at hd1
        rw [secCells_2 (by simp), qa] at hd2
        have Hok2 := Lib.hid hok2
        clear hy hb2 Hbk hok2 qa Hok1
        have hlast : ((Q.length + 1 : Nat) : Int) - 1 = (Q.length : Int) := by omega
        have gl0 : (0 : Int) ≤ (Q.length : Int) := by omega
        have gl1 : (Q.length : Int) < ((Q.length + 1 : Nat) : Int) := by omega
        have gl2 : (Q.length : Int) < (cap : Int) := by omega
        have gl3 : (Q.length : Int) < (Q.length : Int) + 1 := by omega
        by_cases e1 : l.k = y.k
        · have b1 : (l.k == y.k) = true := by simp [e1]
          by_cases e2 : l.o = y.o
          · have b2 : (l.o == y.o) = true := by simp [e2]
            rw [plainStep_same Q e1 e2] at hstep
            have Hst := Lib.hid hstep
            have q1 : IntKind.i64.wrap (l.m + y.m) = l.m + y.m := IntWalk.i64_in _ (by omega)
            clear e1 e2 hstep
            go_wp2
            go_quiet (fail)
            generalize hW : w2.drewN _ = W
            have HokW := Lib.hid (show W.ownsRow w.heap.size 54 3 (.slice (some ⟨g, 0, none⟩) (Q.length + 1) cap) (Q.length + 1) (secCells (Q ++ [l])) by rw [← hW]; exact Hok2.out)
            have HbW := Lib.hid (show Below w.heap.size w W by rw [← hW]; exact below_drewN Hb2.out _)
            have cw0 : W.cell? ⟨b, off + k * 3, none⟩ = some (.int .i64 y.m) := by rw [← hW]; exact hc0
            have cg0 : W.cell? ⟨g, Q.length * 3, none⟩ = some (.int .i64 l.m) := by rw [← hW]; exact hd0
            have cf0 : W.frozen? ⟨g, Q.length * 3, none⟩ = false := by rw [← hW]; exact hfr
            clear hW hc0 hc1 hc2 hd0 hd1 hd2 hfr b1 b2
            go_wp2
            go_still_tail 15, (by kernel_rfl)
            go_wp2
            obtain ⟨ho3, hg3⟩ := HokW.out.stored (Q.length * 3) (.int .i64 (l.m + y.m))
            rw [secCells_setm] at ho3
            have hb3 := HbW.out.grown hg3 HbW.out.size (fun r e => by cases e; exact hgl.1)
            have Ho3 := Lib.hid ho3
            have Hb3 := Lib.hid hb3
            clear ho3 hg3 hb3
            go_roundw
            case rel => exact ⟨k + 1, _, Q ++ [⟨l.m + y.m, l.k, l.o⟩], by omega, by go_num, rfl, Hst.out.symm, by rw [List.length_append, List.length_singleton]; exact Ho3.out, below_drewN Hb3.out 1⟩
            case measure => simp [intOf]; omega
          · have b2 : (l.o == y.o) = false := by simp [e2]
            rw [plainStep_other Q (fun h => e2 h.2)] at hstep
            have Hst := Lib.hid hstep
            clear e1 e2 hstep
            go_wp2
            go_quiet (fail)
            generalize hW : w2.drewN _ = W
            have hokW : W.ownsRow w.heap.size 54 3 (.slice (some ⟨g, 0, none⟩) (Q.length + 1) cap) (Q.length + 1) (secCells (Q ++ [l])) := by rw [← hW]; exact Hok2.out
            have HbW := Lib.hid (show Below w.heap.size w W by rw [← hW]; exact below_drewN Hb2.out _)
            have cw0 : W.cell? ⟨b, off + k * 3, none⟩ = some (.int .i64 y.m) := by rw [← hW]; exact hc0
            have cw1 : W.cell? ⟨b, off + k * 3 + 1, none⟩ = some (.int .i64 y.k) := by rw [← hW]; exact hc1
            have cw2 : W.cell? ⟨b, off + k * 3 + 2, none⟩ = some (.int .i64 y.o) := by rw [← hW]; exact hc2
            clear hW hc0 hc1 hc2 hd0 hd1 hd2 hfr
            go_wp2_with (at_builtin; refine wpList_append_own _ rfl _ _ 45 rfl w.heap.size 54 i0 _ 3 24 Try.underlying45 hi hz0 hz1 hz2 rfl (by decide) (.slice (some ⟨g, 0, none⟩) (Q.length + 1) cap) (Q.length + 1) _ rfl (hokW.alloc _) ⟨W.heap.size, 0, none⟩ 1 1 (secCell y) rfl rfl (secCell_new _ _ _) (secCell_one _) (by unfold maxLen; omega) (by omega) (by have := HbW.out.size; simp; omega) ?_; intro v' w3 hown3 hg3 _)
            have hb3 : Below w.heap.size w w3 := (HbW.out.alloc HbW.out.size _).grown hg3 (by have := HbW.out.size; simp; omega) (fun r e => (hokW.lt r e).1)
            go_roundw
            case rel => exact ⟨k + 1, v', Q ++ [l] ++ [y], by omega, by go_num, rfl, Hst.out.symm, by rw [secCells_snoc, List.length_append, List.length_append, List.length_singleton, List.length_singleton]; exact hown3, hb3⟩
            case measure => simp [intOf]; omega
        · have b1 : (l.k == y.k) = false := by simp [e1]
          rw [plainStep_other Q (fun h => e1 h.1)] at hstep
          have Hst := Lib.hid hstep
          clear e1 hstep
          go_wp2
          go_quiet (fail)
          generalize hW : w2.drewN _ = W
          have hokW : W.ownsRow w.heap.size 54 3 (.slice (some ⟨g, 0, none⟩) (Q.length + 1) cap) (Q.length + 1) (secCells (Q ++ [l])) := by rw [← hW]; exact Hok2.out
          have HbW := Lib.hid (show Below w.heap.size w W by rw [← hW]; exact below_drewN Hb2.out _)
          have cw0 : W.cell? ⟨b, off + k * 3, none⟩ = some (.int .i64 y.m) := by rw [← hW]; exact hc0
          have cw1 : W.cell? ⟨b, off + k * 3 + 1, none⟩ = some (.int .i64 y.k) := by rw [← hW]; exact hc1
          have cw2 : W.cell? ⟨b, off + k * 3 + 2, none⟩ = some (.int .i64 y.o) := by rw [← hW]; exact hc2
          clear hW hc0 hc1 hc2 hd0 hd1 hd2 hfr
          go_wp2_with (at_builtin; refine wpList_append_own _ rfl _ _ 45 rfl w.heap.size 54 i0 _ 3 24 Try.underlying45 hi hz0 hz1 hz2 rfl (by decide) (.slice (some ⟨g, 0, none⟩) (Q.length + 1) cap) (Q.length + 1) _ rfl (hokW.alloc _) ⟨W.heap.size, 0, none⟩ 1 1 (secCell y) rfl rfl (secCell_new _ _ _) (secCell_one _) (by unfold maxLen; omega) (by omega) (by have := HbW.out.size; simp; omega) ?_; intro v' w3 hown3 hg3 _)
          have hb3 : Below w.heap.size w w3 := (HbW.out.alloc HbW.out.size _).grown hg3 (by have := HbW.out.size; simp; omega) (fun r e => (hokW.lt r e).1)
          go_roundw
          case rel => exact ⟨k + 1, v', Q ++ [l] ++ [y], by omega, by go_num, rfl, Hst.out.symm, by rw [secCells_snoc, List.length_append, List.length_append, List.length_singleton, List.length_singleton]; exact hown3, hb3⟩
          case measure => simp [intOf]; omega
    · obtain rfl : k = N := by omega
      cases hv : cabB ss
      · have hk0 : k = 0 := by
          have := HN.out
          rw [hv] at this
          simpa using this
        subst hk0
        obtain rfl : P = [] := by rw [hP]; rfl
        have Hfl := Lib.hid (plainX_no hv)
        have Hok := Lib.hid hok
        have Hbk := Lib.hid hbk
        have Hv := Lib.hid hv
        clear hv hok hbk hP
        obtain ⟨A1, c1, rfl, _, _, _⟩ := (OwC.of_own Hok.out).form
        by_cases h1 : 0 < ss.length
        · have g1 : (0 : Int) < (ss.length : Int) := by omega
          go_wp2_with fail
          refine (specCableValid_c A c ss _ Ha.out).mono ?_
          rintro e w2 ⟨rfl, hb2⟩
          rw [Hv.out]
          have Hok2 := Lib.hid (own_below Hok.out hb2)
          have Hb2 := Lib.hid (Hbk.out.trans (hb2.mono Hbk.out.size))
          clear hb2
          go_wp2_with fail
          refine (specCableValid_c A1 c1 [] _ ((OwC.of_own Hok2.out).arg (by simp) (Nat.le_refl _))).mono ?_
          rintro e w3 ⟨rfl, hb3⟩
          rw [cabB_nil]
          have Hb3 := Lib.hid (Hb2.out.trans (hb3.mono Hb2.out.size))
          clear hb3
          go_wp2
          go_ret2
          rw [Hfl.out, cabB_nil, cabL_no cabB_nil]
          exact RetC.made (f := fun v => .tuple #[v, .bool false]) Hb3.out
        · have g1 : ¬ ((0 : Int) < (ss.length : Int)) := by omega
          go_wp2_with fail
          refine (specCableValid_c A1 c1 [] _ ((OwC.of_own Hok.out).arg (by simp) (Nat.le_refl _))).mono ?_
          rintro e w3 ⟨rfl, hb3⟩
          rw [cabB_nil]
          have Hb3 := Lib.hid (Hbk.out.trans (hb3.mono Hbk.out.size))
          clear hb3
          go_wp2
          go_ret2
          rw [Hfl.out, cabB_nil, cabL_no cabB_nil]
          exact RetC.made (f := fun v => .tuple #[v, .bool false]) Hb3.out
      · have hk0 : k = ss.length := by
          have := HN.out
          rw [hv] at this
          simpa using this
        subst hk0
        rw [List.take_length] at hP
        have Hfl := Lib.hid (show plainX ss = P by rw [plainX_yes hv, hP])
        have hPl : P.length ≤ 8 := by
          have := plainL_length ss
          have := (cab_len hv).2
          rw [hP]
          omega
        have Hbk := Lib.hid hbk
        have ho4 := OwC.of_own hok
        obtain ⟨A1, c1, rfl, _, _, _⟩ := ho4.form
        have Ra := Lib.hid (ho4.arg (by omega) (Nat.le_refl _))
        have Ro := Lib.hid ho4
        clear ho4 hok hbk hP hv
        have g1 : ¬ ((ss.length : Int) < (ss.length : Int)) := by omega
        go_wp2_with fail
        refine (specCableValid_c A1 c1 P _ Ra.out).mono ?_
        rintro e w5 ⟨rfl, hb5⟩
        have HB5 := Lib.hid (Hbk.out.trans (hb5.mono Hbk.out.size))
        have Ra5 := Lib.hid (Ra.out.go hb5)
        have Ro5 := Lib.hid ((Ro.out.go hb5 (Nat.le_refl _)).more (Nat.le_refl _) hb5.size)
        clear hb5
        cases hv3 : cabB P
        · have Hv3 := Lib.hid hv3
          clear hv3
          go_wp2
          go_ret2
          rw [Hfl.out, cabL_no Hv3.out, Hv3.out]
          exact RetC.made (f := fun v => .tuple #[v, .bool false]) HB5.out
        · have Hv3 := Lib.hid hv3
          clear hv3
          go_wp2
          go_ret2
          rw [Hfl.out, cabL_yes Hv3.out, Hv3.out]
          exact ⟨A1, c1, rfl, Ra5.out, Ro5.out, HB5.out⟩

end Go.Proofs.Ytndpdoiomoefpaa
