/-
  StowageOut and StowageValid of the program.
-/
import Derived.Test.YtodboccadccpfaaLdT
namespace Go.Proofs.Ytodboccadccpfaa
open Go.RowKit

/-- what is left in the five tanks when m coils are paid out -/
def pilesOut (L T : List Int) (m : Nat) : List (List Int) := (List.range 5).map fun t => pileOut L T m t
theorem pilesOut_len (L T : List Int) (m : Nat) : (pilesOut L T m).length = 5 := by simp [pilesOut]
theorem pilesOut_get (L T : List Int) (m : Nat) {t : Nat} (ht : t < 5) : (pilesOut L T m)[t]? = some (pileOut L T m t) := by
  unfold pilesOut
  rw [List.getElem?_map, List.getElem?_range ht]
  rfl
theorem pilesOut_at (L T : List Int) (m : Nat) {t : Nat} (ht : t < 5) : pileAt (pilesOut L T m) t = pileOut L T m t := by
  unfold pileAt
  rw [pilesOut_get _ _ _ ht]
  rfl
theorem pilesOut_zero {L : List Int} (h : ordB L = true) (T : List Int) : pilesTo L T L.length = pilesOut L T 0 := by
  unfold pilesTo pilesOut
  exact List.map_congr_left fun t _ => (pileOut_zero h T t).symm
theorem pilesOut_small (L T : List Int) (m t : Nat) : (pileOut L T m t).length ≤ L.length := Nat.le_trans (List.length_filter_le _ _) (pileTo_len _ _ _ _)
theorem pileAt_small {L : List Int} (hl : L.length ≤ 100) (T : List Int) (m t : Nat) : (pileAt (pilesOut L T m) t).length ≤ 100 := by
  rcases Nat.lt_or_ge t 5 with h | h
  · rw [pilesOut_at _ _ _ h]
    have := pilesOut_small L T m t
    omega
  · rw [pile_out _ (by rw [pilesOut_len]; exact h)]
    simp
theorem acc_eq {z : List Int} {m : Int} : accP (fun y => decide (y = m)) z = true ↔ z.getLast? = some m := by
  cases z with
  | nil => simp [accP]
  | cons a r =>
    show decide (topI (a :: r) = m) = true ↔ _
    rw [decide_eq_true_eq]
    unfold topI
    rw [List.getLast?_eq_some_getLast (by simp)]
    simp
theorem pilesOut_succ {L T : List Int} (hb : baseB L T = true) {m : Nat} (hm : m < L.length) {t : Nat} (ht : t < 5) (h : (pileOut L T m t).getLast? = some (m : Int)) : pilesOut L T (m + 1) = (pilesOut L T m).set t (pileOut L T m t).dropLast := by
  obtain ⟨e1, e2⟩ := out_top hb hm h
  apply List.ext_getElem?
  intro j
  rcases Nat.lt_or_ge j 5 with hj | hj
  · rw [pilesOut_get _ _ _ hj, List.getElem?_set, pilesOut_len]
    by_cases htj : t = j
    · subst htj
      rw [if_pos rfl, if_pos ht, e2]
    · rw [if_neg htj, pilesOut_get _ _ _ hj, out_other hb hm (by rw [e1]; omega)]
  · rw [List.getElem?_eq_none (by rw [pilesOut_len]; exact hj), List.getElem?_eq_none (by rw [List.length_set, pilesOut_len]; exact hj)]
/-- the tanks from which they come, if it is a stowage -/
def outS (L T : List Int) : List Int := if stowB L T then outL L T L.length else []
theorem outS_no {L T : List Int} (h : stowB L T = false) : outS L T = [] := by unfold outS; rw [h]; rfl
theorem outS_yes {L T : List Int} (h : stowB L T = true) : outS L T = outL L T L.length := by unfold outS; rw [h]; rfl
/-- what the search for the next coil says -/
theorem first_out {L T : List Int} (hb : baseB L T = true) {m : Nat} (hm : m < L.length) {i : Int} (h : IsFirst (pilesOut L T m) (fun y => decide (y = (m : Int))) i) :
    (∃ t : Nat, i = t ∧ t < 5 ∧ (pileOut L T m t).getLast? = some (m : Int)) ∨ (i = -1 ∧ stowB L T = false) := by
  rcases h with ⟨t, rfl, ht, h1, _⟩ | ⟨rfl, h1⟩
  · rw [pilesOut_len] at ht
    rw [pilesOut_at _ _ _ ht, acc_eq] at h1
    exact .inl ⟨t, rfl, ht, h1⟩
  · refine .inr ⟨rfl, out_stuck hb hm fun t ht e => ?_⟩
    have h2 := h1 t (by rw [pilesOut_len]; exact ht)
    rw [pilesOut_at _ _ _ ht] at h2
    rw [acc_eq.2 e] at h2
    cases h2

section
variable {t u : TypeId} {lo : Nat} {ow : Nat → Nat} {W : World} {Q : List (List Int)}
theorem Hold.popped {g n c : Nat} {A : Option Addr} {c2 : Nat} {z : List Int} {k : Nat} (h : Hold t u lo ow W (.slice (some ⟨g, 0, none⟩) n c) Q) (hz : Q[k]? = some z) (hc : W.cell? ⟨g, k, none⟩ = some (.slice A z.length c2)) (hn : z ≠ []) :
    Hold t u lo ow (W.setCell ⟨g, k, none⟩ (.slice A z.dropLast.length c2)) (.slice (some ⟨g, 0, none⟩) n c) (Q.set k z.dropLast) := by
  obtain ⟨svs, hls, ho, h0, hp⟩ := h
  have hk : k < Q.length := (List.getElem?_eq_some_iff.1 hz).1
  have hnl : n = Q.length := by
    rcases ho.2 with ⟨e, _⟩ | ⟨_, _, _, e, _⟩
    · cases e
    · injection e
  subst hnl
  have hst := ho.stored k (.slice A z.dropLast.length c2)
  have hgs : W.grownBy (W.setCell ⟨g, k, none⟩ (.slice A z.dropLast.length c2)) (some g) := hst.2
  have hcc := ho.cellAt k (by omega)
  refine ⟨svs.set k (.slice A z.dropLast.length c2), by simp [hls], by rw [List.length_set]; exact hst.1, h0, fun j y hy => ?_⟩
  rw [List.getElem?_set] at hy
  by_cases hkj : k = j
  · subst hkj
    rw [if_pos rfl, if_pos hk] at hy
    injection hy with hy
    subst hy
    obtain ⟨x, hx, hxo, hxl⟩ := hp k z hz
    rw [hx, hc] at hcc
    injection hcc with hcc
    subst hcc
    refine ⟨_, List.getElem?_set_self (by omega), (own_drop hxo hn).kept hgs ?_, fun g2 h2 => hxl g2 (by cases A with
      | none => simp [Value.ownBlock] at h2
      | some a => simpa [Value.ownBlock] using h2)⟩
    have h3 := hxl.far h0 (show k + 2 ≠ 0 by omega)
    cases A with
    | none => exact .inl rfl
    | some a => exact h3.imp (fun e => by simp [Value.ownBlock] at e) (fun h4 e => h4 (by simpa [Value.ownBlock] using e))
  · rw [if_neg hkj] at hy
    obtain ⟨x, hx, hxo, hxl⟩ := hp j y hy
    refine ⟨x, by rw [List.getElem?_set_ne hkj]; exact hx, hxo.kept hgs ?_, hxl⟩
    exact (hxl.far h0 (by omega)).imp id fun h3 e => h3 (by rw [e]; rfl)
end

theorem set_grown (W : World) (g k : Nat) (v : Value) : W.grownBy (W.setCell ⟨g, k, none⟩ v) (some g) := ⟨rfl, rfl, rfl, by simp [World.setCell], fun i _ hne => Below.heap_setCell W ⟨g, k, none⟩ v i fun e => hne (by rw [e])⟩

set_option maxRecDepth 100000 in
theorem out1_c (x next : Int) (p : Nat) (w : World) (hc : w.cell? ⟨p, 0, none⟩ = some (.int .i64 next)) :
    Calls Try.prog 126 #[.int .i64 x, .pointer (some ⟨p, 0, none⟩)] w (RetB (.bool (decide (x = next))) w) := by
  go_enter Try.func126, Try.ntmps126
  go_wp2
  go_ret
  exact ⟨rfl, Below.refl _ _⟩

set_option maxRecDepth 100000 in
set_option maxHeartbeats 2000000 in
theorem implStowageOut_b (A0 : Option Addr) (c0 : Nat) (z0 : List Int) (A1 : Option Addr) (c1 : Nat) (z1 : List Int) (w : World) (h0 : Arg w A0 c0 z0) (h1 : Arg w A1 c1 z1) :
    Calls Try.prog 91 #[.slice A0 z0.length c0, .slice A1 z1.length c1] w (RetS 3 (fun v => .tuple #[v, .bool (stowB z0 z1)]) (outS z0 z1) w) := by
  have hl0 := h0.len
  have hl1 := h1.len
  have H0 := Lib.hid h0
  have H1 := Lib.hid h1
  obtain ⟨i0, hi, hz0, hz1, hz2⟩ := info_parts int_info
  clear h0 h1
  go_enter Try.func91, Try.ntmps91
  go_wp2_with fail
  refine (loadTanks_b A0 c0 z0 A1 c1 z1 _ H0.out H1.out).mono ?_
  rintro e w1 ⟨hb1, ⟨hbase, rfl⟩ | ⟨hbase, g, ow, rfl, hH⟩⟩
  · have Hn := Lib.hid (stow_no hbase)
    have Hb1 := Lib.hid hb1
    clear hbase hb1
    go_wp2
    go_ret2
    rw [Hn.out, outS_no Hn.out]
    exact RetS.nil (f := fun v => .tuple #[v, .bool false]) Hb1.out
  have Hbase := Lib.hid hbase
  have Hord := Lib.hid (baseB_true.1 hbase).1
  have h10 := ord_len Hord.out
  have HH := Lib.hid hH
  have Hb1 := Lib.hid hb1
  have Hs1 := Lib.hid hb1.size
  clear hbase hb1 hH
  go_wp2_with (at_make; refine wpList_make_own _ rfl _ _ 67 rfl w.heap.size 3 i0 (.int .i64 0) 1 Try.underlying67 hi hz0 hz1 .i64 .i64 _ z0.length rfl rfl (by omega) (by rw [hz2]; omega) (by unfold maxLen; omega) Hs1.out ?_; intro w2 hown hg2)
  have HB2 := Lib.hid (Hb1.out.grown hg2 Hs1.out (by simp))
  have HH2 := Lib.hid (((HH.out.label (j := 1)).kept (v := .slice none 0 0) (j := 1) (Lab.nil _ _) (.inl rfl) hg2))
  have HL2 := Lib.hid (show Lab (owAt ow w1.heap.size 1) 1 (.slice (some ⟨w1.heap.size, 0, none⟩) 0 z0.length) from fun g2 h2 => by simp [Value.ownBlock] at h2; unfold owAt; rw [if_pos (by omega)])
  have HO2 := Lib.hid hown
  rw [pilesOut_zero Hord.out] at HH2
  clear hown hg2
  go_loopw [8, 24] (fun tp i wr => ∃ (m : Nat) (ow : Nat → Nat) (tv : Value), m ≤ z0.length ∧ i = .int .i64 m ∧ tv = tp ∧ Hold 3 157 w.heap.size ow wr (.slice (some ⟨g, 0, none⟩) 5 5) (pilesOut z0 z1 m) ∧ wr.ownsRow w.heap.size 3 1 tv m ((outL z0 z1 m).map (Value.int .i64)) ∧ Lab ow 1 tv ∧ outTo z0 z1 m ∧ Below w.heap.size w wr) (fun _ i _ => z0.length - (intOf i).toNat)
  case atStart => exact ⟨0, _, _, Nat.zero_le _, rfl, rfl, HH2.out, HO2.out, HL2.out, outTo_zero Hord.out _, HB2.out⟩
  case round =>
    obtain ⟨m, ow, tv, hm, rfl, rfl, hH, hT, hL, hO, hb⟩ := hrel
    have HK := Lib.hid (hH.label (j := 1))
    have HT := Lib.hid hT
    have HL := Lib.hid (show Lab (owAt ow wr.heap.size 1) 1 tv from fun g hg => by unfold owAt; split; rfl; exact hL g hg)
    have HO := Lib.hid hO
    have Hb := Lib.hid hb
    clear hH hT hL hO hb
    obtain ⟨ow1, how1⟩ : ∃ ow1, owAt ow wr.heap.size 1 = ow1 := ⟨_, rfl⟩
    rw [how1] at HK HL
    clear how1
    by_cases hlt : m < z0.length
    · have Hfirst := Lib.hid (fun i => first_out Hbase.out hlt (i := i))
      have Hnext := Lib.hid (fun t => pilesOut_succ Hbase.out hlt (t := t))
      have Hgo := Lib.hid (fun t (ht : t < 5) h => out_next Hbase.out hlt ht h HO.out)
      have Htop := Lib.hid (fun t => out_top Hbase.out hlt (t := t))
      have Hts := Lib.hid (outL_succ z0 z1 m)
      have Hget := Lib.hid (fun t => pilesOut_get z0 z1 m (t := t))
      have HQl := Lib.hid (pilesOut_len z0 z1 m)
      have HQs := Lib.hid (pileAt_small (L := z0) (by omega) z1 m)
      obtain ⟨Q, hQ⟩ : ∃ Q, pilesOut z0 z1 m = Q := ⟨_, rfl⟩
      rw [hQ] at HK Hfirst Hnext Hget HQl HQs
      have g1 : (m : Int) < (z0.length : Int) := by omega
      have HB := Lib.hid (show Below wr.heap.size wr (wr.alloc (.cells #[.int .i64 m] 3)) from (Below.refl _ _).alloc (Nat.le_refl _) _)
      have Hbox := Lib.hid (show (wr.alloc (.cells #[.int .i64 m] 3)).cell? ⟨wr.heap.size, 0, none⟩ = some (.int .i64 m) from cell_of_row _ _ 0 _ _ _ (heap_alloc_new wr _))
      have HF := Lib.hid (firstTop_c 126 #[.pointer (some ⟨wr.heap.size, 0, none⟩)] (fun y => decide (y = (m : Int))) (some ⟨g, 0, none⟩) 5 Q (wr.alloc (.cells #[.int .i64 m] 3)) (fun args w => enters_of Try.func126 (by kernel_rfl) rfl args w) (HK.out.rd.go HB.out) (by have := HQl.out; omega) HQs.out
        (fun y W h => out1_c y m wr.heap.size W ((h.cell (p := ⟨wr.heap.size, 0, none⟩) (by simp)).trans Hbox.out)))
      rw [HQl.out] at HF
      clear hQ
      go_wp2_with fail
      refine HF.out.mono ?_
      rintro e w3 ⟨⟨i, rfl, hi3⟩, hb3⟩
      replace HK := Lib.hid ((HK.out.go HB.out).go hb3)
      replace HT := Lib.hid (own_below (own_below HT.out HB.out) hb3)
      replace Hb := Lib.hid (below_step (below_step Hb.out HB.out) hb3)
      clear hb3
      rcases Hfirst.out i hi3 with ⟨t, rfl, ht5, hlast⟩ | ⟨rfl, hno⟩
      · have Hto := Lib.hid (Hgo.out t ht5 hlast)
        have Hpn := Lib.hid (Hnext.out t ht5 hlast)
        have Htt := Lib.hid (Htop.out t hlast).1
        have Hz := Lib.hid (Hget.out t ht5)
        have hzs := pilesOut_small z0 z1 m t
        have hz0' : pileOut z0 z1 m t ≠ [] := fun e => by rw [e] at hlast; simp at hlast
        clear hi3 hlast
        obtain ⟨z, hz⟩ : ∃ z, pileOut z0 z1 m t = z := ⟨_, rfl⟩
        rw [hz] at Hpn Hz hzs hz0'
        obtain ⟨g', v, hA, hc2, hf2, ho2, hne2, hlg, hgw, hvl⟩ := HK.out.at_ Hz.out
        obtain rfl : g' = g := by injection hA with e; injection e with e; exact e.symm
        have hp : 0 < z.length := List.length_pos_iff.2 hz0'
        obtain ⟨gv, cv, hv, hvc, hvm⟩ : ∃ gv cv, v = .slice (some ⟨gv, 0, none⟩) z.length cv ∧ z.length ≤ cv ∧ cv ≤ maxLen := by
          rcases ho2.2 with ⟨_, h9⟩ | ⟨gv, cv, cur, e, _, _, h1, h2, _⟩
          · omega
          · exact ⟨gv, cv, e, h1, h2⟩
        subst hv
        have Hpop := Lib.hid (pop_c g' t (some ⟨gv, 0, none⟩) cv z.length w3 hc2 hf2 hp hvc hvm (by simp))
        have H6 := Lib.hid (HK.out.popped Hz.out hc2 hz0')
        have Hlg := Lib.hid hlg
        have Hdl := Lib.hid (show z.dropLast.length = z.length - 1 from List.length_dropLast)
        have g2 : (0 : Int) ≤ (t : Int) := by omega
        have g3 : (t : Int) < 5 := by omega
        have gneg : ((t : Int) < 0) = False := eq_false (by omega)
        have h0D := Lib.hid (show Lab ow1 0 (.slice (some ⟨g', 0, none⟩) 5 5) from by obtain ⟨_, _, _, h, _⟩ := HK.out; exact h)
        clear hz hzs hz0' hA hc2 hf2 ho2 hne2 hlg hgw hvl hp hvc hvm
        go_wp2_with fail
        refine Hpop.out.mono ?_
        rintro e w4 ⟨⟨r, rfl⟩, dm, rfl⟩
        rw [Hdl.out] at H6
        have H3 := Lib.hid (H6.out.go (below_drewN (Below.refl _ (w3.setCell ⟨g', t, none⟩ (.slice (some ⟨gv, 0, none⟩) (z.length - 1) cv))) dm))
        rw [← Hpn.out] at H3
        have T3 := Lib.hid (own_below (HT.out.kept (set_grown w3 g' t (.slice (some ⟨gv, 0, none⟩) (z.length - 1) cv)) (HL.out.far h0D.out (by omega))) (below_drewN (Below.refl _ (w3.setCell ⟨g', t, none⟩ (.slice (some ⟨gv, 0, none⟩) (z.length - 1) cv))) dm))
        have B3 := Lib.hid (below_drewN (Hb.out.setCell (p := ⟨g', t, none⟩) Hlg.out (.slice (some ⟨gv, 0, none⟩) (z.length - 1) cv)) dm)
        obtain ⟨W6, hW6⟩ : ∃ W6, (w3.setCell ⟨g', t, none⟩ (.slice (some ⟨gv, 0, none⟩) (z.length - 1) cv)).drewN dm = W6 := ⟨_, rfl⟩
        rw [hW6] at H3 T3 B3 ⊢
        clear hW6 H6
        go_wp2_with (at_builtin; refine wpList_append_new _ rfl _ _ 67 rfl w.heap.size 3 i0 (.int .i64 0) 1 8 Try.underlying67 hi hz0 hz1 hz2 rfl (by decide) tv m _ rfl (T3.out.alloc _) ⟨W6.heap.size, 0, none⟩ 1 1 [.int .i64 t] rfl rfl (one_new _ _ _) (by simp [Value.oneCell']) (by unfold maxLen; omega) (by omega) (by have := B3.out.size; simp; omega) ?_; intro tv2 w7 hown7 hgr7 hnew7; have H7 := Lib.hid (H3.out.tail T3.out HL.out hgr7 hnew7); have O7 := Lib.hid hown7; have B7 := Lib.hid ((B3.out.alloc (by have := B3.out.size; exact this) _).grown hgr7 (by have := B3.out.size; simp; omega) (fun r e => (T3.out.lt r e).1)); clear hown7 hgr7 hnew7)
        go_roundw
        case rel =>
          obtain ⟨ow7, h7, l7⟩ := H7.out
          exact ⟨m + 1, ow7, tv2, by omega, by go_num, rfl, h7, by rw [Hts.out, Htt.out, List.map_append]; exact O7.out, l7, Hto.out, B7.out⟩
        case measure => simp [intOf]; omega
      · have Hno := Lib.hid hno
        clear hi3 hno
        go_wp2
        go_ret2
        rw [Hno.out, outS_no Hno.out]
        exact RetS.nil (f := fun v => .tuple #[v, .bool false]) Hb.out
    · obtain rfl : m = z0.length := by omega
      have Hyes := Lib.hid (stow_of_out Hbase.out HO.out)
      go_wp2
      go_ret2
      rw [Hyes.out, outS_yes Hyes.out]
      exact RetS.mk (f := fun v => .tuple #[v, .bool true]) (by rw [outL_len]; omega) (by rw [outL_len]; exact HT.out) Hb.out

set_option maxRecDepth 100000 in
set_option maxHeartbeats 1000000 in
theorem implStowageValid_b (A0 : Option Addr) (c0 : Nat) (z0 : List Int) (A1 : Option Addr) (c1 : Nat) (z1 : List Int) (w : World) (h0 : Arg w A0 c0 z0) (h1 : Arg w A1 c1 z1) :
    Calls Try.prog 41 #[.slice A0 z0.length c0, .slice A1 z1.length c1] w (RetB (.bool (stowB z0 z1)) w) := by
  have H0 := Lib.hid h0
  have H1 := Lib.hid h1
  clear h0 h1
  go_enter Try.func41, Try.ntmps41
  go_wp2_with fail
  refine (implStowageOut_b A0 c0 z0 A1 c1 z1 _ H0.out H1.out).mono ?_
  rintro e w2 ⟨B, d, rfl, ha2, ho2, hb2⟩
  dsimp only
  have Hb2 := Lib.hid hb2
  clear ha2 ho2 hb2
  go_wp2
  go_ret
  exact ⟨rfl, Hb2.out⟩

end Go.Proofs.Ytodboccadccpfaa
