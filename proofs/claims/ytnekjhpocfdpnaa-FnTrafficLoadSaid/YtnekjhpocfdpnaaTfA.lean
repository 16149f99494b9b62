/-
  addWay of the program.
-/
import Derived.Test.YtnekjhpocfdpnaaTfG
namespace Go.Proofs.Ytnekjhpocfdpnaa
open Go.RowKit Go.Maps

/-- WHAT addWay LEAVES -/
def RetW (B : Nat) (L : List Int) (w : World) (e : Ending) (w' : World) : Prop := (∃ v, e = .returned v) ∧ Usg w' B L ∧ w.grownBy w' (some B)

set_option maxRecDepth 100000 in
set_option maxHeartbeats 4000000 in
theorem addWay_c (n : Int) (A W0 : Option Addr) (c d B lo hi lo2 hi2 : Nat) (ss : List Lin) (L s : List Int) (f : Int) (w : World) (ha : HeldL lo2 hi2 w A c ss) (hb : Held lo hi w W0 d (f :: s)) (hB : B < lo ∨ hi ≤ B) (hB2 : B < lo2 ∨ hi2 ≤ B)
    (hu : Usg w B L) (hn : netB n ss = true) (hc : chB ss L = true) (hw : wlkP ss L f s) (hs0 : 1 ≤ s.length) (hs9 : s.length ≤ 10) :
    Calls Try.prog 36 #[.map (some B), .slice A ss.length c, .slice W0 (f :: s).length d] w (RetW B (addC ss L f s) w) := by
  have hl := ha.arg.len
  have hl10 := (netB_true.1 hn).2.1
  have hd1 : (f :: s).length ≤ d := hb.arg.2.1
  have hd2 : d ≤ maxLen := hb.arg.2.2.1
  have hsl : (f :: s).length = s.length + 1 := by simp
  have HA := Lib.hid ha
  have HB := Lib.hid hb
  have HU := Lib.hid hu
  have Hn := Lib.hid hn
  have Hc := Lib.hid hc
  have Hw := Lib.hid hw
  obtain ⟨b0, off0, rfl, _, _, _⟩ := hb.1 (by rw [hsl]; omega)
  rw [hsl] at hd1 ⊢
  unfold maxLen at hd2
  have g0 : ¬ d = 1 := by omega
  have g1 : (1 : Int) ≤ (d : Int) := by omega
  have g2 : (1 : Int) ≤ ((s.length + 1 : Nat) : Int) := by omega
  have g2b : (((s.length + 1 : Nat) : Int) - 1).toNat = s.length := by omega
  have Hsl := Lib.hid hsl
  clear ha hb hu hn hc hw hsl
  go_enter Try.func36, Try.ntmps36
  go_wp2
  go_loopw [13] (fun i wr => ∃ (k : Nat) (M r : List Int) (x : Int), k ≤ s.length ∧ i = .int .i64 k ∧ Usg wr B M ∧ chB ss M = true ∧ wlkP ss M x r ∧ addC ss M x r = addC ss L f s ∧ (f :: s).drop k = x :: r ∧ w.grownBy wr (some B)) (fun i _ => s.length - (intOf i).toNat)
  case atStart => exact ⟨0, L, s, f, Nat.zero_le _, rfl, HU.out, Hc.out, Hw.out, rfl, rfl, World.grownBy.refl w _⟩
  case round =>
    obtain ⟨k, M, r, x, hk, rfl, hu, hc, hwk, he, hdr, hg⟩ := hrel
    have HU2 := Lib.hid hu
    have Hc2 := Lib.hid hc
    have He := Lib.hid he
    have Hg := Lib.hid hg
    have HA2 := Lib.hid (HA.out.grown hg (fun r e => by injection e with e; omega))
    have HB2 := Lib.hid (HB.out.grown hg (fun r e => by injection e with e; omega))
    have Hdr := Lib.hid hdr
    have Hwk := Lib.hid hwk
    clear hu hc he hg hdr hwk
    by_cases hlt : k < s.length
    · have hat : ∀ j, k + j < s.length + 1 → (f :: s)[k + j]?.getD 0 = (x :: r)[j]?.getD 0 := fun j hj => by
        rw [← Hdr.out, List.getElem?_drop]
      obtain ⟨y, r', rfl⟩ : ∃ y r', r = y :: r' := by
        cases r with
        | nil =>
          have := congrArg List.length Hdr.out
          simp at this; omega
        | cons y r' => exact ⟨y, r', rfl⟩
      obtain ⟨b', o', eb, _, _, hcell⟩ := HB2.out.1 (by rw [Hsl.out]; omega)
      injection eb with eb
      injection eb with e1 e2 _
      subst e1; subst e2
      have hx := hcell k (by rw [Hsl.out]; omega)
      have hy := hcell (k + 1) (by rw [Hsl.out]; omega)
      rw [show (f :: s)[k]?.getD 0 = x from hat 0 (by omega)] at hx
      rw [show (f :: s)[k + 1]?.getD 0 = y from hat 1 (by omega)] at hy
      rw [show off0 + (k + 1) = off0 + 1 + k by omega] at hy
      have hfr := Hwk.out.1.1
      rcases frI_case ss M x y with ⟨_, hno, _⟩ | ⟨i, hi, hfi, _, hfa, _⟩
      · rw [hno] at hfr; cases hfr
      have hil : i < M.length := by have := (chB_true.1 Hc2.out).1; omega
      have hbk := ch9 Hn.out Hc2.out i hil
      obtain ⟨bs, hbs⟩ : ∃ bs, bumpV ss M x i = bs := ⟨_, rfl⟩
      have hbump : bump ss M x y = M.set i bs := by unfold bump; rw [hfi, Int.toNat_natCast, hbs]
      have Hbump := Lib.hid hbump
      have Hnext : Hid (chB ss (bump ss M x y) = true ∧ wlkP ss (bump ss M x y) y r' ∧ addC ss (bump ss M x y) y r' = addC ss L f s) := Lib.hid ⟨(bump_spec Hn.out Hc2.out hfr).1, Hwk.out.2, by rw [← He.out]; rfl⟩
      have Hfi := Lib.hid hfi
      clear hcell hat hfr hfi hfa hbump Hwk
      have Hdr2 : Hid ((f :: s).drop (k + 1) = y :: r') := Lib.hid (by rw [← List.drop_drop, Hdr.out]; rfl)
      have g3 : (k : Int) < (s.length : Int) := by omega
      have g4 : (k : Int) < ((s.length + 1 : Nat) : Int) := by omega
      go_wp2_with fail
      refine (freeLine_c _ _ _ _ _ _ _ _ _ HA2.out.arg HU2.out Hn.out Hc2.out).mono ?_
      rintro e w1 ⟨rfl, hb1⟩
      rw [Hfi.out]
      have Hb1 := Lib.hid hb1
      obtain ⟨b1, off1, rfl, _, hb2, hc0, hc1, hc2⟩ := (HA2.out.go hb1).arg.rd.at_ hi
      obtain ⟨D, hown, hsz, hD⟩ := (HU2.out.go hb1).look
      have hw0 : (Lit.int .i64 (i : Int)).wf = true := wf_of (by omega)
      have hrun := (HU2.out.go hb1).run hil hw0
      obtain ⟨l, hl2⟩ : ∃ l, ldAt M i = l := ⟨_, rfl⟩
      have hbv : bs = if (linAt ss i).a = x then l + 1 else l - 1 := by rw [← hbs, ← hl2]; rfl
      rw [hl2] at hrun hbk
      obtain ⟨sl, hsl⟩ : ∃ sl, linAt ss i = sl := ⟨_, rfl⟩
      rw [hsl] at hc0 hc1 hc2 hbv
      have HD := Lib.hid hD
      have Hsz := Lib.hid hsz
      have Hown := Lib.hid hown
      have Hw0 := Lib.hid hw0
      clear hb1 hown hsz hD hw0 hl2 hsl hbs Hfi
      obtain ⟨q1, q2⟩ := hbk
      have g5 : (i : Int) < (ss.length : Int) := by omega
      have Hfin : Hid (∀ W, W.ownsMap Try.prog 3 (plainElem Try.prog 3) B (M.length + 1) (D.put (.int .i64 (i : Int)) (.lit (.int .i64 bs))) → Usg W B (bump ss M x y)) := Lib.hid (fun W h => by rw [Hbump.out]; exact Usg.set HD.out Hsz.out hil Hw0.out Hown.out h)
      have hml : M.length < maxLen := by
        have := (chB_true.1 Hc2.out).1
        unfold maxLen; omega
      have Hml := Lib.hid hml
      clear hml
      have Hgr : Hid (w.grownBy w1 (some B)) := Lib.hid (grown_then Hg.out (grown_of_below Hb1.out (some B)))
      cases x1 : (sl.a == x)
      · have hbs : bs = l - 1 := by
          rw [hbv, if_neg]
          intro e
          rw [e] at x1
          simp at x1
        have Hbs := Lib.hid hbs
        have Hwf : Hid ((Lit.int .i64 (l - 1)).wf = true) := Lib.hid (wf_of (by omega))
        clear hbv hbs
        go_wp2_with (first
          | (at_mapUpdate; refine wpList_mapUpdate_own _ rfl _ _ _ 51 rfl 3 3 keyI Try.underlying51 _ B _ _ rfl Hown.out Hml.out _ _ _ rfl rfl (keyOf_int_mk Try.underlying3 Hw0.out) _ [] (plainElem_int Try.underlying3 Hwf.out) ?_; intro w2 hown1 hgrow1)
          | go_in)
        have Hown1 := Lib.hid hown1
        have Hgrow1 := Lib.hid hgrow1
        clear hown1 hgrow1
        go_roundw
        case rel => exact ⟨k + 1, bump ss M x y, r', y, by omega, by go_num, Hfin.out _ (by rw [Hbs.out]; exact Hown1.out), Hnext.out.1, Hnext.out.2.1, Hnext.out.2.2, Hdr2.out, grown_then Hgr.out Hgrow1.out⟩
        case measure => simp [intOf]; omega
      · have hbs : bs = l + 1 := by
          rw [hbv, if_pos]
          simpa using x1
        have Hbs := Lib.hid hbs
        have Hwf : Hid ((Lit.int .i64 (l + 1)).wf = true) := Lib.hid (wf_of (by omega))
        clear hbv hbs
        go_wp2_with (first
          | (at_mapUpdate; refine wpList_mapUpdate_own _ rfl _ _ _ 51 rfl 3 3 keyI Try.underlying51 _ B _ _ rfl Hown.out Hml.out _ _ _ rfl rfl (keyOf_int_mk Try.underlying3 Hw0.out) _ [] (plainElem_int Try.underlying3 Hwf.out) ?_; intro w2 hown1 hgrow1)
          | go_in)
        have Hown1 := Lib.hid hown1
        have Hgrow1 := Lib.hid hgrow1
        clear hown1 hgrow1
        go_roundw
        case rel => exact ⟨k + 1, bump ss M x y, r', y, by omega, by go_num, Hfin.out _ (by rw [Hbs.out]; exact Hown1.out), Hnext.out.1, Hnext.out.2.1, Hnext.out.2.2, Hdr2.out, grown_then Hgr.out Hgrow1.out⟩
        case measure => simp [intOf]; omega
    · obtain rfl : k = s.length := by omega
      have hr : r = [] := by
        have := congrArg List.length Hdr.out
        simp at this
        exact this
      subst hr
      have He2 : Hid (M = addC ss L f s) := Lib.hid (by rw [← He.out]; rfl)
      go_wp2
      refine bodyPost_end (results_none rfl _ _ _) rfl ?_
      exact ⟨⟨_, rfl⟩, by rw [← He2.out]; exact HU2.out, Hg.out⟩

end Go.Proofs.Ytnekjhpocfdpnaa
