/-
  FaultBoth of the model.
-/
import Derived.Test.YtodboccadccpfaaFltFS
import Derived.Test.YtodboccadccpfaaFltB
import Derived.Test.YtodboccadccpfaaAppE
namespace Go.Proofs.Ytodboccadccpfaa
open Go.RowKit

/-- the test by which the model picks -/
def earP (ss : List Sec) (e : Rat2) (f : Flt) : Bool := decide (earR (upL ss f) (restL ss f) f.o = e)
theorem both_filter (ss : List Sec) (a : Int) (e : Rat2) : (findsL ss a yesP).filter (earP ss e) = findsL ss a (bothP ss a e) := by
  cases h : cab0 ss a
  · rw [findsL_no _ h, findsL_no _ h]
    rfl
  · rw [findsL_yes _ h, findsL_yes _ h]
    exact fltL_filter (rN ss) a (bothP ss a e) (mN ss + 1) (earP ss e) (fun m _ _ => rfl)
theorem finds_valid {ss : List Sec} {a : Int} {p : Nat → Bool} {f : Flt} (h : f ∈ findsL ss a p) : faultB ss f = true := by
  cases h0 : cab0 ss a
  · rw [findsL_no _ h0] at h
    simp at h
  · rw [findsL_yes _ h0] at h
    obtain ⟨hc, ha⟩ := cab0_true h0
    unfold fltL at h
    rw [List.mem_map] at h
    obtain ⟨m, hm, rfl⟩ := h
    rw [List.mem_filter, List.mem_range, Bool.and_eq_true] at hm
    have h8 := (mN_bd hc 0).2.2
    exact faultB_yes (inB_true.2 (by rw [milesI_yes hc]; dsimp only; omega)) hm.2.1
theorem finds_length {ss : List Sec} {a : Int} (p : Nat → Bool) : (findsL ss a p).length ≤ 401 := by
  unfold findsL
  split
  · rename_i h9
    have h8 := fltL_length (rN ss) a p (mN ss + 1)
    have h7 := (mN_bd (cab0_true h9).1 0).2.1
    omega
  · simp
theorem flt_mem {zs : List Flt} {k : Nat} (h : k < zs.length) : fltAt zs k ∈ zs := by rw [fltAt_lt h]; exact List.getElem_mem h
theorem flt_take {zs : List Flt} {k : Nat} (h : k < zs.length) : zs.take (k + 1) = zs.take k ++ [fltAt zs k] := by rw [fltAt_lt h, take_snoc zs h]
theorem filter_len (q : Flt → Bool) (zs : List Flt) (k : Nat) : ((zs.take k).filter q).length ≤ zs.length := by
  have h1 := List.length_filter_le q (zs.take k)
  have h2 := List.length_take_le' k zs
  omega

/-- the own row of what has been picked: none yet, or a row from B on -/
def Picked (n B g0 : Nat) (W : World) (v : Value) (ys : List Flt) : Prop :=
  W.ownsRow n 44 2 (.slice (some ⟨g0, 0, none⟩) 0 0) 0 [] ∧ ((ys = [] ∧ v = .slice (some ⟨g0, 0, none⟩) 0 0) ∨ W.ownsRow B 44 2 v ys.length (fltCells ys))
theorem Picked.go {n B g0 : Nat} {W W' : World} {v : Value} {ys : List Flt} (h : Picked n B g0 W v ys) (hb : Below W.heap.size W W') : Picked n B g0 W' v ys :=
  ⟨own_below h.1 hb, h.2.imp id fun h2 => own_below h2 hb⟩
theorem Picked.fin {n B g0 : Nat} {W : World} {v : Value} {ys : List Flt} (h : Picked n B g0 W v ys) (hn : n ≤ B) : W.ownsRow n 44 2 v ys.length (fltCells ys) := by
  rcases h.2 with ⟨rfl, rfl⟩ | h2
  · exact h.1
  · exact ((OwF.of_own h2).more hn (Nat.le_refl _)).1
theorem earV_one {ss : List Sec} {f : Flt} {p q : Int} (h : earR (upL ss f) (restL ss f) f.o = ⟨p, q⟩) (e : Rat2) : earP ss e f = (decide (p = e.t) && decide (q = e.l)) := by
  unfold earP
  rw [h]
  obtain ⟨t, l⟩ := e
  by_cases h1 : p = t <;> by_cases h2 : q = l <;> simp [h1, h2]

set_option maxRecDepth 100000 in
set_option maxHeartbeats 4000000 in
theorem specFaultBoth_b (A : Option Addr) (c : Nat) (ss : List Sec) (a : Int) (e : Rat2) (w : World) (ha : ArgC w A c ss) (ha2 : a ≤ 9223372036854775807) :
    Calls Try.prog 27 #[.slice A ss.length c, .int .i64 a, .agg #[.int .i64 e.t, .int .i64 e.l]] w (RetF 44 (fun v => .tuple #[v, .bool (cab0 ss a)]) (findsL ss a (bothP ss a e)) w) := by
  obtain ⟨i0, hi, hz0, hz1, hz2⟩ := info_parts fltInfo
  rw [← both_filter]
  obtain ⟨w0, hw0⟩ : ∃ w0, (w.alloc (.cells #[.int .i64 e.t, .int .i64 e.l] 30)).alloc (.cells #[] 44) = w0 := ⟨_, rfl⟩
  have hR : TwoAt 30 w0 w.heap.size e.t e.l := by rw [← hw0]; exact (TwoAt.new _ w e.t e.l).old _
  have hB : Below w.heap.size w w0 := by rw [← hw0]; exact ((Below.refl _ _).alloc (Nat.le_refl _) _).alloc (by simp) _
  have hown : w0.ownsRow w.heap.size 44 2 (.slice (some ⟨w.heap.size + 1, 0, none⟩) 0 0) 0 [] := by
    have h := World.ownsRow_made (w.alloc (.cells #[.int .i64 e.t, .int .i64 e.l] 30)) (base := w.heap.size) (e := 44) (size := 2) #[] 0 (by simp) (by simp) rfl
    rw [hw0] at h
    simpa using h
  have hs0 : w0.heap.size = w.heap.size + 2 := by rw [← hw0]; simp
  have HA := Lib.hid ha
  have HB := Lib.hid hB
  have HR := Lib.hid hR
  have HO := Lib.hid hown
  have Hw0 := Lib.hid hw0
  clear ha hB hown hw0 hR
  have hval := fun f (h : f ∈ findsL ss a yesP) => finds_valid h
  have hzl := finds_length (ss := ss) (a := a) yesP
  go_enter Try.func27, Try.ntmps27
  go_wp2_with fail
  rw [Hw0.out]
  refine (specFaultOne_b A c ss a _ (HA.out.go HB.out) ha2).mono ?_
  rintro e9 w1 ⟨D, d, rfl, ra, ro, rb⟩
  obtain ⟨zs, hzs⟩ : ∃ zs, findsL ss a yesP = zs := ⟨_, rfl⟩
  rw [hzs] at ra ro hval hzl ⊢
  have s1 := rb.size
  have HR1 := Lib.hid (HR.out.below rb (by omega))
  have HO1 := Lib.hid (own_below HO.out rb)
  have HB1 := Lib.hid (below_step HB.out rb)
  have HZ := Lib.hid (ro.held (Nat.le_refl _) ra.len)
  have Hval := Lib.hid hval
  have Hzs := Lib.hid hzs
  clear ra ro rb hval hzs
  dsimp only
  go_wp2
  go_loopw [8, 11] (fun o i wr => ∃ (k : Nat) (v : Value), k ≤ zs.length ∧ i = .int .i64 k ∧ v = o ∧ Picked w.heap.size w1.heap.size (w.heap.size + 1) wr v ((zs.take k).filter (earP ss e)) ∧ Below w.heap.size w wr ∧ HeldF w0.heap.size w1.heap.size wr D d zs ∧ TwoAt 30 wr w.heap.size e.t e.l) (fun _ i _ => zs.length - (intOf i).toNat)
  case atStart => exact ⟨0, _, Nat.zero_le _, rfl, rfl, ⟨HO1.out, .inl ⟨rfl, rfl⟩⟩, HB1.out, HZ.out, HR1.out⟩
  case round =>
    obtain ⟨k, v, hk, rfl, rfl, hpk, hb, hzr, hRr⟩ := hrel
    have Hpk := Lib.hid hpk
    have Hb := Lib.hid hb
    have HZr := Lib.hid hzr
    have HRr := Lib.hid hRr
    have hsz := hb.size
    have hhi := hzr.2.1
    have hRlt : w.heap.size < wr.heap.size := (Array.getElem?_eq_some_iff.1 hRr).1
    clear hpk hb hzr hRr
    by_cases hlt : k < zs.length
    · obtain ⟨b, off, rfl, _, hbh, hc0, hc1⟩ := HZr.out.1.at_ hlt
      have hv := Hval.out _ (flt_mem hlt)
      have Htk := Lib.hid (flt_take hlt)
      have hln := filter_len (earP ss e) zs k
      obtain ⟨f, hf⟩ : ∃ f, fltAt zs k = f := ⟨_, rfl⟩
      have Hf := Lib.hid hf
      rw [hf] at hc0 hc1 hv Htk
      have He := Lib.hid (earthV_yes hv)
      obtain ⟨⟨p, q⟩, hpq⟩ : ∃ pq, earR (upL ss f) (restL ss f) f.o = pq := ⟨_, rfl⟩
      rw [hpq] at He
      have Hpq := Lib.hid (earV_one hpq e)
      have g1 : (k : Int) < (zs.length : Int) := by omega
      obtain ⟨t, l⟩ := e
      dsimp only at HRr Hpq
      clear hv hf hpq
      by_cases hyes : p = t ∧ q = l
      · obtain ⟨rfl, rfl⟩ := hyes
        have Hn := Lib.hid (show (zs.take (k + 1)).filter (earP ss ⟨p, q⟩) = (zs.take k).filter (earP ss ⟨p, q⟩) ++ [f] by
          rw [Htk.out, List.filter_append]
          have : earP ss ⟨p, q⟩ f = true := by rw [Hpq.out]; simp
          simp [this])
        go_wp2_with fail
        refine (specFaultEarthed_b A c ss f _ (HA.out.go Hb.out)).mono ?_
        rintro e9 w3 ⟨rfl, hb3⟩
        rw [He.out]
        dsimp only [Rat2.v]
        have s3 := hb3.size
        have HR3 := Lib.hid ((HRr.out.below hb3 (by omega)).old (.cells #[.int .i64 p, .int .i64 q] 30))
        have Hpk3 := Lib.hid ((Hpk.out.go hb3).go ((Below.refl _ _).alloc (Nat.le_refl _) (.cells #[.int .i64 p, .int .i64 q] 30)))
        have HZ3 := Lib.hid ((HZr.out.go hb3).go ((Below.refl _ _).alloc (Nat.le_refl _) (.cells #[.int .i64 p, .int .i64 q] 30)))
        have Hb3 := Lib.hid ((below_step Hb.out hb3).alloc (by omega) (.cells #[.int .i64 p, .int .i64 q] 30))
        have k0 := (TwoAt.new 30 w3 p q).c0
        have k1 := (TwoAt.new 30 w3 p q).c1
        have r0 := HR3.out.c0
        have r1 := HR3.out.c1
        obtain ⟨b2, off2, e5, _, _, i0', i1'⟩ := HZ3.out.1.at_ hlt
        injection e5 with e5
        injection e5 with e6 e7 _
        subst e6
        subst e7
        rw [Hf.out] at i0' i1'
        clear hb3 hc0 hc1
        have hw3 : (w3.alloc (.cells #[.int .i64 p, .int .i64 q] 30)).heap.size = w3.heap.size + 1 := by simp
        rcases Hpk3.out.2 with ⟨hys, hvv⟩ | hown
        · have Hys := Lib.hid hys
          subst hvv
          clear hys
          go_wp2_with (at_builtin; refine wpList_append_first rfl _ _ 37 rfl w1.heap.size 44 i0 _ 2 16 Try.underlying37 hi hz0 hz1 hz2 rfl (by decide) ⟨w.heap.size + 1, 0, none⟩ rfl ⟨w3.heap.size + 1, 0, none⟩ 1 1 (fltCell f) rfl rfl (by have h := fltCell_new (w3.alloc (.cells #[.int .i64 p, .int .i64 q] 30)) f 44; rw [hw3] at h; exact h) (fltCell_one _) (by omega) (by unfold maxLen; omega) (by omega) (by simp; omega) ?_; intro v' w9 hown' hgrow; have H9 := Lib.hid (And.intro hown' hgrow); clear hown' hgrow)
          go_roundw
          case rel =>
            have hg9 := H9.out.2
            have hbn : Below (w3.heap.size + 1) (w3.alloc (.cells #[.int .i64 p, .int .i64 q] 30)) w9 := ((Below.refl _ _).alloc (by simp) _).grown hg9 (by simp) (by simp)
            have hbw : Below (w3.alloc (.cells #[.int .i64 p, .int .i64 q] 30)).heap.size (w3.alloc (.cells #[.int .i64 p, .int .i64 q] 30)) w9 := hbn.mono (by rw [hw3]; omega)
            refine ⟨k + 1, v', by omega, by go_num, rfl, ⟨own_below Hpk3.out.1 hbw, .inr ?_⟩, Hb3.out.trans (hbw.mono (by rw [hw3]; omega)), HZ3.out.go hbw, HR3.out.below hbw (by rw [hw3]; omega)⟩
            rw [Hn.out, Hys.out]
            exact H9.out.1
          case measure => simp [intOf]; omega
        · have Hown := Lib.hid hown
          go_wp2_with (at_builtin; refine wpList_append_own _ rfl _ _ 37 rfl w1.heap.size 44 i0 _ 2 16 Try.underlying37 hi hz0 hz1 hz2 rfl (by decide) v _ _ rfl (hown.alloc _) ⟨w3.heap.size + 1, 0, none⟩ 1 1 (fltCell f) rfl rfl (by have h := fltCell_new (w3.alloc (.cells #[.int .i64 p, .int .i64 q] 30)) f 44; rw [hw3] at h; exact h) (fltCell_one _) (by unfold maxLen; omega) (by omega) (by simp; omega) ?_; intro v' w9 hown' hgrow _; have H9 := Lib.hid (And.intro hown' hgrow); clear hown' hgrow)
          go_roundw
          case rel =>
            have hg9 := H9.out.2
            have hlt9 : ∀ r, v.ownBlock = some r → w1.heap.size ≤ r := fun r e => (Hown.out.lt r e).1
            have hga : (w3.alloc (.cells #[.int .i64 p, .int .i64 q] 30)).grownBy w9 v.ownBlock := grown_then (World.grownBy_alloc (w3.alloc (.cells #[.int .i64 p, .int .i64 q] 30)) (.cells #[.int .i64 f.m, .int .i64 f.o] 44) v.ownBlock) hg9
            refine ⟨k + 1, v', by omega, by go_num, rfl, ⟨Hpk3.out.1.kept hga (.inr fun e => ?_), .inr ?_⟩, Hb3.out.grown hga (by rw [hw3]; omega) (fun r e => ?_), HZ3.out.grown hga (fun r e => .inr (hlt9 r e)), ?_⟩
            · have := hlt9 _ e.symm
              dsimp only at this
              omega
            · rw [Hn.out, List.length_append, fltCells_snoc]
              exact H9.out.1
            · have := hlt9 r e
              omega
            · refine (hga.block _ (by rw [hw3]; omega) (fun e => ?_)).trans HR3.out
              have := hlt9 _ e.symm
              omega
          case measure => simp [intOf]; omega
      · have Hn := Lib.hid (show (zs.take (k + 1)).filter (earP ss ⟨t, l⟩) = (zs.take k).filter (earP ss ⟨t, l⟩) by
          rw [Htk.out, List.filter_append]
          have : earP ss ⟨t, l⟩ f = false := by
            rw [Hpq.out]
            simp only [Bool.and_eq_false_iff, decide_eq_false_iff_not]
            by_cases h1 : p = t
            · exact .inr fun h2 => hyes ⟨h1, h2⟩
            · exact .inl h1
          simp [this])
        have hyes2 : p = t → ¬ q = l := fun h1 h2 => hyes ⟨h1, h2⟩
        have Hyes := Lib.hid hyes2
        clear hyes hyes2
        by_cases h1 : p = t
        · subst h1
          have h2 := Hyes.out rfl
          go_wp2_with fail
          refine (specFaultEarthed_b A c ss f _ (HA.out.go Hb.out)).mono ?_
          rintro e9 w3 ⟨rfl, hb3⟩
          rw [He.out]
          dsimp only [Rat2.v]
          have s3 := hb3.size
          have HR3 := Lib.hid ((HRr.out.below hb3 (by omega)).old (.cells #[.int .i64 p, .int .i64 q] 30))
          have Hpk3 := Lib.hid ((Hpk.out.go hb3).go ((Below.refl _ _).alloc (Nat.le_refl _) (.cells #[.int .i64 p, .int .i64 q] 30)))
          have HZ3 := Lib.hid ((HZr.out.go hb3).go ((Below.refl _ _).alloc (Nat.le_refl _) (.cells #[.int .i64 p, .int .i64 q] 30)))
          have Hb3 := Lib.hid ((below_step Hb.out hb3).alloc (by omega) (.cells #[.int .i64 p, .int .i64 q] 30))
          have k0 := (TwoAt.new 30 w3 p q).c0
          have k1 := (TwoAt.new 30 w3 p q).c1
          have r0 := HR3.out.c0
          have r1 := HR3.out.c1
          clear hb3 hc0 hc1
          go_wp2
          go_roundw
          case rel => exact ⟨k + 1, v, by omega, by go_num, rfl, by rw [Hn.out]; exact Hpk3.out, Hb3.out, HZ3.out, HR3.out⟩
          case measure => simp [intOf]; omega
        · go_wp2_with fail
          refine (specFaultEarthed_b A c ss f _ (HA.out.go Hb.out)).mono ?_
          rintro e9 w3 ⟨rfl, hb3⟩
          rw [He.out]
          dsimp only [Rat2.v]
          have s3 := hb3.size
          have HR3 := Lib.hid ((HRr.out.below hb3 (by omega)).old (.cells #[.int .i64 p, .int .i64 q] 30))
          have Hpk3 := Lib.hid ((Hpk.out.go hb3).go ((Below.refl _ _).alloc (Nat.le_refl _) (.cells #[.int .i64 p, .int .i64 q] 30)))
          have HZ3 := Lib.hid ((HZr.out.go hb3).go ((Below.refl _ _).alloc (Nat.le_refl _) (.cells #[.int .i64 p, .int .i64 q] 30)))
          have Hb3 := Lib.hid ((below_step Hb.out hb3).alloc (by omega) (.cells #[.int .i64 p, .int .i64 q] 30))
          have k0 := (TwoAt.new 30 w3 p q).c0
          have k1 := (TwoAt.new 30 w3 p q).c1
          have r0 := HR3.out.c0
          have r1 := HR3.out.c1
          clear hb3 hc0 hc1
          go_wp2
          go_roundw
          case rel => exact ⟨k + 1, v, by omega, by go_num, rfl, by rw [Hn.out]; exact Hpk3.out, Hb3.out, HZ3.out, HR3.out⟩
          case measure => simp [intOf]; omega
    · obtain rfl : k = zs.length := by omega
      have hfin := Hpk.out.fin (by omega)
      rw [List.take_length] at hfin
      have hln := filter_len (earP ss e) zs zs.length
      rw [List.take_length] at hln
      obtain ⟨A9, c9, rfl, _, _, _⟩ := (OwF.of_own hfin).form
      have Hfin := Lib.hid hfin
      clear hfin
      go_wp2
      go_ret2
      rw [Hzs.out]
      exact RetF.mk (zs := zs.filter (earP ss e)) (sv := .slice A9 (zs.filter (earP ss e)).length c9) (f := fun v => .tuple #[v, .bool (cab0 ss a)]) (by omega) Hfin.out Hb.out

end Go.Proofs.Ytodboccadccpfaa
