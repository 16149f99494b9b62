/-
  CableText of the program.
-/
import Derived.Test.YtgidemhencbgdaaDoorTextW
import Derived.Test.YtgidemhencbgdaaDoorTextB
namespace Go.Proofs.YtgidemhencbgdaaDoor
open Go.RowKit

theorem text_small {ss : List Sec} (h : cabB ss = true) {xs ys : List (Nat × Sec)} {x : Nat × Sec} (hs : ss = secs xs ++ x.2 :: secs ys) : secOk x.2 = true ∧ (txtL (secs xs)).length ≤ 80 ∧ (xs ≠ [] → 1 ≤ (txtL (secs xs)).length) := by
  have hok := cabB_true.1 h
  refine ⟨hok.2 _ (by rw [hs]; simp), ?_, ?_⟩
  · cases xs with
    | nil => simp [secs, txtL]
    | cons y r =>
      have := (txtL_facts (s := y.2) (r := secs r) (fun z hz => hok.2 z (by rw [hs]; exact List.mem_append_left _ hz))).2.1
      have h8 := hok.1.2
      rw [hs] at h8
      rw [secs_cons] at h8 ⊢
      simp only [List.length_append, List.length_cons] at this h8
      omega
  · intro hx
    cases xs with
    | nil => exact absurd rfl hx
    | cons y r =>
      rw [secs_cons]
      exact (txtL_facts (s := y.2) (r := secs r) (fun z hz => hok.2 z (by rw [hs]; exact List.mem_append_left _ hz))).1

theorem chain_link {P : Nat → Prop} {w1 W : World} {C B : Nat} {ns xs ys : List (Nat × Sec)} {x : Nat × Sec} (h : Chain P w1 C ns) (hB : w1.heap.size = B) (hb : Below B w1 W) (hs : ns = xs ++ x :: ys) : LinkAt W x.1 x.2 (nxt ys) := by
  have hseg := (h.go (show Below w1.heap.size w1 W by rw [hB]; exact hb)).seg
  rw [hs] at hseg
  exact hseg.mid
theorem strCells_str (l : List UInt8) : Lib.strCells (str l) = Lib.byteCells l := by rw [Lib.strCells_eq]; simp [str]
theorem secT_str (s : Sec) : str (decT s.m) ++ ⟨#[109]⟩ ++ str (decT s.k) ++ ⟨#[107]⟩ ++ str (decT s.o) ++ ⟨#[111]⟩ = str (secT s) := by
  show str (decT s.m) ++ str [109] ++ str (decT s.k) ++ str [107] ++ str (decT s.o) ++ str [111] = str (secT s)
  simp only [str_append]
  rfl

set_option maxHeartbeats 4000000 in
theorem implCableText_b (A : Option Addr) (c : Nat) (ss : List Sec) (w : World) (ha : ArgC w A c ss) :
    Calls Tryd.prog 6 #[.slice A ss.length c] w (RetB (.string (str (textL ss))) w) := by
  have HA := Lib.hid ha
  clear ha
  cases hv : cabB ss
  · have Hv := Lib.hid hv
    have Ht := Lib.hid (textL_no hv)
    clear hv
    go_enter Tryd.func6, Tryd.ntmps6
    go_wp2_with fail
    refine (chainOf_no A c ss _ HA.out Hv.out).mono ?_
    rintro e w1 ⟨rfl, hb⟩
    have Hb := Lib.hid hb
    clear hb
    go_wp2
    go_ret
    exact ⟨by rw [Ht.out]; rfl, Hb.out⟩
  · have Hv := Lib.hid hv
    have Ht := Lib.hid (textL_yes hv)
    have hl := (cabB_true.1 hv).1.2
    clear hv
    go_enter Tryd.func6, Tryd.ntmps6
    go_wp2_with fail
    refine (chainOf_yes A c ss _ HA.out Hv.out).mono ?_
    rintro e w1 ⟨C, ns, rfl, hn, hC, hb⟩
    dsimp only
    have hc0 := hC.c0
    obtain ⟨u, hu⟩ := nxt_pointer ns
    rw [hu] at hc0
    have hclt := hC.lt
    have hc1 : ∀ o, (w1.alloc o).cell? ⟨C, 0, none⟩ = some (.pointer u) := fun o => by rw [World.cell?_alloc_lt _ _ _ hclt]; exact hc0
    have Hu := Lib.hid hu
    have Hb := Lib.hid hb
    have HC := Lib.hid hC
    have Hn := Lib.hid hn
    have hB0 := Lib.fresh_isBuilder 41 5 w1
    have HB0 := Lib.hid hB0
    have hw1 : w.heap.size ≤ w1.heap.size := hb.size
    clear hb hC hn hu hB0
    go_wp2
    clear hc0 hc1
    obtain ⟨B, hB⟩ : ∃ B, w1.heap.size = B := ⟨_, rfl⟩
    rw [hB] at HB0 hw1 ⊢
    have HBw := Lib.hid hB
    have Hb0 := Lib.hid (show Below B w1 (w1.alloc (.cells #[.pointer none, .slice none 0 0] 41)) by rw [← hB]; exact (Below.refl _ _).alloc (Nat.le_refl _) _)
    clear hB
    go_loopg [6] ns.length (fun k l wr => ∃ xs ys : List (Nat × Sec), ns = xs ++ ys ∧ ys.length = k ∧ l = nxt ys ∧ Lib.IsBuilder 41 5 B B (Lib.byteCells (txtL (secs xs))) wr ∧ Below B w1 wr)
    case atStart => exact ⟨[], ns, rfl, rfl, Hu.out.symm, HB0.out, Hb0.out⟩
    case round =>
      clear HB0 Hb0
      obtain ⟨xs, ys, hsp, hk, rfl, hI, hbw⟩ := hrel
      have HI := Lib.hid hI
      have Hbw := Lib.hid hbw
      have Hsp := Lib.hid hsp
      have Hk := Lib.hid hk
      have hBs : B ≤ wr.heap.size := by have := hbw.size; have := HBw.out; omega
      clear hI hbw hsp hk
      cases ys with
      | nil =>
        rw [nxt_nil]
        go_wp2_with fail
        refine (Tryd.Builder_String_any B B _ _ HI.out hBs).mono ?_
        rintro e w2 ⟨rfl, hb2⟩
        have Hb2 := Lib.hid hb2
        clear hb2
        go_wp2
        go_ret
        have e1 : secs xs = ss := by rw [← Hn.out, Hsp.out, List.append_nil]
        exact ⟨by rw [Ht.out, ← e1]; rfl, Hb.out.trans ((Hbw.out.trans Hb2.out).mono hw1)⟩
      | cons x ys' =>
        obtain ⟨v, hv⟩ := nxt_pointer ys'
        have he := split_secs Hsp.out Hn.out
        obtain ⟨hok, hl80, hne⟩ := text_small Hv.out he
        obtain ⟨⟨m1, m2⟩, ⟨k1, k2⟩, ⟨o1, o2⟩⟩ := secOk_true.1 hok
        have Hv2 := Lib.hid hv
        rw [nxt_cons]
        clear he hv hok
        obtain ⟨dm, hdm⟩ : ∃ dm, str (decT x.2.m) = dm := ⟨_, rfl⟩
        obtain ⟨dk, hdk⟩ : ∃ dk, str (decT x.2.k) = dk := ⟨_, rfl⟩
        obtain ⟨do_, hdo⟩ : ∃ do_, str (decT x.2.o) = do_ := ⟨_, rfl⟩
        have IM := Lib.hid (fun w => show Calls Tryd.prog 17 #[.int .i64 x.2.m] w fun e w' => e = .returned (.string dm) ∧ w' = w by rw [← hdm]; exact itoa_c _ w (by omega) (by omega))
        have IK := Lib.hid (fun w => show Calls Tryd.prog 17 #[.int .i64 x.2.k] w fun e w' => e = .returned (.string dk) ∧ w' = w by rw [← hdk]; exact itoa_c _ w (by omega) (by omega))
        have IQ := Lib.hid (fun w => show Calls Tryd.prog 17 #[.int .i64 x.2.o] w fun e w' => e = .returned (.string do_) ∧ w' = w by rw [← hdo]; exact itoa_c _ w (by omega) (by omega))
        have zm : dm.size ≤ 2 := by rw [← hdm, str_size]; exact (decT_len (by omega) (by omega)).2
        have zk : dk.size ≤ 2 := by rw [← hdk, str_size]; exact (decT_len (by omega) (by omega)).2
        have zo : do_.size ≤ 2 := by rw [← hdo, str_size]; exact (decT_len (by omega) (by omega)).2
        have Hdm := Lib.hid hdm
        have Hdk := Lib.hid hdk
        have Hdo := Lib.hid hdo
        clear hdm hdk hdo
        have zc1 : (⟨#[109]⟩ : ByteArray).size = 1 := rfl
        have zc2 : (⟨#[107]⟩ : ByteArray).size = 1 := rfl
        have zc3 : (⟨#[111]⟩ : ByteArray).size = 1 := rfl
        have z1 : (9223372036854775807 < dm.size + 1) = False := by rw [eq_iff_iff, iff_false]; omega
        have z2 : (9223372036854775807 < dm.size + 1 + dk.size) = False := by rw [eq_iff_iff, iff_false]; omega
        have z3 : (9223372036854775807 < dm.size + 1 + dk.size + 1) = False := by rw [eq_iff_iff, iff_false]; omega
        have z4 : (9223372036854775807 < dm.size + 1 + dk.size + 1 + do_.size) = False := by rw [eq_iff_iff, iff_false]; omega
        have z5 : (9223372036854775807 < dm.size + 1 + dk.size + 1 + do_.size + 1) = False := by rw [eq_iff_iff, iff_false]; omega
        by_cases hx0 : xs = []
        · subst hx0
          have HIW := Lib.hid (show Lib.IsBuilder 41 5 B B [] wr from HI.out)
          have HbW := Hbw
          have hBW := hBs
          go_wp2_with fail
          refine (Tryd.Builder_Len B B [] _ HIW.out).mono ?_
          rintro e w2 ⟨rfl, rfl⟩
          skip
          have hlk := chain_link HC.out HBw.out HbW.out Hsp.out
          have hm0 := hlk.c0
          have hm1 := hlk.c1
          have hm2 := hlk.c2
          clear hlk
          go_wp2
          refine wp_region_still_tail 23 (by kernel_rfl) (by kernel_rfl) ?_
          simp only [List.take_succ_cons, List.take_zero, List.drop_succ_cons, List.drop_zero]
          repeat (first | still_step | still_call (IM.out _) | still_call (IK.out _) | still_call (IQ.out _))
          try refine wpStill_nil ?_
          go_wp2_with fail
          refine (bldWrite_c B B _ _ _ (show Lib.IsBuilder 41 5 B B _ w2.drew from HIW.out) (by simp only [ByteArray.size_append, zc1, zc2, zc3]; simp; omega) hBW).mono ?_
          rintro e w5 ⟨⟨v5, rfl⟩, hi5, hb5⟩
          have Hb5 := Lib.hid (show Below B w1 w5 from HbW.out.trans (show Below B w2 w5 from ⟨hb5.os, hb5.tape, hb5.output, hb5.size, hb5.block⟩))
          have hm5 := (chain_link HC.out HBw.out Hb5.out Hsp.out).c3
          rw [Hv2.out] at hm5
          rw [← Hdm.out, ← Hdk.out, ← Hdo.out, secT_str, strCells_str] at hi5
          have Hi5 := Lib.hid hi5
          clear hi5 hb5 hm0 hm1 hm2
          go_wp2
          go_roundg ys'.length
          case measure => have := Hk.out; simp at this; omega
          case rel => exact ⟨[] ++ [x], ys', by rw [Hsp.out]; simp, rfl, Hv2.out.symm, by rw [show [] ++ [x] = [x] from rfl, show secs [x] = [x.2] from rfl, txtL_one]; exact Hi5.out, Hb5.out⟩
        · have hne1 := hne hx0
          obtain ⟨L, hL⟩ : ∃ L : Nat, (Lib.byteCells (txtL (secs xs))).length = L := ⟨_, rfl⟩
          have hL1 : 1 ≤ L := by rw [← hL, Lib.byteCells_length]; exact hne1
          have hL2 : L ≤ 80 := by rw [← hL, Lib.byteCells_length]; exact hl80
          have HL := Lib.hid hL
          have g0 : (0 : Int) < (L : Int) := by omega
          clear hL hl80 hne hne1
          go_wp2_with fail
          refine (Tryd.Builder_Len B B _ _ HI.out).mono ?_
          rintro e w2 ⟨rfl, rfl⟩
          rw [HL.out]
          go_wp2_with fail
          refine (bldWrite_c B B _ ⟨#[43]⟩ _ HI.out (by rw [HL.out]; show L + 1 ≤ _; omega) hBs).mono ?_
          rintro e w4 ⟨⟨v4, rfl⟩, hi4, hb4⟩
          have HIW := Lib.hid hi4
          have HbW := Lib.hid (Hbw.out.trans hb4)
          have hBW : B ≤ w4.heap.size := by have := hb4.size; omega
          have HL4 := Lib.hid (show (Lib.byteCells (txtL (secs xs)) ++ Lib.strCells ⟨#[43]⟩).length = L + 1 by rw [List.length_append, HL.out]; rfl)
          clear hi4 hb4
          skip
          have hlk := chain_link HC.out HBw.out HbW.out Hsp.out
          have hm0 := hlk.c0
          have hm1 := hlk.c1
          have hm2 := hlk.c2
          clear hlk
          go_wp2
          refine wp_region_still_tail 23 (by kernel_rfl) (by kernel_rfl) ?_
          simp only [List.take_succ_cons, List.take_zero, List.drop_succ_cons, List.drop_zero]
          repeat (first | still_step | still_call (IM.out _) | still_call (IK.out _) | still_call (IQ.out _))
          try refine wpStill_nil ?_
          go_wp2_with fail
          refine (bldWrite_c B B _ _ _ (show Lib.IsBuilder 41 5 B B _ w4.drew from HIW.out) (by simp only [ByteArray.size_append, zc1, zc2, zc3]; rw [HL4.out]; omega) hBW).mono ?_
          rintro e w5 ⟨⟨v5, rfl⟩, hi5, hb5⟩
          have Hb5 := Lib.hid (show Below B w1 w5 from HbW.out.trans (show Below B w4 w5 from ⟨hb5.os, hb5.tape, hb5.output, hb5.size, hb5.block⟩))
          have hm5 := (chain_link HC.out HBw.out Hb5.out Hsp.out).c3
          rw [Hv2.out] at hm5
          rw [← Hdm.out, ← Hdk.out, ← Hdo.out, secT_str, strCells_str] at hi5
          have Hi5 := Lib.hid hi5
          clear hi5 hb5 hm0 hm1 hm2
          go_wp2
          go_roundg ys'.length
          case measure => have := Hk.out; simp at this; omega
          case rel => exact ⟨xs ++ [x], ys', by rw [Hsp.out]; simp, rfl, Hv2.out.symm, by rw [secs_append, show secs [x] = [x.2] from rfl, txtL_snoc _ (by simpa [secs] using hx0), show (43 :: secT x.2) = [43] ++ secT x.2 from rfl, ← List.append_assoc, Lib.byteCells_append, Lib.byteCells_append]; exact Hi5.out, Hb5.out⟩

end Go.Proofs.YtgidemhencbgdaaDoor
