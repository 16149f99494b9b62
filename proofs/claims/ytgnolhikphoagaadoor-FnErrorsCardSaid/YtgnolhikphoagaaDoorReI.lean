/-
  messageOf and SignalRead of the program.
-/
import Derived.Test.YtgnolhikphoagaaDoorLtI
import Derived.Test.YtgnolhikphoagaaDoorVaI
import Derived.Test.YtgnolhikphoagaaDoorSgR
namespace Go.Proofs.YtgnolhikphoagaaDoor
open Go.RowKit

theorem split_pieces (s : ByteArray) : Lib.splitB ⟨#[48]⟩ 0 (Lib.countB s ⟨#[48]⟩) s = (splitL (byL s)).map str := by
  have h1 := Lib.splitB_data ⟨#[48]⟩ 0 (Lib.countB s ⟨#[48]⟩) s
  have h2 : Lib.countB s ⟨#[48]⟩ = (byL s).count 48 := Lib.count_one 48 (byL s)
  have h3 : Lib.splitK [48] 0 ((byL s).count 48) (byL s) = splitL (byL s) := splitK_L (byL s)
  have h4 : (Lib.splitB ⟨#[48]⟩ 0 (Lib.countB s ⟨#[48]⟩) s).map byL = splitL (byL s) := by
    rw [← h3, ← h2]; exact h1
  rw [← h4, List.map_map]
  conv => lhs; rw [← List.map_id (Lib.splitB ⟨#[48]⟩ 0 (Lib.countB s ⟨#[48]⟩) s)]
  apply List.map_congr_left
  intro x _
  exact (str_by x).symm
theorem split_sig (s : ByteArray) (w : World) (hT : Tab w) (hs : s.size ≤ 1048576) :
    Calls Tryd.prog 60 #[.string s, .string ⟨#[48]⟩] w fun e w' =>
      e = .returned (.slice (some ⟨w.heap.size, 0, none⟩) (splitL (byL s)).length (splitL (byL s)).length) ∧ w' = w.alloc (.cells (txCells (splitL (byL s))).toArray 9) := by
  have h := split_c s ⟨#[48]⟩ w hT hs (by decide)
  have hp := split_pieces s
  have hl := Lib.splitB_all ⟨#[48]⟩ (by decide) 0 _ s rfl
  have e : (Lib.splitB ⟨#[48]⟩ 0 (Lib.countB s ⟨#[48]⟩) s).map Value.string = txCells (splitL (byL s)) := by
    rw [hp, List.map_map]
    rfl
  rw [hp, List.length_map] at hl
  rw [← hl, e] at h
  exact h

set_option maxHeartbeats 2000000 in
theorem messageOf_b (s : ByteArray) (A : Option Addr) (w : World) (hs : s.size ≤ 1048576) (ht : Tree w 5 1 A) (hT : Tab w) :
    Calls Tryd.prog 45 #[.pointer A, .string s] w (RetB (.tuple #[.string (str (msV (byL s))), .bool (msB (byL s))]) w) := by
  by_cases h0 : byL s = []
  · have hem : s.toList.isEmpty = true := by rw [toList_by, h0]; rfl
    have H0 := Lib.hid h0
    clear h0 ht hT
    go_enter Tryd.func45, Tryd.ntmps45
    go_wp2
    go_ret2
    exact ⟨by rw [H0.out, msB_nil, msV_nil]; rfl, Below.refl _ _⟩
  have hem : s.toList.isEmpty = false := by
    rw [toList_by]
    cases e : byL s with
    | nil => exact absurd e h0
    | cons x r => rfl
  have HSp := Lib.hid (split_sig s w hT hs)
  have hmem := fun p => splitL_part (byL s) p
  have hpl := splitL_len (byL s)
  have hlong := fun h => msB_long h0 h
  have hnot := fun p hp h2 => msB_not (p := p) h0 hp h2
  have hyes := fun h2 h3 => msB_yes h0 h2 h3
  obtain ⟨P, hP⟩ : ∃ P, splitL (byL s) = P := ⟨_, rfl⟩
  rw [byL_len] at hpl
  simp only [hP, byL_len] at HSp hmem hlong hnot hyes
  rw [hP] at hpl
  have hPs : P.length ≤ 1048577 := by omega
  have Hmem := Lib.hid hmem
  have Hnot := Lib.hid hnot
  have Hyes := Lib.hid hyes
  have H0 := Lib.hid h0
  have Hht := Lib.hid ht
  clear hmem hnot hyes h0 hT ht hP hpl
  by_cases h12 : 12 < P.length
  · have hb := hlong h12
    have HV := Lib.hid (And.intro hb (msV_no hb))
    have g1 : (12 : Int) < (P.length : Int) := by omega
    clear hb hlong
    go_enter Tryd.func45, Tryd.ntmps45
    go_wp2_with fail
    refine HSp.out.mono ?_
    rintro e w1 ⟨rfl, rfl⟩
    go_wp2
    go_ret2
    exact ⟨by rw [HV.out.1, HV.out.2]; rfl, (Below.refl _ _).alloc (Nat.le_refl _) _⟩
  have g1 : ¬ (12 : Int) < (P.length : Int) := by omega
  clear hlong
  go_enter Tryd.func45, Tryd.ntmps45
  go_wp2_with fail
  refine HSp.out.mono ?_
  rintro e w1 ⟨rfl, hw1⟩
  have hb1 : Below w.heap.size w w1 := by rw [hw1]; exact (Below.refl _ _).alloc (Nat.le_refl _) _
  have hcell : ∀ j x, P[j]? = some x → w1.cell? ⟨w.heap.size, j, none⟩ = some (.string (str x)) := by
    intro j x hx
    rw [hw1]
    refine (World.cell?_alloc_at (w := w) _ 9 w.heap.size j rfl).trans ?_
    rw [List.getElem?_toArray, txCells_at, hx]
    rfl
  obtain ⟨B, hB⟩ : ∃ B, w.heap.size = B := ⟨_, rfl⟩
  have Ht1 := Lib.hid (Hht.out.go hb1)
  rw [hB] at hcell ⊢
  have Hcell := Lib.hid hcell
  have Hb1 := Lib.hid hb1
  clear hw1 hb1 hcell hB
  go_wp2
  go_loopw [7, 20] (fun t i wr => ∃ k q : Nat, k ≤ P.length ∧ i = .int .i64 k ∧ t = .string (str (msT (P.take k))) ∧ (∀ j, j < k → lt5 (P[j]?.getD []) ≠ []) ∧ wr = w1.drewN q) (fun _ i _ => P.length - (intOf i).toNat)
  case atStart => exact ⟨0, 0, Nat.zero_le _, rfl, rfl, fun j hj => absurd hj (by omega), rfl⟩
  case round =>
    obtain ⟨k, q, hk, rfl, rfl, hall, rfl⟩ := hrel
    have Hall := Lib.hid hall
    clear hall
    by_cases hlt : k < P.length
    · have hpk : P[k]? = some P[k] := List.getElem?_eq_getElem hlt
      have hpm : P[k] ∈ P := List.getElem_mem hlt
      have hc := Hcell.out k P[k] hpk
      have hps := (Hmem.out _ hpm).2
      have hnk := fun h => Hnot.out _ hpm h
      have htk : P.take (k + 1) = P.take k ++ [P[k]] := List.take_succ_eq_append_getElem hlt
      obtain ⟨p, hp⟩ : ∃ p, P[k] = p := ⟨_, rfl⟩
      rw [hp] at hc hps hnk htk hpk
      have hps2 : (str p).size ≤ 1048576 := by rw [str_size]; omega
      have hlc := letterOf_c w1 5 1 A Ht1.out (str p) hps2 q
      rw [by_str] at hlc
      have hll := lt5_len p
      have hl5 : ltr 5 1 p = lt5 p := rfl
      rw [hl5] at hlc
      have hc' : (w1.drewN q).cell? ⟨B, k, none⟩ = some (.string (str p)) := hc
      obtain ⟨W, hW⟩ : ∃ W, w1.drewN q = W := ⟨_, rfl⟩
      rw [hW] at hc' hlc ⊢
      obtain ⟨X, hX⟩ : ∃ X, str p = X := ⟨_, rfl⟩
      rw [hX] at hc' hlc
      have Htk := Lib.hid htk
      have g2 : (k : Int) < (P.length : Int) := by omega
      have HW := Lib.hid hW
      have Hpk := Lib.hid hpk
      by_cases hl0 : lt5 p = []
      · have hb := hnk hl0
        have HV := Lib.hid (And.intro hb (msV_no hb))
        rw [hl0] at hlc
        have he : (str []).toList.isEmpty = true := str_empty
        obtain ⟨E, hE⟩ : ∃ E, str [] = E := ⟨_, rfl⟩
        rw [hE] at hlc he
        have HLc := Lib.hid hlc
        clear hE hlc hb hl0 hnk hc hps hps2 hll htk hp hpm hX hW hpk hl5
        go_wp2_with fail
        refine HLc.out.mono ?_
        rintro e w2 ⟨rfl, q2, rfl⟩
        go_wp2
        go_ret2
        exact ⟨by rw [HV.out.1, HV.out.2]; rfl, by rw [← HW.out]; exact below_drewN (below_drewN Hb1.out q) q2⟩
      · have he : (str (lt5 p)).toList.isEmpty = false := str_full hl0
        have Hl0 := Lib.hid hl0
        obtain ⟨L, hL⟩ : ∃ L, str (lt5 p) = L := ⟨_, rfl⟩
        have zL : L.size ≤ 1 := by rw [← hL, str_size]; exact hll
        rw [hL] at hlc he
        have HLc := Lib.hid hlc
        have HL := Lib.hid hL
        obtain ⟨acc, hacc⟩ : ∃ acc, str (msT (P.take k)) = acc := ⟨_, rfl⟩
        have za : acc.size ≤ 12 := by
          rw [← hacc, str_size]
          have := msT_len (P.take k)
          have := List.length_take_le k P
          omega
        rw [hacc]
        have Hacc := Lib.hid hacc
        have y1 : (9223372036854775807 < acc.size + L.size) = False := by rw [eq_iff_iff, iff_false]; omega
        clear hL hlc hl0 hnk hc hps hps2 hll htk hp hpm hX hW hacc hpk hl5
        go_wp2_with fail
        refine HLc.out.mono ?_
        rintro e w2 ⟨rfl, q2, rfl⟩
        go_wp2
        go_roundw
        case rel =>
          refine ⟨k + 1, q + q2, by omega, by go_num, by rw [Htk.out, msT_snoc, ← str_append, Hacc.out, HL.out], ?_, by rw [← HW.out]; exact World.drewN_drewN _ _ _⟩
          intro j hj
          rcases Nat.lt_or_ge j k with h | h
          · exact Hall.out j h
          · obtain rfl : j = k := by omega
            rw [Hpk.out]
            exact Hl0.out
        case measure => simp [intOf]; omega
    · obtain rfl : k = P.length := by omega
      have hy := Hyes.out (by omega) (fun p hp => by
        obtain ⟨j, hj, rfl⟩ := List.mem_iff_getElem.1 hp
        have := Hall.out j hj
        rw [List.getElem?_eq_getElem hj] at this
        exact this)
      have HV := Lib.hid hy
      rw [List.take_length]
      clear hy
      go_wp2
      go_ret2
      exact ⟨by rw [HV.out.1, HV.out.2]; rfl, below_drewN Hb1.out q⟩

set_option maxHeartbeats 1000000 in
theorem implSignalRead_b (s : ByteArray) (w : World) (hs : s.size ≤ 1048576) (hT : Tab w) : Calls Tryd.prog 14 #[.string s] w (RetB (.tuple #[.string (str (rdV (byL s))), .bool (rdB (byL s))]) w) := by
  have HS := Lib.hid (fun w => implSignalValid_b s w hs)
  cases h1 : sigB (byL s)
  · have HV := Lib.hid (rdV_no h1)
    rw [h1] at HS
    clear h1 hT
    go_enter Tryd.func14, Tryd.ntmps14
    go_wp2_with fail
    refine (HS.out _).mono ?_
    rintro e w1 ⟨rfl, hb1⟩
    have Hb1 := Lib.hid hb1
    clear hb1
    go_wp2
    go_ret2
    exact ⟨by rw [HV.out.1, HV.out.2]; rfl, Hb1.out⟩
  · have HV := Lib.hid (rdV_yes h1)
    rw [h1] at HS
    have HTb := Lib.hid hT
    clear h1 hT
    go_enter Tryd.func14, Tryd.ntmps14
    go_wp2_with fail
    refine (HS.out _).mono ?_
    rintro e w1 ⟨rfl, hb1⟩
    have HT1 := Lib.hid (HTb.out.go hb1)
    have Hb1 := Lib.hid hb1
    clear hb1
    go_wp2_with fail
    refine (codeTree_c _).mono ?_
    rintro e w2 ⟨A, rfl, ht, hb2⟩
    have HT2 := Lib.hid (HT1.out.go hb2)
    have Hb2 := Lib.hid (below_step Hb1.out hb2)
    have Ht := Lib.hid ht
    clear hb2 ht
    go_wp2_with fail
    refine (messageOf_b s A _ hs Ht.out HT2.out).mono ?_
    rintro e w3 ⟨rfl, hb3⟩
    have Hb3 := Lib.hid (below_step Hb2.out hb3)
    clear hb3
    go_wp2
    go_ret2
    exact ⟨by rw [HV.out.1, HV.out.2]; rfl, Hb3.out⟩

end Go.Proofs.YtgnolhikphoagaaDoor
