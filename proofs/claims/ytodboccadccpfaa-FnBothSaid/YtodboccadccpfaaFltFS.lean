/-
  FaultOne, FaultFind of the model.
-/
import Derived.Test.YtodboccadccpfaaFltF
import Derived.Test.YtodboccadccpfaaBreakS
namespace Go.Proofs.Ytodboccadccpfaa
open Go.RowKit

theorem rest_bd {ss : List Sec} (hc : cabB ss = true) {k : Nat} (hk : k ≤ mN ss) : 0 ≤ ohmsL ss - rN ss k ∧ ohmsL ss - rN ss k ≤ 8000 := by
  have h8 := (mN_bd hc 0).2.2
  have h9 := sides_bd (ss := ss) (f := ⟨k, 0⟩) (faultB_yes (inB_true.2 (by rw [milesI_yes hc]; dsimp only; omega)) rfl)
  exact h9.2

set_option maxRecDepth 100000 in
set_option maxHeartbeats 2000000 in
theorem specFaultOne_b (A : Option Addr) (c : Nat) (ss : List Sec) (a : Int) (w : World) (ha : ArgC w A c ss) (ha2 : a ≤ 9223372036854775807) :
    Calls Try.prog 20 #[.slice A ss.length c, .int .i64 a] w (RetF 44 (fun v => .tuple #[v, .bool (cab0 ss a)]) (findsL ss a yesP) w) := by
  obtain ⟨i0, hi, hz0, hz1, hz2⟩ := info_parts fltInfo
  have HA := Lib.hid ha
  clear ha
  obtain ⟨w0, hw0⟩ : ∃ w0, w.alloc (.cells #[] 44) = w0 := ⟨_, rfl⟩
  have hB : Below w.heap.size w w0 := by rw [← hw0]; exact (Below.refl _ _).alloc (Nat.le_refl _) _
  have hown : w0.ownsRow w.heap.size 44 2 (.slice (some ⟨w.heap.size, 0, none⟩) 0 0) 0 [] := by
    rw [← hw0]
    exact World.ownsRow_made w #[] 0 (Nat.le_refl _) (by simp) rfl
  have HB := Lib.hid hB
  have HO := Lib.hid hown
  have Hw0 := Lib.hid hw0
  clear hB hown hw0
  cases hc : cabB ss
  · have Hz := Lib.hid (show cab0 ss a = false ∧ findsL ss a yesP = [] by
      have h : cab0 ss a = false := by unfold cab0; rw [hc]; rfl
      exact ⟨h, findsL_no _ h⟩)
    have Hc := Lib.hid hc
    clear hc
    go_enter Try.func20, Try.ntmps20
    go_wp2_with fail
    rw [Hw0.out]
    refine (specCableValid_c A c ss _ (HA.out.go HB.out)).mono ?_
    rintro e9 w1 ⟨rfl, hb1⟩
    rw [Hc.out]
    have Hb1 := Lib.hid (below_step HB.out hb1)
    have HO1 := Lib.hid (own_below HO.out hb1)
    clear hb1
    go_wp2
    go_ret2
    rw [Hz.out.2, Hz.out.1]
    exact RetF.mk (zs := []) (f := fun v => .tuple #[v, .bool false]) (by simp) HO1.out Hb1.out
  have Hc := Lib.hid hc
  by_cases h0 : a < 0
  · have Hz := Lib.hid (show cab0 ss a = false ∧ findsL ss a yesP = [] by
      have h : cab0 ss a = false := by unfold cab0; rw [hc]; simpa using h0
      exact ⟨h, findsL_no _ h⟩)
    clear hc
    go_enter Try.func20, Try.ntmps20
    go_wp2_with fail
    rw [Hw0.out]
    refine (specCableValid_c A c ss _ (HA.out.go HB.out)).mono ?_
    rintro e9 w1 ⟨rfl, hb1⟩
    rw [Hc.out]
    have Hb1 := Lib.hid (below_step HB.out hb1)
    have HO1 := Lib.hid (own_below HO.out hb1)
    clear hb1
    go_wp2
    go_ret2
    rw [Hz.out.2, Hz.out.1]
    exact RetF.mk (zs := []) (f := fun v => .tuple #[v, .bool false]) (by simp) HO1.out Hb1.out
  · have hz : cab0 ss a = true := by unfold cab0; rw [hc]; simp; omega
    have Hz := Lib.hid (And.intro hz (findsL_yes yesP hz))
    have hm := mN_bd hc 0
    have Hm1 := Lib.hid (milesI_mN hc)
    obtain ⟨M, hM⟩ : ∃ M, mN ss = M := ⟨_, rfl⟩
    rw [hM] at hm Hz Hm1
    have HM := Lib.hid hM
    obtain ⟨_, hm4, _⟩ := hm
    clear hc hz hM
    go_enter Try.func20, Try.ntmps20
    go_wp2_with fail
    rw [Hw0.out]
    refine (specCableValid_c A c ss _ (HA.out.go HB.out)).mono ?_
    rintro e9 w1 ⟨rfl, hb1⟩
    rw [Hc.out]
    have Hb1 := Lib.hid (below_step HB.out hb1)
    have HO1 := Lib.hid (own_below HO.out hb1)
    clear hb1
    go_wp2
    go_loopw [6, 7] (fun o mi wr => ∃ (k : Nat) (v : Value), k ≤ M + 1 ∧ mi = .int .i64 k ∧ v = o ∧ wr.ownsRow w.heap.size 44 2 v (fltL (rN ss) a yesP k).length (fltCells (fltL (rN ss) a yesP k)) ∧ Below w.heap.size w wr) (fun _ mi _ => M + 1 - (intOf mi).toNat)
    case atStart => exact ⟨0, _, Nat.zero_le _, rfl, rfl, by rw [fltL_zero]; exact HO1.out, Hb1.out⟩
    case round =>
      obtain ⟨k, v, hk, rfl, rfl, hown, hb⟩ := hrel
      have Hown := Lib.hid hown
      have Hb := Lib.hid hb
      have hlen := fltL_length (rN ss) a yesP k
      have hsz := hb.size
      clear hown hb
      by_cases hlt : k ≤ M
      · have hr := rN_bd Hc.out k
        have hri := ohmsI_rN Hc.out (show k ≤ mN ss by rw [HM.out]; exact hlt)
        obtain ⟨r, hrr⟩ : ∃ r, rN ss k = r := ⟨_, rfl⟩
        rw [hrr] at hr hri
        have Hri := Lib.hid hri
        have Hrr := Lib.hid hrr
        have g1 : (k : Int) ≤ (M : Int) := by omega
        have q1 : IntKind.i64.wrap (a - r) = a - r := IntWalk.i64_in _ (by omega)
        clear hri hrr
        go_wp2_with fail
        refine (specCableMiles_b A c ss _ (HA.out.go Hb.out)).mono ?_
        rintro e9 w3 ⟨rfl, hb3⟩
        rw [Hm1.out]
        have s3 := hb3.size
        have Hb3 := Lib.hid (below_step Hb.out hb3)
        have Hown3 := Lib.hid (own_below Hown.out hb3)
        clear hb3
        go_wp2_with fail
        refine (specCableOhms_b A c ss (k : Int) _ (HA.out.go Hb3.out)).mono ?_
        rintro e9 w4 ⟨rfl, hb4⟩
        rw [Hri.out]
        have s4 := hb4.size
        have Hb4 := Lib.hid (below_step Hb3.out hb4)
        have Hown4 := Lib.hid (own_below Hown3.out hb4)
        clear hb4
        go_wp2_with fail
        refine (l6In_c _ _ _ _).mono ?_
        rintro e9 w5 ⟨rfl, rfl⟩
        rw [inB_shift]
        cases hin : inB (a - r) 0 1000
        · have Hn := Lib.hid (fltL_no (p := yesP) (show inB (a - rN ss k) 0 1000 = false by rw [Hrr.out]; exact hin))
          clear hin
          go_wp2
          go_roundw
          case rel => exact ⟨k + 1, v, by omega, by go_num, rfl, by rw [Hn.out]; exact Hown4.out, Hb4.out⟩
          case measure => simp [intOf]; omega
        · have Hn := Lib.hid (fltL_yes (p := yesP) (show inB (a - rN ss k) 0 1000 = true by rw [Hrr.out]; exact hin) rfl)
          have hown := Hown4.out
          clear hin
          go_wp2_with (at_builtin; refine wpList_append_own _ rfl _ _ 37 rfl w.heap.size 44 i0 _ 2 16 Try.underlying37 hi hz0 hz1 hz2 rfl (by decide) v _ _ rfl (hown.alloc _) ⟨w4.heap.size, 0, none⟩ 1 1 (fltCell ⟨k, a - r⟩) rfl rfl (fltCell_new w4 ⟨k, a - r⟩ _) (fltCell_one _) (by unfold maxLen; omega) (by omega) (by simp; omega) ?_; intro v' w9 hown' hgrow _; have hb9 := (Hb4.out.alloc (by omega) _).grown hgrow (by simp; omega) (fun r e => (Hown4.out.lt r e).1); have H9 := Lib.hid (And.intro hown' hb9); clear hown' hgrow hb9)
          go_roundw
          case rel => exact ⟨k + 1, v', by omega, by go_num, rfl, by rw [Hn.out, Hrr.out, List.length_append, fltCells_snoc]; exact H9.out.1, H9.out.2⟩
          case measure => simp [intOf]; omega
      · obtain rfl : k = M + 1 := by omega
        have g1 : ¬ ((M + 1 : Nat) : Int) ≤ (M : Int) := by omega
        go_wp2_with fail
        refine (specCableMiles_b A c ss _ (HA.out.go Hb.out)).mono ?_
        rintro e9 w3 ⟨rfl, hb3⟩
        rw [Hm1.out]
        have Hb3 := Lib.hid (below_step Hb.out hb3)
        have Hown3 := Lib.hid (own_below Hown.out hb3)
        clear hb3
        go_wp2
        go_ret2
        rw [Hz.out.2, Hz.out.1]
        exact RetF.mk (f := fun v => .tuple #[v, .bool true]) (by omega) Hown3.out Hb3.out

/-! ### FaultFind -/
theorem fltL_more (r : Nat → Int) (a : Int) (p : Nat → Bool) (k : Nat) : ∀ n, ∃ zs, fltL r a p (k + n) = fltL r a p k ++ zs := by
  intro n
  induction n with
  | zero => exact ⟨[], by simp⟩
  | succ n ih =>
    obtain ⟨zs, hz⟩ := ih
    cases h : inB (a - r (k + n)) 0 1000
    · exact ⟨zs, by rw [← Nat.add_assoc, fltL_no h, hz]⟩
    · cases h2 : p (k + n)
      · exact ⟨zs, by rw [← Nat.add_assoc, fltL_not h2, hz]⟩
      · exact ⟨zs ++ [⟨((k + n : Nat) : Int), a - r (k + n)⟩], by rw [← Nat.add_assoc, fltL_yes h h2, hz, List.append_assoc]⟩

end Go.Proofs.Ytodboccadccpfaa
