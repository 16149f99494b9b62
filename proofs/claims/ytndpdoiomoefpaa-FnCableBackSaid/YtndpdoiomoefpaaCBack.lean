/-
  CableBack of the model.
-/
import Derived.Test.YtndpdoiomoefpaaCBackI
import Derived.Test.YtndpdoiomoefpaaCSplice
namespace Go.Proofs.Ytndpdoiomoefpaa
open Go.RowKit

/-- the last k, the last one first -/
def revC (ss : List Sec) (k : Nat) : List Sec := (ss.drop (ss.length - k)).reverse
theorem revC_zero (ss : List Sec) : revC ss 0 = [] := by simp [revC]
theorem revC_all (ss : List Sec) : revC ss ss.length = ss.reverse := by simp [revC]
theorem revC_length (ss : List Sec) {k : Nat} (h : k ≤ ss.length) : (revC ss k).length = k := by simp [revC]; omega
theorem revC_succ (ss : List Sec) {k p : Nat} (h : k < ss.length) (hp : ss.length - 1 - k = p) : revC ss (k + 1) = revC ss k ++ [secAt ss p] := by
  unfold revC
  have e : ss.length - (k + 1) = p := by omega
  have e2 : ss.length - k = p + 1 := by omega
  rw [e, e2, drop_at2 (by omega), List.reverse_cons]
where
  drop_at2 {p : Nat} (h : p < ss.length) : ss.drop p = secAt ss p :: ss.drop (p + 1) := by rw [secAt_lt h, List.getElem_cons_drop]

set_option maxRecDepth 100000 in
set_option maxHeartbeats 2000000 in
theorem specCableBack_b (A : Option Addr) (c : Nat) (ss : List Sec) (w : World) (ha : ArgC w A c ss) :
    Calls Try.prog 74 #[.slice A ss.length c] w (RetC 54 (fun v => .tuple #[v, .bool (cabB ss)]) (backL ss) w) := by
  obtain ⟨i0, hi, hz0, hz1, hz2⟩ := info_parts section_info
  obtain ⟨N, hN⟩ : ∃ N, N = if cabB ss then ss.length else 0 := ⟨_, rfl⟩
  have hl := ha.len
  have HA := Lib.hid ha
  have HN := Lib.hid hN
  have hNl : N ≤ ss.length := by rw [hN]; split <;> omega
  clear ha hN
  go_enter Try.func74, Try.ntmps74
  go_wp2
  go_loopw [4, 5] (fun o i wr => ∃ (k : Nat) (v : Value), k ≤ N ∧ i = .int .i64 ((ss.length : Int) - 1 - (k : Int)) ∧ v = o ∧ wr.ownsRow w.heap.size 54 3 v k (secCells (revC ss k)) ∧ Below w.heap.size w wr) (fun _ i _ => (intOf i + 1).toNat)
  case atStart => exact ⟨0, _, Nat.zero_le _, by simp, rfl, by rw [revC_zero]; exact World.ownsRow_made w #[] 0 (Nat.le_refl _) (by simp) rfl, (Below.refl _ _).alloc (Nat.le_refl _) _⟩
  case round =>
    obtain ⟨k, v, hk, rfl, rfl, hok, hbk⟩ := hrel
    have Ha := Lib.hid (HA.out.go hbk)
    by_cases hlt : k < N
    · have hv : cabB ss = true := by
        have := HN.out
        cases h : cabB ss
        · rw [h] at this; simp at this; omega
        · rfl
      have Hv := Lib.hid hv
      have h16 := (cab_len hv).2
      clear hv
      obtain ⟨p, hp⟩ : ∃ p, ss.length - 1 - k = p := ⟨_, rfl⟩
      have hpi : (ss.length : Int) - 1 - (k : Int) = (p : Int) := by omega
      have hpl : p < ss.length := by omega
      have Hs := Lib.hid (revC_succ ss (k := k) (by omega) hp)
      have Hpi := Lib.hid hpi
      have Hok := Lib.hid hok
      have Hbk := Lib.hid hbk
      clear hp hok hbk
      rw [hpi]
      clear hpi
      have g1 : (0 : Int) ≤ (p : Int) := by omega
      have g2 : (p : Int) < (ss.length : Int) := by omega
      go_wp2_with fail
      refine (specCableValid_c _ c ss _ Ha.out).mono ?_
      rintro e w2 ⟨rfl, hb2⟩
      rw [Hv.out]
      have hok := own_below Hok.out hb2
      have Hb2 := Lib.hid (Hbk.out.trans (hb2.mono Hbk.out.size))
      obtain ⟨b, off, rfl, _, _, hc0, hc1, hc2⟩ := (Ha.out.go hb2).rd.at_ hpl
      obtain ⟨y, hy⟩ : ∃ y, secAt ss p = y := ⟨_, rfl⟩
      rw [hy] at hc0 hc1 hc2
      have Hy := Lib.hid hy
      clear hy hb2
      go_wp2_with (at_builtin; refine wpList_append_own _ rfl _ _ 45 rfl w.heap.size 54 i0 _ 3 24 Try.underlying45 hi hz0 hz1 hz2 rfl (by decide) v k _ rfl (hok.alloc _) ⟨w2.heap.size, 0, none⟩ 1 1 (secCell y) rfl rfl (secCell_new _ _ _) (secCell_one _) (by unfold maxLen; omega) (by omega) (by have := Hb2.out.size; simp; omega) ?_; intro v' w3 hown3 hg3 _)
      have hb3 : Below w.heap.size w w3 := (Hb2.out.alloc Hb2.out.size _).grown hg3 (by have := Hb2.out.size; simp; omega) (fun r e => (hok.lt r e).1)
      go_roundw
      case rel => exact ⟨k + 1, v', by omega, by have := Hpi.out; simp; omega, rfl, by rw [Hs.out, Hy.out, secCells_snoc]; exact hown3, hb3⟩
      case measure => simp [intOf]
    · obtain rfl : k = N := by omega
      cases hv : cabB ss
      · have hk0 : k = 0 := by
          have := HN.out
          rw [hv] at this
          simpa using this
        subst hk0
        rw [revC_zero] at hok
        have Hfl := Lib.hid (backL_no hv)
        have Hok := Lib.hid hok
        have Hbk := Lib.hid hbk
        have Hv := Lib.hid hv
        clear hv hok hbk
        by_cases h1 : 0 < ss.length
        · have g1 : (0 : Int) ≤ (ss.length : Int) - 1 - ((0 : Nat) : Int) := by omega
          go_wp2_with fail
          refine (specCableValid_c A c ss _ Ha.out).mono ?_
          rintro e w2 ⟨rfl, hb2⟩
          rw [Hv.out]
          have Hok2 := Lib.hid (own_below Hok.out hb2)
          have Hb2 := Lib.hid (Hbk.out.trans (hb2.mono Hbk.out.size))
          have Ha2 := Lib.hid (Ha.out.go hb2)
          clear hb2
          go_wp2_with fail
          refine (specCableValid_c A c ss _ Ha2.out).mono ?_
          rintro e w3 ⟨rfl, hb3⟩
          rw [Hv.out]
          have Hok3 := Lib.hid (own_below Hok2.out hb3)
          have Hb3 := Lib.hid (Hb2.out.trans (hb3.mono Hb2.out.size))
          clear hb3
          go_wp2
          go_ret2
          rw [Hfl.out, Hv.out]
          exact RetC.mk (f := fun v => .tuple #[v, .bool false]) (by simp) Hok3.out Hb3.out
        · have g1 : ¬ ((0 : Int) ≤ (ss.length : Int) - 1 - ((0 : Nat) : Int)) := by omega
          go_wp2_with fail
          refine (specCableValid_c A c ss _ Ha.out).mono ?_
          rintro e w2 ⟨rfl, hb2⟩
          rw [Hv.out]
          have Hok2 := Lib.hid (own_below Hok.out hb2)
          have Hb2 := Lib.hid (Hbk.out.trans (hb2.mono Hbk.out.size))
          clear hb2
          go_wp2
          go_ret2
          rw [Hfl.out, Hv.out]
          exact RetC.mk (f := fun v => .tuple #[v, .bool false]) (by simp) Hok2.out Hb2.out
      · have hk0 : k = ss.length := by
          have := HN.out
          rw [hv] at this
          simpa using this
        subst hk0
        rw [revC_all] at hok
        have Hfl := Lib.hid (backL_yes hv)
        have Hok := Lib.hid hok
        have Hbk := Lib.hid hbk
        have Hv := Lib.hid hv
        clear hv hok hbk
        have g1 : ¬ ((0 : Int) ≤ (ss.length : Int) - 1 - (ss.length : Int)) := by omega
        go_wp2_with fail
        refine (specCableValid_c A c ss _ Ha.out).mono ?_
        rintro e w2 ⟨rfl, hb2⟩
        rw [Hv.out]
        have Hok2 := Lib.hid (own_below Hok.out hb2)
        have Hb2 := Lib.hid (Hbk.out.trans (hb2.mono Hbk.out.size))
        clear hb2
        go_wp2
        go_ret2
        rw [Hfl.out, Hv.out]
        exact RetC.mk (f := fun v => .tuple #[v, .bool true]) (by simpa using hl) (by rw [List.length_reverse]; exact Hok2.out) Hb2.out

end Go.Proofs.Ytndpdoiomoefpaa
