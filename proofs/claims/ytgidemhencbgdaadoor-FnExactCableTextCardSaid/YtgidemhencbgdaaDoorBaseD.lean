/-
  Contracts of the laws' own small functions over lists of sections: toSectionS, eqSectionS, markSectionS, heldSectionS.
-/
import Derived.Test.YtgidemhencbgdaaDoorMemC
import Derived.Test.YtgidemhencbgdaaDoorProg
import Derived.RegionTactic
import Derived.StillTailTactics
namespace Go.Proofs.YtgidemhencbgdaaDoor
open Go.RowKit

theorem secInfo : (Tryd.prog.info? 46).map (fun i => (i.zero, i.size, i.bytes)) = some (some (.agg #[.int .i64 0, .int .i64 0, .int .i64 0]), 3, 24) := by kernel_rfl

/-! ### a section given over, two sections compared -/
theorem toSection_c (s : Sec) (w : World) :
    Calls Tryd.prog 21 #[.agg #[.int .i64 s.m, .int .i64 s.k, .int .i64 s.o]] w fun e w' => e = .returned (.agg #[.int .i64 s.m, .int .i64 s.k, .int .i64 s.o]) ∧ Below w.heap.size w w' := by
  go_enter Tryd.func21, Tryd.ntmps21
  go_wp2
  exact bodyPost_ret (v := .agg #[.int .i64 s.m, .int .i64 s.k, .int .i64 s.o]) (by simp [results, Tryd.results21, go_sem]) rfl ⟨rfl, ((((Below.refl _ _).alloc (Nat.le_refl _) _).alloc (by simp) _).alloc (by simp; omega) _)⟩

theorem eqSection_yes (s : Sec) (w : World) :
    Calls Tryd.prog 22 #[.agg #[.int .i64 s.m, .int .i64 s.k, .int .i64 s.o], .agg #[.int .i64 s.m, .int .i64 s.k, .int .i64 s.o]] w fun e w' => e = .returned (.bool true) ∧ Below w.heap.size w w' := by
  have g0 : (s.m != s.m) = false := by simp
  have g1 : (s.k != s.k) = false := by simp
  have g2 : (s.o != s.o) = false := by simp
  go_enter Tryd.func22, Tryd.ntmps22
  go_wp2
  go_ret
  exact ⟨rfl, ((Below.refl _ _).alloc (Nat.le_refl _) _).alloc (by simp) _⟩

theorem eqSection_no (s t : Sec) (w : World) (hn : s ≠ t) :
    Calls Tryd.prog 22 #[.agg #[.int .i64 s.m, .int .i64 s.k, .int .i64 s.o], .agg #[.int .i64 t.m, .int .i64 t.k, .int .i64 t.o]] w fun e w' => e = .returned (.bool false) ∧ Below w.heap.size w w' := by
  by_cases h0 : s.m = t.m
  · have g0 : (s.m != t.m) = false := by simp [h0]
    by_cases h1 : s.k = t.k
    · have g1 : (s.k != t.k) = false := by simp [h1]
      have g2 : (s.o != t.o) = true := by
        simp only [bne_iff_ne, ne_eq]
        exact fun h2 => hn (Sec.ext_ h0 h1 h2)
      clear h0 h1 hn
      go_enter Tryd.func22, Tryd.ntmps22
      go_wp2
      go_ret
      exact ⟨rfl, ((Below.refl _ _).alloc (Nat.le_refl _) _).alloc (by simp) _⟩
    · have g1 : (s.k != t.k) = true := by simp [h1]
      clear h0 h1 hn
      go_enter Tryd.func22, Tryd.ntmps22
      go_wp2
      go_ret
      exact ⟨rfl, ((Below.refl _ _).alloc (Nat.le_refl _) _).alloc (by simp) _⟩
  · have g0 : (s.m != t.m) = true := by simp [h0]
    clear h0 hn
    go_enter Tryd.func22, Tryd.ntmps22
    go_wp2
    go_ret
    exact ⟨rfl, ((Below.refl _ _).alloc (Nat.le_refl _) _).alloc (by simp) _⟩

/-- the first k sections are equal -/
def eqToC (xs ys : List Sec) (k : Nat) : Prop := ∀ j, j < k → secAt xs j = secAt ys j
theorem eqToC_zero (xs ys : List Sec) : eqToC xs ys 0 := fun j hj => absurd hj (by omega)
theorem eqToC_succ {xs ys : List Sec} {k : Nat} (h : eqToC xs ys k) (hk : secAt xs k = secAt ys k) : eqToC xs ys (k + 1) := fun j hj => by
  rcases Nat.lt_or_ge j k with h1 | h1
  · exact h j h1
  · obtain rfl : j = k := by omega
    exact hk
theorem eqC_of_to {xs ys : List Sec} (hl : xs.length = ys.length) (h : eqToC xs ys xs.length) : xs = ys := by
  apply List.ext_getElem hl
  intro i h1 h2
  have := h i h1
  rwa [secAt_lt h1, secAt_lt h2] at this

set_option maxHeartbeats 1000000 in
theorem eqSectionS_c (A B : Option Addr) (c d : Nat) (xs ys : List Sec) (w : World) (ha1 : ArgC w A c xs) (ha2 : ArgC w B d ys) :
    Calls Tryd.prog 11 #[.slice A xs.length c, .slice B ys.length d] w (RetB (.bool (decide (xs = ys))) w) := by
  have H1 := Lib.hid ha1
  have H2 := Lib.hid ha2
  have hx := ha1.len
  have hy := ha2.len
  clear ha1 ha2
  by_cases hl : xs.length = ys.length
  · have hl1 : ((xs.length : Int) != (ys.length : Int)) = false := by simp [hl]
    have HL := Lib.hid hl
    clear hl
    go_enter Tryd.func11, Tryd.ntmps11
    go_wp2
    go_loopw [5] (fun i wr => ∃ k : Nat, k ≤ xs.length ∧ eqToC xs ys k ∧ i = .int .i64 k ∧ Below w.heap.size w wr) (fun i _ => xs.length - (intOf i).toNat)
    case atStart => exact ⟨0, Nat.zero_le _, eqToC_zero _ _, rfl, Below.refl _ _⟩
    case round =>
      obtain ⟨k, hk, ha, rfl, hb⟩ := hrel
      have Ha := Lib.hid ha
      have Hb := Lib.hid hb
      clear ha hb
      by_cases hlt : k < xs.length
      · have hlt2 : k < ys.length := by have := HL.out; omega
        obtain ⟨b, off, rfl, _, _, hc0, hc1, hc2⟩ := (H1.out.go Hb.out).rd.at_ hlt
        obtain ⟨b', off', rfl, _, _, hd0, hd1, hd2⟩ := (H2.out.go Hb.out).rd.at_ hlt2
        obtain ⟨s, hs⟩ : ∃ s, secAt xs k = s := ⟨_, rfl⟩
        obtain ⟨t, ht⟩ : ∃ t, secAt ys k = t := ⟨_, rfl⟩
        rw [hs] at hc0 hc1 hc2
        rw [ht] at hd0 hd1 hd2
        have Hs := Lib.hid hs
        have Ht := Lib.hid ht
        clear hs ht
        have g1 : (k : Int) < (xs.length : Int) := by omega
        have g2 : (k : Int) < (ys.length : Int) := by omega
        by_cases hne : s = t
        · have Hst := Lib.hid (show secAt xs k = secAt ys k by rw [Hs.out, Ht.out, hne])
          have Hne := Lib.hid hne
          clear hne
          go_wp2
          go_still_tail 8, (by kernel_rfl)
          rw [← Hne.out]
          go_wp2_with fail
          refine (eqSection_yes s _).mono ?_
          rintro e w2 ⟨rfl, hb2⟩
          have Hb2 := Lib.hid ((below_drewN Hb.out 1).trans (hb2.mono (by have := Hb.out.size; simp; omega)))
          clear hb2
          go_wp2
          go_roundw
          case rel => exact ⟨k + 1, by omega, eqToC_succ Ha.out Hst.out, by go_num, Hb2.out⟩
          case measure => simp [intOf]; omega
        · have Hn := Lib.hid (show xs ≠ ys by rintro rfl; exact hne (by rw [← Hs.out, ← Ht.out]))
          have Hne := Lib.hid hne
          clear hne
          go_wp2
          go_still_tail 8, (by kernel_rfl)
          go_wp2_with fail
          refine (eqSection_no s t _ Hne.out).mono ?_
          rintro e w2 ⟨rfl, hb2⟩
          have Hb2 := Lib.hid ((below_drewN Hb.out 1).trans (hb2.mono (by have := Hb.out.size; simp; omega)))
          clear hb2
          go_wp2
          go_ret
          exact ⟨by have := Hn.out; simp [this], Hb2.out⟩
      · obtain rfl : k = xs.length := by omega
        go_wp2
        go_ret
        have := eqC_of_to HL.out Ha.out
        exact ⟨by simp [this], Hb.out⟩
  · have hl1 : ((xs.length : Int) != (ys.length : Int)) = true := by simp; omega
    have hn : xs ≠ ys := fun e => hl (by rw [e])
    have HN := Lib.hid hn
    clear hl hn
    go_enter Tryd.func11, Tryd.ntmps11
    go_wp2
    go_ret
    exact ⟨by have := HN.out; simp [this], Below.refl _ _⟩

/-! ### toSectionS: a copy in new memory -/
def copyToC (zs : List Sec) (k : Nat) : List Sec := zs.take k ++ List.replicate (zs.length - k) Sec.zero
theorem copyToC_zero (zs : List Sec) : copyToC zs 0 = List.replicate zs.length Sec.zero := by simp [copyToC]
theorem copyToC_all (zs : List Sec) : copyToC zs zs.length = zs := by simp [copyToC]
theorem copyToC_split (zs : List Sec) {k : Nat} (h : k < zs.length) : copyToC zs k = zs.take k ++ Sec.zero :: List.replicate (zs.length - (k + 1)) Sec.zero := by
  unfold copyToC
  obtain ⟨m, hm⟩ : ∃ m, zs.length - k = m + 1 := ⟨zs.length - k - 1, by omega⟩
  rw [hm, List.replicate_succ, show zs.length - (k + 1) = m by omega]
theorem copyToC_succ (zs : List Sec) {k : Nat} (h : k < zs.length) : copyToC zs (k + 1) = zs.take k ++ zs[k] :: List.replicate (zs.length - (k + 1)) Sec.zero := by
  unfold copyToC
  rw [take_snoc zs h, List.append_assoc]
  rfl
theorem secCells_set3 (xs ys : List Sec) (s t : Sec) {k : Nat} (hk : xs.length = k) :
    (((secCells (xs ++ s :: ys)).set (k * 3) (.int .i64 t.m)).set (k * 3 + 1) (.int .i64 t.k)).set (k * 3 + 2) (.int .i64 t.o) = secCells (xs ++ t :: ys) := by
  have hl : (secCells xs).length = k * 3 := by rw [secCells_length, hk]
  rw [secCells_append, secCells_cons, secCells_append, secCells_cons]
  rw [List.set_append_right _ _ (by omega), List.set_append_right _ _ (by omega), List.set_append_right _ _ (by omega), hl]
  rw [show k * 3 - k * 3 = 0 by omega, show k * 3 + 1 - k * 3 = 1 by omega, show k * 3 + 2 - k * 3 = 2 by omega]
  rfl
theorem secCells_replicate (n : Nat) : secCells (List.replicate n Sec.zero) = List.replicate (n * 3) (.int .i64 0) := by
  induction n with
  | zero => rfl
  | succ n ih =>
    rw [List.replicate_succ, secCells_cons, ih, show (n + 1) * 3 = n * 3 + 3 by omega]
    rfl
theorem made_secs (n : Nat) : (madeCells (Value.cells (.agg #[.int .i64 0, .int .i64 0, .int .i64 0])) (n * 3)).toList = secCells (List.replicate n Sec.zero) := by
  rw [secCells_replicate]
  apply List.ext_getElem
  · simp [madeCells]
  · intro i h1 h2
    have h3 : i % 3 < 3 := Nat.mod_lt _ (by omega)
    simp only [madeCells, Value.cells, List.getElem_replicate, Array.getElem_toList]
    rcases (by omega : i % 3 = 0 ∨ i % 3 = 1 ∨ i % 3 = 2) with h | h | h <;> simp [h]

set_option maxHeartbeats 2000000 in
theorem toSectionS_c (A : Option Addr) (c : Nat) (zs : List Sec) (w : World) (ha : ArgC w A c zs) :
    Calls Tryd.prog 10 #[.slice A zs.length c] w (RetC 46 id zs w) := by
  have HA := Lib.hid ha
  have hl := ha.len
  clear ha
  obtain ⟨i0, hi, hz0, hz1, hz2⟩ := info_parts secInfo
  have hmi := made_secs zs.length
  have HMI := Lib.hid hmi
  clear hmi
  go_enter Tryd.func10, Tryd.ntmps10
  go_wp2_with (at_make; refine wpList_make_full _ rfl (.tmp 6) (.tmp 6) 23 rfl w.heap.size 46 i0 _ 3 Tryd.underlying23 hi hz0 hz1 .i64 .i64 _ _ zs.length rfl rfl rfl rfl (by rw [hz2]; omega) (by unfold maxLen; omega) (Nat.le_refl _) ?_; intro w1 hown hg1)
  rw [HMI.out, ← copyToC_zero] at hown
  have hb1 : Below w.heap.size w w1 := (Below.refl _ _).grown hg1 (Nat.le_refl _) (by simp)
  have hlo := (hown.lt w.heap.size rfl).2
  obtain ⟨B, hB⟩ : ∃ B, B = w.heap.size := ⟨_, rfl⟩
  rw [← hB] at hown hb1 hlo ⊢
  have hhB : w.heap.size ≤ B := by omega
  have HB := Lib.hid hB
  clear hB hg1
  go_loopw [4] (fun i wr => ∃ k : Nat, k ≤ zs.length ∧ i = .int .i64 k ∧ wr.ownsRow B 46 3 (.slice (some ⟨B, 0, none⟩) zs.length zs.length) zs.length (secCells (copyToC zs k)) ∧ Below B w wr) (fun i _ => zs.length - (intOf i).toNat)
  case atStart => exact ⟨0, Nat.zero_le _, rfl, hown, hb1⟩
  case round =>
    clear hown hb1 hlo
    obtain ⟨k, hk, rfl, hok, hbk⟩ := hrel
    by_cases hlt : k < zs.length
    · obtain ⟨b, off, rfl, _, hbh, hc0, hc1, hc2⟩ := (HA.out.go (hbk.mono hhB)).rd.at_ hlt
      obtain ⟨s, hs⟩ : ∃ s, secAt zs k = s := ⟨_, rfl⟩
      rw [hs] at hc0 hc1 hc2
      have Hs := Lib.hid hs
      have Hok := Lib.hid hok
      have Hbk := Lib.hid hbk
      clear hs hok hbk
      have g1 : (k : Int) < (zs.length : Int) := by omega
      go_wp2_with fail
      refine (toSection_c s _).mono ?_
      rintro e w2 ⟨rfl, hb2⟩
      have hok := own_below Hok.out hb2
      have Hb2 := Lib.hid ((Hbk.out.mono hhB).trans (hb2.mono (Hbk.out.mono hhB).size))
      have Hbk2 := Lib.hid (Hbk.out.trans (hb2.mono (by have := Hbk.out.size; have := (Hok.out.lt B rfl).2; omega)))
      clear hb2
      have hln : (copyToC zs k).length = zs.length := by simp [copyToC]; omega
      have e0 := secCells_0 (ss := copyToC zs k) (j := k) (by omega)
      have e1 := secCells_1 (ss := copyToC zs k) (j := k) (by omega)
      have e2 := secCells_2 (ss := copyToC zs k) (j := k) (by omega)
      have d0 := (hok.cellAt (k * 3) (by omega)).trans e0
      have d1 := (hok.cellAt (k * 3 + 1) (by omega)).trans e1
      have d2 := (hok.cellAt (k * 3 + 2) (by omega)).trans e2
      have f0 := hok.frozenAt (k * 3)
      have f1 := hok.frozenAt (k * 3 + 1)
      have f2 := hok.frozenAt (k * 3 + 2)
      have st := ((hok.stored (k * 3) (.int .i64 s.m)).1.stored (k * 3 + 1) (.int .i64 s.k)).1.stored (k * 3 + 2) (.int .i64 s.o)
      rw [copyToC_split zs hlt, secCells_set3 _ _ Sec.zero s (by simp; omega)] at st
      have hsk : zs[k] = s := by rw [← secAt_lt hlt, Hs.out]
      rw [← hsk] at st
      rw [← copyToC_succ zs hlt] at st
      rw [hsk] at st
      have St := Lib.hid st.1
      clear hok e0 e1 e2 st hsk hc0 hc1 hc2 hln
      go_wp2
      go_roundw
      case rel => exact ⟨k + 1, by omega, by go_num, St.out, ((Hbk2.out.setCell (p := ⟨B, k * 3, none⟩) (Nat.le_refl _) _).setCell (p := ⟨B, k * 3 + 1, none⟩) (Nat.le_refl _) _).setCell (p := ⟨B, k * 3 + 2, none⟩) (Nat.le_refl _) _⟩
      case measure => simp [intOf]; omega
    · obtain rfl : k = zs.length := by omega
      rw [copyToC_all] at hok
      have Hok := Lib.hid hok
      have Hbk := Lib.hid hbk
      clear hok hbk
      go_wp2
      go_ret
      exact RetC.mk (f := id) hl (by rw [← HB.out]; exact Hok.out) (by rw [← HB.out]; exact Hbk.out)

end Go.Proofs.YtgidemhencbgdaaDoor
