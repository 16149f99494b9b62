/-
  Contracts of the laws' own small functions over lists of sections: toSectionS.
-/
import Derived.Test.YtleagighkbmapaaBaseE
import Derived.RegionTactic
import Derived.StillTailTactics
namespace Go.Proofs.Ytleagighkbmapaa
open Go.RowKit

theorem secInfo : (Try.prog.info? 80).map (fun i => (i.zero, i.size, i.bytes)) = some (some (.agg #[.int .i64 0, .int .i64 0, .int .i64 0]), 3, 24) := by kernel_rfl

/-! ### a section given over -/
theorem toSection_c (s : Sec) (w : World) :
    Calls Try.prog 65 #[.agg #[.int .i64 s.m, .int .i64 s.k, .int .i64 s.o]] w fun e w' => e = .returned (.agg #[.int .i64 s.m, .int .i64 s.k, .int .i64 s.o]) ∧ Below w.heap.size w w' := by
  go_enter Try.func65, Try.ntmps65
  go_wp2
  exact bodyPost_ret (v := .agg #[.int .i64 s.m, .int .i64 s.k, .int .i64 s.o]) (by simp [results, Try.results65, go_sem]) rfl ⟨rfl, ((((Below.refl _ _).alloc (Nat.le_refl _) _).alloc (by simp) _).alloc (by simp; omega) _)⟩

/-! ### toSectionS: a copy in new memory -/
def copyToC (zs : List Sec) (k : Nat) : List Sec := zs.take k ++ List.replicate (zs.length - k) Sec.zero
theorem copyToC_zero (zs : List Sec) : copyToC zs 0 = List.replicate zs.length Sec.zero := by simp [copyToC]
theorem copyToC_all (zs : List Sec) : copyToC zs zs.length = zs := by simp [copyToC]
theorem copyToC_split (zs : List Sec) {k : Nat} (h : k < zs.length) : copyToC zs k = zs.take k ++ Sec.zero :: List.replicate (zs.length - (k + 1)) Sec.zero := by
  unfold copyToC
  obtain ⟨m, hm⟩ : ∃ m, zs.length - k = m + 1 := ⟨zs.length - k - 1, by omega⟩
  rw [hm, List.replicate_succ, show zs.length - (k + 1) = m by omega]
theorem copyToC_succ (zs : List Sec) {k : Nat} (h : k < zs.length) : copyToC zs (k + 1) = zs.take k ++ zs[k] :: List.replicate (zs.length - (k + 1)) Sec.zero := by
  unfold copyToC
  rw [take_snoc zs h, List.append_assoc]
  rfl
theorem secCells_replicate (n : Nat) : secCells (List.replicate n Sec.zero) = List.replicate (n * 3) (.int .i64 0) := by
  induction n with
  | zero => rfl
  | succ n ih =>
    rw [List.replicate_succ, secCells_cons, ih, show (n + 1) * 3 = n * 3 + 3 by omega]
    rfl
theorem made_secs (n : Nat) : (madeCells (Value.cells (.agg #[.int .i64 0, .int .i64 0, .int .i64 0])) (n * 3)).toList = secCells (List.replicate n Sec.zero) := by
  rw [secCells_replicate]
  apply List.ext_getElem
  · simp [madeCells]
  · intro i h1 h2
    have h3 : i % 3 < 3 := Nat.mod_lt _ (by omega)
    simp only [madeCells, Value.cells, List.getElem_replicate, Array.getElem_toList]
    rcases (by omega : i % 3 = 0 ∨ i % 3 = 1 ∨ i % 3 = 2) with h | h | h <;> simp [h]

set_option maxRecDepth 100000 in
set_option maxHeartbeats 2000000 in
theorem toSectionS_c (A : Option Addr) (c : Nat) (zs : List Sec) (w : World) (ha : ArgC w A c zs) :
    Calls Try.prog 23 #[.slice A zs.length c] w (RetC 80 id zs w) := by
  have HA := Lib.hid ha
  have hl := ha.len
  clear ha
  obtain ⟨i0, hi, hz0, hz1, hz2⟩ := info_parts secInfo
  have hmi := made_secs zs.length
  have HMI := Lib.hid hmi
  clear hmi
  go_enter Try.func23, Try.ntmps23
  go_wp2_with (at_make; refine wpList_make_full _ rfl (.tmp 6) (.tmp 6) 23 rfl w.heap.size 80 i0 _ 3 Try.underlying23 hi hz0 hz1 .i64 .i64 _ _ zs.length rfl rfl rfl rfl (by rw [hz2]; omega) (by unfold maxLen; omega) (Nat.le_refl _) ?_; intro w1 hown hg1)
  rw [HMI.out, ← copyToC_zero] at hown
  have hb1 : Below w.heap.size w w1 := (Below.refl _ _).grown hg1 (Nat.le_refl _) (by simp)
  have hlo := (hown.lt w.heap.size rfl).2
  obtain ⟨B, hB⟩ : ∃ B, B = w.heap.size := ⟨_, rfl⟩
  rw [← hB] at hown hb1 hlo ⊢
  have hhB : w.heap.size ≤ B := by omega
  have HB := Lib.hid hB
  clear hB hg1
  go_loopw [4] (fun i wr => ∃ k : Nat, k ≤ zs.length ∧ i = .int .i64 k ∧ wr.ownsRow B 80 3 (.slice (some ⟨B, 0, none⟩) zs.length zs.length) zs.length (secCells (copyToC zs k)) ∧ Below B w wr) (fun i _ => zs.length - (intOf i).toNat)
  case atStart => exact ⟨0, Nat.zero_le _, rfl, hown, hb1⟩
  case round =>
    clear hown hb1 hlo
    obtain ⟨k, hk, rfl, hok, hbk⟩ := hrel
    by_cases hlt : k < zs.length
    · obtain ⟨b, off, rfl, _, hbh, hc0, hc1, hc2⟩ := (HA.out.go (hbk.mono hhB)).rd.at_ hlt
      obtain ⟨s, hs⟩ : ∃ s, secAt zs k = s := ⟨_, rfl⟩
      rw [hs] at hc0 hc1 hc2
      have Hs := Lib.hid hs
      have Hok := Lib.hid hok
      have Hbk := Lib.hid hbk
      clear hs hok hbk
      have g1 : (k : Int) < (zs.length : Int) := by omega
      go_wp2_with fail
      refine (toSection_c s _).mono ?_
      rintro e w2 ⟨rfl, hb2⟩
      have hok := own_below Hok.out hb2
      have Hb2 := Lib.hid ((Hbk.out.mono hhB).trans (hb2.mono (Hbk.out.mono hhB).size))
      have Hbk2 := Lib.hid (Hbk.out.trans (hb2.mono (by have := Hbk.out.size; have := (Hok.out.lt B rfl).2; omega)))
      clear hb2
      have hln : (copyToC zs k).length = zs.length := by simp [copyToC]; omega
      have e0 := secCells_0 (ss := copyToC zs k) (j := k) (by omega)
      have e1 := secCells_1 (ss := copyToC zs k) (j := k) (by omega)
      have e2 := secCells_2 (ss := copyToC zs k) (j := k) (by omega)
      have d0 := (hok.cellAt (k * 3) (by omega)).trans e0
      have d1 := (hok.cellAt (k * 3 + 1) (by omega)).trans e1
      have d2 := (hok.cellAt (k * 3 + 2) (by omega)).trans e2
      have f0 := hok.frozenAt (k * 3)
      have f1 := hok.frozenAt (k * 3 + 1)
      have f2 := hok.frozenAt (k * 3 + 2)
      have st := ((hok.stored (k * 3) (.int .i64 s.m)).1.stored (k * 3 + 1) (.int .i64 s.k)).1.stored (k * 3 + 2) (.int .i64 s.o)
      rw [copyToC_split zs hlt, secCells_set3 _ _ Sec.zero s (by simp; omega)] at st
      have hsk : zs[k] = s := by rw [← secAt_lt hlt, Hs.out]
      rw [← hsk] at st
      rw [← copyToC_succ zs hlt] at st
      rw [hsk] at st
      have St := Lib.hid st.1
      clear hok e0 e1 e2 st hsk hc0 hc1 hc2 hln
      go_wp2
      go_roundw
      case rel => exact ⟨k + 1, by omega, by go_num, St.out, ((Hbk2.out.setCell (p := ⟨B, k * 3, none⟩) (Nat.le_refl _) _).setCell (p := ⟨B, k * 3 + 1, none⟩) (Nat.le_refl _) _).setCell (p := ⟨B, k * 3 + 2, none⟩) (Nat.le_refl _) _⟩
      case measure => simp [intOf]; omega
    · obtain rfl : k = zs.length := by omega
      rw [copyToC_all] at hok
      have Hok := Lib.hid hok
      have Hbk := Lib.hid hbk
      clear hok hbk
      go_wp2
      go_ret
      exact RetC.mk (f := id) hl (by rw [← HB.out]; exact Hok.out) (by rw [← HB.out]; exact Hbk.out)

end Go.Proofs.Ytleagighkbmapaa
