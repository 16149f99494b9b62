/-
  Contracts of the laws' own small functions over lists of rots: toRouteS.
-/
import Derived.Test.YtjboamhjfncgdaaBaseKE
import Derived.RegionTactic
import Derived.StillTailTactics
namespace Go.Proofs.Ytjboamhjfncgdaa
open Go.RowKit

theorem rotInfo : (Try.prog.info? 37).map (fun i => (i.zero, i.size, i.bytes)) = some (some (.agg #[.int .i64 0, .int .i64 0, .int .i64 0, .int .i64 0]), 4, 32) := by kernel_rfl

/-! ### one rot given over -/
theorem toRoute_c (s : Rot) (w : World) :
    Calls Try.prog 88 #[.agg #[.int .i64 s.a, .int .i64 s.b, .int .i64 s.c, .int .i64 s.d]] w fun e w' => e = .returned (.agg #[.int .i64 s.a, .int .i64 s.b, .int .i64 s.c, .int .i64 s.d]) ∧ Below w.heap.size w w' := by
  go_enter Try.func88, Try.ntmps88
  go_wp2
  exact bodyPost_ret (v := .agg #[.int .i64 s.a, .int .i64 s.b, .int .i64 s.c, .int .i64 s.d]) (by simp [results, Try.results88, go_sem]) rfl ⟨rfl, ((((Below.refl _ _).alloc (Nat.le_refl _) _).alloc (by simp) _).alloc (by simp; omega) _)⟩

/-! ### toRouteS: a copy in new memory -/
def copyToK (zs : List Rot) (k : Nat) : List Rot := zs.take k ++ List.replicate (zs.length - k) Rot.zero
theorem copyToK_zero (zs : List Rot) : copyToK zs 0 = List.replicate zs.length Rot.zero := by simp [copyToK]
theorem copyToK_all (zs : List Rot) : copyToK zs zs.length = zs := by simp [copyToK]
theorem copyToK_split (zs : List Rot) {k : Nat} (h : k < zs.length) : copyToK zs k = zs.take k ++ Rot.zero :: List.replicate (zs.length - (k + 1)) Rot.zero := by
  unfold copyToK
  obtain ⟨m, hm⟩ : ∃ m, zs.length - k = m + 1 := ⟨zs.length - k - 1, by omega⟩
  rw [hm, List.replicate_succ, show zs.length - (k + 1) = m by omega]
theorem copyToK_succ (zs : List Rot) {k : Nat} (h : k < zs.length) : copyToK zs (k + 1) = zs.take k ++ zs[k] :: List.replicate (zs.length - (k + 1)) Rot.zero := by
  unfold copyToK
  rw [take_snoc zs h, List.append_assoc]
  rfl
theorem rotCells_replicate (n : Nat) : rotCells (List.replicate n Rot.zero) = List.replicate (n * 4) (.int .i64 0) := by
  induction n with
  | zero => rfl
  | succ n ih =>
    rw [List.replicate_succ, rotCells_cons, ih, show (n + 1) * 4 = n * 4 + 4 by omega]
    rfl
theorem made_rots (n : Nat) : (madeCells (Value.cells (.agg #[.int .i64 0, .int .i64 0, .int .i64 0, .int .i64 0])) (n * 4)).toList = rotCells (List.replicate n Rot.zero) := by
  rw [rotCells_replicate]
  apply List.ext_getElem
  · simp [madeCells]
  · intro i h1 h2
    have h3 : i % 4 < 4 := Nat.mod_lt _ (by omega)
    simp only [madeCells, Value.cells, List.getElem_replicate, Array.getElem_toList]
    rcases (by omega : i % 4 = 0 ∨ i % 4 = 1 ∨ i % 4 = 2 ∨ i % 4 = 3) with h | h | h | h <;> simp [h]

set_option maxRecDepth 100000 in
set_option maxHeartbeats 2000000 in
theorem toRouteS_c (A : Option Addr) (c : Nat) (zs : List Rot) (w : World) (ha : ArgK w A c zs) :
    Calls Try.prog 37 #[.slice A zs.length c] w (RetK 37 id zs w) := by
  have HA := Lib.hid ha
  have hl := ha.len
  clear ha
  obtain ⟨i0, hi, hz0, hz1, hz2⟩ := info_parts rotInfo
  have hmi := made_rots zs.length
  have HMI := Lib.hid hmi
  clear hmi
  go_enter Try.func37, Try.ntmps37
  go_wp2_with (at_make; refine wpList_make_full _ rfl (.tmp 6) (.tmp 6) 23 rfl w.heap.size 37 i0 _ 4 Try.underlying23 hi hz0 hz1 .i64 .i64 _ _ zs.length rfl rfl rfl rfl (by rw [hz2]; omega) (by unfold maxLen; omega) (Nat.le_refl _) ?_; intro w1 hown hg1)
  rw [HMI.out, ← copyToK_zero] at hown
  have hb1 : Below w.heap.size w w1 := (Below.refl _ _).grown hg1 (Nat.le_refl _) (by simp)
  have hlo := (hown.lt w.heap.size rfl).2
  obtain ⟨B, hB⟩ : ∃ B, B = w.heap.size := ⟨_, rfl⟩
  rw [← hB] at hown hb1 hlo ⊢
  have hhB : w.heap.size ≤ B := by omega
  have HB := Lib.hid hB
  clear hB hg1
  go_loopw [4] (fun i wr => ∃ k : Nat, k ≤ zs.length ∧ i = .int .i64 k ∧ wr.ownsRow B 37 4 (.slice (some ⟨B, 0, none⟩) zs.length zs.length) zs.length (rotCells (copyToK zs k)) ∧ Below B w wr) (fun i _ => zs.length - (intOf i).toNat)
  case atStart => exact ⟨0, Nat.zero_le _, rfl, hown, hb1⟩
  case round =>
    clear hown hb1 hlo
    obtain ⟨k, hk, rfl, hok, hbk⟩ := hrel
    by_cases hlt : k < zs.length
    · obtain ⟨b, off, rfl, _, hbh, hc0, hc1, hc2, hc3⟩ := (HA.out.go (hbk.mono hhB)).rd.at_ hlt
      obtain ⟨s, hs⟩ : ∃ s, rotAt zs k = s := ⟨_, rfl⟩
      rw [hs] at hc0 hc1 hc2 hc3
      have Hs := Lib.hid hs
      have Hok := Lib.hid hok
      have Hbk := Lib.hid hbk
      clear hs hok hbk
      have g1 : (k : Int) < (zs.length : Int) := by omega
      go_wp2_with fail
      refine (toRoute_c s _).mono ?_
      rintro e w2 ⟨rfl, hb2⟩
      have hok := own_below Hok.out hb2
      have Hb2 := Lib.hid ((Hbk.out.mono hhB).trans (hb2.mono (Hbk.out.mono hhB).size))
      have Hbk2 := Lib.hid (Hbk.out.trans (hb2.mono (by have := Hbk.out.size; have := (Hok.out.lt B rfl).2; omega)))
      clear hb2
      have hln : (copyToK zs k).length = zs.length := by simp [copyToK]; omega
      have e0 := rotCells_0 (ss := copyToK zs k) (j := k) (by omega)
      have e1 := rotCells_1 (ss := copyToK zs k) (j := k) (by omega)
      have e2 := rotCells_2 (ss := copyToK zs k) (j := k) (by omega)
      have e3 := rotCells_3 (ss := copyToK zs k) (j := k) (by omega)
      have d0 := (hok.cellAt (k * 4) (by omega)).trans e0
      have d1 := (hok.cellAt (k * 4 + 1) (by omega)).trans e1
      have d2 := (hok.cellAt (k * 4 + 2) (by omega)).trans e2
      have d3 := (hok.cellAt (k * 4 + 3) (by omega)).trans e3
      have f0 := hok.frozenAt (k * 4)
      have f1 := hok.frozenAt (k * 4 + 1)
      have f2 := hok.frozenAt (k * 4 + 2)
      have f3 := hok.frozenAt (k * 4 + 3)
      have st := (((hok.stored (k * 4) (.int .i64 s.a)).1.stored (k * 4 + 1) (.int .i64 s.b)).1.stored (k * 4 + 2) (.int .i64 s.c)).1.stored (k * 4 + 3) (.int .i64 s.d)
      rw [copyToK_split zs hlt, rotCells_set4 _ _ Rot.zero s (by simp; omega)] at st
      have hsk : zs[k] = s := by rw [← rotAt_lt hlt, Hs.out]
      rw [← hsk] at st
      rw [← copyToK_succ zs hlt] at st
      rw [hsk] at st
      have St := Lib.hid st.1
      clear hok e0 e1 e2 e3 st hsk hc0 hc1 hc2 hc3 hln
      go_wp2
      go_roundw
      case rel => exact ⟨k + 1, by omega, by go_num, St.out, (((Hbk2.out.setCell (p := ⟨B, k * 4, none⟩) (Nat.le_refl _) _).setCell (p := ⟨B, k * 4 + 1, none⟩) (Nat.le_refl _) _).setCell (p := ⟨B, k * 4 + 2, none⟩) (Nat.le_refl _) _).setCell (p := ⟨B, k * 4 + 3, none⟩) (Nat.le_refl _) _⟩
      case measure => simp [intOf]; omega
    · obtain rfl : k = zs.length := by omega
      rw [copyToK_all] at hok
      have Hok := Lib.hid hok
      have Hbk := Lib.hid hbk
      clear hok hbk
      go_wp2
      go_ret
      exact RetK.mk (f := id) hl (by rw [← HB.out]; exact Hok.out) (by rw [← HB.out]; exact Hbk.out)

end Go.Proofs.Ytjboamhjfncgdaa
