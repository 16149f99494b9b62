/-
  Contracts of the laws' own small functions over lists of jbss: toJobS.
-/
import Derived.Test.YtbcgglkgdjafiaaDoorBaseJE
import Derived.RegionTactic
import Derived.StillTailTactics
namespace Go.Proofs.YtbcgglkgdjafiaaDoor
open Go.RowKit

theorem jbsInfo : (Tryd.prog.info? 38).map (fun i => (i.zero, i.size, i.bytes)) = some (some (.agg #[.int .i64 0, .int .i64 0]), 2, 16) := by kernel_rfl

/-! ### one jbs given over -/
theorem toJob_c (s : Jbs) (w : World) :
    Calls Tryd.prog 73 #[.agg #[.int .i64 s.d, .int .i64 s.g]] w fun e w' => e = .returned (.agg #[.int .i64 s.d, .int .i64 s.g]) ∧ Below w.heap.size w w' := by
  go_enter Tryd.func73, Tryd.ntmps73
  go_wp2
  exact bodyPost_ret (v := .agg #[.int .i64 s.d, .int .i64 s.g]) (by simp [results, Tryd.results73, go_sem]) rfl ⟨rfl, ((((Below.refl _ _).alloc (Nat.le_refl _) _).alloc (by simp) _).alloc (by simp; omega) _)⟩

/-! ### toJobS: a copy in new memory -/
def copyToJ (zs : List Jbs) (k : Nat) : List Jbs := zs.take k ++ List.replicate (zs.length - k) Jbs.zero
theorem copyToJ_zero (zs : List Jbs) : copyToJ zs 0 = List.replicate zs.length Jbs.zero := by simp [copyToJ]
theorem copyToJ_all (zs : List Jbs) : copyToJ zs zs.length = zs := by simp [copyToJ]
theorem copyToJ_split (zs : List Jbs) {k : Nat} (h : k < zs.length) : copyToJ zs k = zs.take k ++ Jbs.zero :: List.replicate (zs.length - (k + 1)) Jbs.zero := by
  unfold copyToJ
  obtain ⟨m, hm⟩ : ∃ m, zs.length - k = m + 1 := ⟨zs.length - k - 1, by omega⟩
  rw [hm, List.replicate_succ, show zs.length - (k + 1) = m by omega]
theorem copyToJ_succ (zs : List Jbs) {k : Nat} (h : k < zs.length) : copyToJ zs (k + 1) = zs.take k ++ zs[k] :: List.replicate (zs.length - (k + 1)) Jbs.zero := by
  unfold copyToJ
  rw [take_snoc zs h, List.append_assoc]
  rfl
theorem jbsCells_replicate (n : Nat) : jbsCells (List.replicate n Jbs.zero) = List.replicate (n * 2) (.int .i64 0) := by
  induction n with
  | zero => rfl
  | succ n ih =>
    rw [List.replicate_succ, jbsCells_cons, ih, show (n + 1) * 2 = n * 2 + 2 by omega]
    rfl
theorem made_jbss (n : Nat) : (madeCells (Value.cells (.agg #[.int .i64 0, .int .i64 0])) (n * 2)).toList = jbsCells (List.replicate n Jbs.zero) := by
  rw [jbsCells_replicate]
  apply List.ext_getElem
  · simp [madeCells]
  · intro i h1 h2
    have h3 : i % 2 < 2 := Nat.mod_lt _ (by omega)
    simp only [madeCells, Value.cells, List.getElem_replicate, Array.getElem_toList]
    rcases (by omega : i % 2 = 0 ∨ i % 2 = 1) with h | h <;> simp [h]

set_option maxRecDepth 100000 in
set_option maxHeartbeats 2000000 in
theorem toJobS_c (A : Option Addr) (c : Nat) (zs : List Jbs) (w : World) (ha : ArgJ w A c zs) :
    Calls Tryd.prog 39 #[.slice A zs.length c] w (RetJ 38 id zs w) := by
  have HA := Lib.hid ha
  have hl := ha.len
  clear ha
  obtain ⟨i0, hi, hz0, hz1, hz2⟩ := info_parts jbsInfo
  have hmi := made_jbss zs.length
  have HMI := Lib.hid hmi
  clear hmi
  go_enter Tryd.func39, Tryd.ntmps39
  go_wp2_with (at_make; refine wpList_make_full _ rfl (.tmp 6) (.tmp 6) 30 rfl w.heap.size 38 i0 _ 2 Tryd.underlying30 hi hz0 hz1 .i64 .i64 _ _ zs.length rfl rfl rfl rfl (by rw [hz2]; omega) (by unfold maxLen; omega) (Nat.le_refl _) ?_; intro w1 hown hg1)
  rw [HMI.out, ← copyToJ_zero] at hown
  have hb1 : Below w.heap.size w w1 := (Below.refl _ _).grown hg1 (Nat.le_refl _) (by simp)
  have hlo := (hown.lt w.heap.size rfl).2
  obtain ⟨B, hB⟩ : ∃ B, B = w.heap.size := ⟨_, rfl⟩
  rw [← hB] at hown hb1 hlo ⊢
  have hhB : w.heap.size ≤ B := by omega
  have HB := Lib.hid hB
  clear hB hg1
  go_loopw [4] (fun i wr => ∃ k : Nat, k ≤ zs.length ∧ i = .int .i64 k ∧ wr.ownsRow B 38 2 (.slice (some ⟨B, 0, none⟩) zs.length zs.length) zs.length (jbsCells (copyToJ zs k)) ∧ Below B w wr) (fun i _ => zs.length - (intOf i).toNat)
  case atStart => exact ⟨0, Nat.zero_le _, rfl, hown, hb1⟩
  case round =>
    clear hown hb1 hlo
    obtain ⟨k, hk, rfl, hok, hbk⟩ := hrel
    by_cases hlt : k < zs.length
    · obtain ⟨b, off, rfl, _, hbh, hc0, hc1⟩ := (HA.out.go (hbk.mono hhB)).rd.at_ hlt
      obtain ⟨s, hs⟩ : ∃ s, jbsAt zs k = s := ⟨_, rfl⟩
      rw [hs] at hc0 hc1
      have Hs := Lib.hid hs
      have Hok := Lib.hid hok
      have Hbk := Lib.hid hbk
      clear hs hok hbk
      have g1 : (k : Int) < (zs.length : Int) := by omega
      go_wp2_with fail
      refine (toJob_c s _).mono ?_
      rintro e w2 ⟨rfl, hb2⟩
      have hok := own_below Hok.out hb2
      have Hb2 := Lib.hid ((Hbk.out.mono hhB).trans (hb2.mono (Hbk.out.mono hhB).size))
      have Hbk2 := Lib.hid (Hbk.out.trans (hb2.mono (by have := Hbk.out.size; have := (Hok.out.lt B rfl).2; omega)))
      clear hb2
      have hln : (copyToJ zs k).length = zs.length := by simp [copyToJ]; omega
      have e0 := jbsCells_0 (ss := copyToJ zs k) (j := k) (by omega)
      have e1 := jbsCells_1 (ss := copyToJ zs k) (j := k) (by omega)
      have d0 := (hok.cellAt (k * 2) (by omega)).trans e0
      have d1 := (hok.cellAt (k * 2 + 1) (by omega)).trans e1
      have f0 := hok.frozenAt (k * 2)
      have f1 := hok.frozenAt (k * 2 + 1)
      have st := (hok.stored (k * 2) (.int .i64 s.d)).1.stored (k * 2 + 1) (.int .i64 s.g)
      rw [copyToJ_split zs hlt, jbsCells_set2 _ _ Jbs.zero s (by simp; omega)] at st
      have hsk : zs[k] = s := by rw [← jbsAt_lt hlt, Hs.out]
      rw [← hsk] at st
      rw [← copyToJ_succ zs hlt] at st
      rw [hsk] at st
      have St := Lib.hid st.1
      clear hok e0 e1 st hsk hc0 hc1 hln
      go_wp2
      go_roundw
      case rel => exact ⟨k + 1, by omega, by go_num, St.out, (Hbk2.out.setCell (p := ⟨B, k * 2, none⟩) (Nat.le_refl _) _).setCell (p := ⟨B, k * 2 + 1, none⟩) (Nat.le_refl _) _⟩
      case measure => simp [intOf]; omega
    · obtain rfl : k = zs.length := by omega
      rw [copyToJ_all] at hok
      have Hok := Lib.hid hok
      have Hbk := Lib.hid hbk
      clear hok hbk
      go_wp2
      go_ret
      exact RetJ.mk (f := id) hl (by rw [← HB.out]; exact Hok.out) (by rw [← HB.out]; exact Hbk.out)

end Go.Proofs.YtbcgglkgdjafiaaDoor
