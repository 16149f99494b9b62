/-
  Contracts of the laws' own small functions over lists of lins: toLineS.
-/
import Derived.Test.YtbnpglljloaclaaBaseLE
import Derived.RegionTactic
import Derived.StillTailTactics
namespace Go.Proofs.Ytbnpglljloaclaa
open Go.RowKit

theorem linInfo : (Try.prog.info? 29).map (fun i => (i.zero, i.size, i.bytes)) = some (some (.agg #[.int .i64 0, .int .i64 0, .int .i64 0]), 3, 24) := by kernel_rfl

/-! ### one lin given over -/
theorem toLine_c (s : Lin) (w : World) :
    Calls Try.prog 65 #[.agg #[.int .i64 s.a, .int .i64 s.b, .int .i64 s.c]] w fun e w' => e = .returned (.agg #[.int .i64 s.a, .int .i64 s.b, .int .i64 s.c]) ∧ Below w.heap.size w w' := by
  go_enter Try.func65, Try.ntmps65
  go_wp2
  exact bodyPost_ret (v := .agg #[.int .i64 s.a, .int .i64 s.b, .int .i64 s.c]) (by simp [results, Try.results65, go_sem]) rfl ⟨rfl, ((((Below.refl _ _).alloc (Nat.le_refl _) _).alloc (by simp) _).alloc (by simp; omega) _)⟩

/-! ### toLineS: a copy in new memory -/
def copyToL (zs : List Lin) (k : Nat) : List Lin := zs.take k ++ List.replicate (zs.length - k) Lin.zero
theorem copyToL_zero (zs : List Lin) : copyToL zs 0 = List.replicate zs.length Lin.zero := by simp [copyToL]
theorem copyToL_all (zs : List Lin) : copyToL zs zs.length = zs := by simp [copyToL]
theorem copyToL_split (zs : List Lin) {k : Nat} (h : k < zs.length) : copyToL zs k = zs.take k ++ Lin.zero :: List.replicate (zs.length - (k + 1)) Lin.zero := by
  unfold copyToL
  obtain ⟨m, hm⟩ : ∃ m, zs.length - k = m + 1 := ⟨zs.length - k - 1, by omega⟩
  rw [hm, List.replicate_succ, show zs.length - (k + 1) = m by omega]
theorem copyToL_succ (zs : List Lin) {k : Nat} (h : k < zs.length) : copyToL zs (k + 1) = zs.take k ++ zs[k] :: List.replicate (zs.length - (k + 1)) Lin.zero := by
  unfold copyToL
  rw [take_snoc zs h, List.append_assoc]
  rfl
theorem linCells_replicate (n : Nat) : linCells (List.replicate n Lin.zero) = List.replicate (n * 3) (.int .i64 0) := by
  induction n with
  | zero => rfl
  | succ n ih =>
    rw [List.replicate_succ, linCells_cons, ih, show (n + 1) * 3 = n * 3 + 3 by omega]
    rfl
theorem made_lins (n : Nat) : (madeCells (Value.cells (.agg #[.int .i64 0, .int .i64 0, .int .i64 0])) (n * 3)).toList = linCells (List.replicate n Lin.zero) := by
  rw [linCells_replicate]
  apply List.ext_getElem
  · simp [madeCells]
  · intro i h1 h2
    have h3 : i % 3 < 3 := Nat.mod_lt _ (by omega)
    simp only [madeCells, Value.cells, List.getElem_replicate, Array.getElem_toList]
    rcases (by omega : i % 3 = 0 ∨ i % 3 = 1 ∨ i % 3 = 2) with h | h | h <;> simp [h]

set_option maxRecDepth 100000 in
set_option maxHeartbeats 2000000 in
theorem toLineS_c (A : Option Addr) (c : Nat) (zs : List Lin) (w : World) (ha : ArgL w A c zs) :
    Calls Try.prog 31 #[.slice A zs.length c] w (RetL 29 id zs w) := by
  have HA := Lib.hid ha
  have hl := ha.len
  clear ha
  obtain ⟨i0, hi, hz0, hz1, hz2⟩ := info_parts linInfo
  have hmi := made_lins zs.length
  have HMI := Lib.hid hmi
  clear hmi
  go_enter Try.func31, Try.ntmps31
  go_wp2_with (at_make; refine wpList_make_full _ rfl (.tmp 6) (.tmp 6) 23 rfl w.heap.size 29 i0 _ 3 Try.underlying23 hi hz0 hz1 .i64 .i64 _ _ zs.length rfl rfl rfl rfl (by rw [hz2]; omega) (by unfold maxLen; omega) (Nat.le_refl _) ?_; intro w1 hown hg1)
  rw [HMI.out, ← copyToL_zero] at hown
  have hb1 : Below w.heap.size w w1 := (Below.refl _ _).grown hg1 (Nat.le_refl _) (by simp)
  have hlo := (hown.lt w.heap.size rfl).2
  obtain ⟨B, hB⟩ : ∃ B, B = w.heap.size := ⟨_, rfl⟩
  rw [← hB] at hown hb1 hlo ⊢
  have hhB : w.heap.size ≤ B := by omega
  have HB := Lib.hid hB
  clear hB hg1
  go_loopw [4] (fun i wr => ∃ k : Nat, k ≤ zs.length ∧ i = .int .i64 k ∧ wr.ownsRow B 29 3 (.slice (some ⟨B, 0, none⟩) zs.length zs.length) zs.length (linCells (copyToL zs k)) ∧ Below B w wr) (fun i _ => zs.length - (intOf i).toNat)
  case atStart => exact ⟨0, Nat.zero_le _, rfl, hown, hb1⟩
  case round =>
    clear hown hb1 hlo
    obtain ⟨k, hk, rfl, hok, hbk⟩ := hrel
    by_cases hlt : k < zs.length
    · obtain ⟨b, off, rfl, _, hbh, hc0, hc1, hc2⟩ := (HA.out.go (hbk.mono hhB)).rd.at_ hlt
      obtain ⟨s, hs⟩ : ∃ s, linAt zs k = s := ⟨_, rfl⟩
      rw [hs] at hc0 hc1 hc2
      have Hs := Lib.hid hs
      have Hok := Lib.hid hok
      have Hbk := Lib.hid hbk
      clear hs hok hbk
      have g1 : (k : Int) < (zs.length : Int) := by omega
      go_wp2_with fail
      refine (toLine_c s _).mono ?_
      rintro e w2 ⟨rfl, hb2⟩
      have hok := own_below Hok.out hb2
      have Hb2 := Lib.hid ((Hbk.out.mono hhB).trans (hb2.mono (Hbk.out.mono hhB).size))
      have Hbk2 := Lib.hid (Hbk.out.trans (hb2.mono (by have := Hbk.out.size; have := (Hok.out.lt B rfl).2; omega)))
      clear hb2
      have hln : (copyToL zs k).length = zs.length := by simp [copyToL]; omega
      have e0 := linCells_0 (ss := copyToL zs k) (j := k) (by omega)
      have e1 := linCells_1 (ss := copyToL zs k) (j := k) (by omega)
      have e2 := linCells_2 (ss := copyToL zs k) (j := k) (by omega)
      have d0 := (hok.cellAt (k * 3) (by omega)).trans e0
      have d1 := (hok.cellAt (k * 3 + 1) (by omega)).trans e1
      have d2 := (hok.cellAt (k * 3 + 2) (by omega)).trans e2
      have f0 := hok.frozenAt (k * 3)
      have f1 := hok.frozenAt (k * 3 + 1)
      have f2 := hok.frozenAt (k * 3 + 2)
      have st := ((hok.stored (k * 3) (.int .i64 s.a)).1.stored (k * 3 + 1) (.int .i64 s.b)).1.stored (k * 3 + 2) (.int .i64 s.c)
      rw [copyToL_split zs hlt, linCells_set3 _ _ Lin.zero s (by simp; omega)] at st
      have hsk : zs[k] = s := by rw [← linAt_lt hlt, Hs.out]
      rw [← hsk] at st
      rw [← copyToL_succ zs hlt] at st
      rw [hsk] at st
      have St := Lib.hid st.1
      clear hok e0 e1 e2 st hsk hc0 hc1 hc2 hln
      go_wp2
      go_roundw
      case rel => exact ⟨k + 1, by omega, by go_num, St.out, ((Hbk2.out.setCell (p := ⟨B, k * 3, none⟩) (Nat.le_refl _) _).setCell (p := ⟨B, k * 3 + 1, none⟩) (Nat.le_refl _) _).setCell (p := ⟨B, k * 3 + 2, none⟩) (Nat.le_refl _) _⟩
      case measure => simp [intOf]; omega
    · obtain rfl : k = zs.length := by omega
      rw [copyToL_all] at hok
      have Hok := Lib.hid hok
      have Hbk := Lib.hid hbk
      clear hok hbk
      go_wp2
      go_ret
      exact RetL.mk (f := id) hl (by rw [← HB.out]; exact Hok.out) (by rw [← HB.out]; exact Hbk.out)

end Go.Proofs.Ytbnpglljloaclaa
