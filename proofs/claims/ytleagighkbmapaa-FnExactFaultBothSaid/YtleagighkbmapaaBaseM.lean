/-
  The laws' marks over a slice of sections.
-/
import Derived.Test.YtleagighkbmapaaBaseD
namespace Go.Proofs.Ytleagighkbmapaa
open Go.RowKit

/-! ### markSectionS writes k, k + 1, .. into a slice; heldSectionS asks whether it holds them -/
def markSec (k : Int) (i : Nat) : Sec := ⟨k + 3 * (i : Int), k + 3 * (i : Int) + 1, k + 3 * (i : Int) + 1 + 1⟩
def marksC (k : Int) (n : Nat) : List Sec := (List.range n).map (markSec k)
def markToC (zs : List Sec) (k : Int) (i : Nat) : List Sec := marksC k i ++ zs.drop i
theorem marksC_length (k : Int) (n : Nat) : (marksC k n).length = n := by simp [marksC]
theorem marksC_at (k : Int) {n i : Nat} (h : i < n) : secAt (marksC k n) i = markSec k i := by simp [secAt, marksC, h]
theorem marksC_succ (k : Int) (n : Nat) : marksC k (n + 1) = marksC k n ++ [markSec k n] := by simp [marksC, List.range_succ]
theorem markToC_zero (zs : List Sec) (k : Int) : markToC zs k 0 = zs := by simp [markToC, marksC]
theorem markToC_all (zs : List Sec) (k : Int) : markToC zs k zs.length = marksC k zs.length := by simp [markToC]
theorem markToC_length (zs : List Sec) (k : Int) {i : Nat} (h : i ≤ zs.length) : (markToC zs k i).length = zs.length := by simp [markToC, marksC]; omega
theorem markToC_split (zs : List Sec) (k : Int) {i : Nat} (h : i < zs.length) : markToC zs k i = marksC k i ++ zs[i] :: zs.drop (i + 1) := by
  unfold markToC
  rw [List.getElem_cons_drop]
theorem markToC_succ (zs : List Sec) (k : Int) {i : Nat} : markToC zs k (i + 1) = marksC k i ++ markSec k i :: zs.drop (i + 1) := by
  unfold markToC
  rw [marksC_succ, List.append_assoc]
  rfl

/-- WHAT markSectionS LEAVES: it has written into the slice's own block alone. -/
def RetMarkC (t : TypeId) (lo hi : Nat) (sv : Value) (k : Int) (n : Nat) (w : World) (e : Ending) (w' : World) : Prop :=
  e = .returned (.int .i64 (k + 3 * (n : Int))) ∧ w.grownBy w' sv.ownBlock ∧ OwC t lo hi w' sv (marksC k n)

set_option maxRecDepth 100000 in
set_option maxHeartbeats 2000000 in
theorem markSectionS_c (A : Option Addr) (c : Nat) (zs : List Sec) (k : Int) (lo hi : Nat) (w : World) (hl : zs.length ≤ 2097152) (hk0 : 0 ≤ k) (hk1 : k ≤ 1099511627776) (ho : OwC 80 lo hi w (.slice A zs.length c) zs) :
    Calls Try.prog 39 #[.slice A zs.length c, .int .i64 k] w (RetMarkC 80 lo hi (.slice A zs.length c) k zs.length w) := by
  have Ho := Lib.hid ho
  have hlt2 := ho.2
  have Hlt2 := Lib.hid hlt2
  have hown := ho.1
  have Hown := Lib.hid hown
  clear ho hlt2
  have hr : World.grownBy w w (Value.slice A zs.length c).ownBlock := World.grownBy.refl w _
  have Hr := Lib.hid hr
  clear hr hown
  go_enter Try.func39, Try.ntmps39
  go_wp2
  go_loopw [1, 5] (fun q i wr => ∃ j : Nat, j ≤ zs.length ∧ i = .int .i64 j ∧ q = .int .i64 (k + 3 * (j : Int)) ∧ wr.ownsRow lo 80 3 (.slice A zs.length c) zs.length (secCells (markToC zs k j)) ∧ w.grownBy wr (Value.slice A zs.length c).ownBlock) (fun _ i _ => zs.length - (intOf i).toNat)
  case atStart => exact ⟨0, Nat.zero_le _, rfl, by simp, by rw [markToC_zero]; exact Hown.out, Hr.out⟩
  case round =>
    obtain ⟨j, hj, rfl, rfl, hok, hgk⟩ := hrel
    by_cases hlt : j < zs.length
    · obtain ⟨g, cap, hv⟩ : ∃ g cap, Value.slice A zs.length c = .slice (some ⟨g, 0, none⟩) zs.length cap := by
        rcases hok.2 with ⟨h1, h2⟩ | ⟨g, cap, cur, h1, _⟩
        · omega
        · exact ⟨g, cap, h1⟩
      have hA : A = some ⟨g, 0, none⟩ := by injection hv
      clear hv
      subst hA
      have hln := markToC_length zs k hj
      have e0 := secCells_0 (ss := markToC zs k j) (j := j) (by omega)
      have e1 := secCells_1 (ss := markToC zs k j) (j := j) (by omega)
      have e2 := secCells_2 (ss := markToC zs k j) (j := j) (by omega)
      have d0 := (hok.cellAt (j * 3) (by omega)).trans e0
      have d1 := (hok.cellAt (j * 3 + 1) (by omega)).trans e1
      have d2 := (hok.cellAt (j * 3 + 2) (by omega)).trans e2
      have f0 := hok.frozenAt (j * 3)
      have f1 := hok.frozenAt (j * 3 + 1)
      have f2 := hok.frozenAt (j * 3 + 2)
      have s0 := hok.stored (j * 3) (.int .i64 (markSec k j).m)
      have s1 := s0.1.stored (j * 3 + 1) (.int .i64 (markSec k j).k)
      have s2 := s1.1.stored (j * 3 + 2) (.int .i64 (markSec k j).o)
      have st := s2.1
      rw [markToC_split zs k hlt, secCells_set3 _ _ _ (markSec k j) (by rw [marksC_length]), ← markToC_succ] at st
      have St := Lib.hid (And.intro st (grown_then hgk (grown_then s0.2 (grown_then s1.2 s2.2))))
      clear hok hgk e0 e1 e2 s0 s1 s2 st hln
      have g1 : (j : Int) < (zs.length : Int) := by omega
      go_wp2
      go_roundw
      case rel => exact ⟨j + 1, by omega, by go_num, by simp; omega, by simpa [markSec] using St.out.1, by simpa [markSec] using St.out.2⟩
      case measure => simp [intOf]; omega
    · obtain rfl : j = zs.length := by omega
      rw [markToC_all] at hok
      have Hok := Lib.hid hok
      have Hgk := Lib.hid hgk
      clear hok hgk
      go_wp2
      go_ret
      exact ⟨rfl, Hgk.out, ⟨by rw [marksC_length]; exact Hok.out, Hlt2.out⟩⟩

theorem owC_marks {t : TypeId} {lo hi : Nat} {w : World} {A : Option Addr} {c n : Nat} {k : Int} (h : OwC t lo hi w (.slice A n c) (marksC k n)) : OwC t lo hi w (.slice A (marksC k n).length c) (marksC k n) := by
  rw [marksC_length]
  exact h

end Go.Proofs.Ytleagighkbmapaa
