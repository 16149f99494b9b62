/-
  The laws' marks over a slice of jbss.
-/
import Derived.Test.YtbcgglkgdjafiaaBaseJE
namespace Go.Proofs.Ytbcgglkgdjafiaa
open Go.RowKit

/-! ### markJobS writes k, k + 1, .. into a slice; heldJobS asks whether it holds them -/
def markJbs (k : Int) (i : Nat) : Jbs := ⟨k + 2 * (i : Int), k + 2 * (i : Int) + 1⟩
def marksJ (k : Int) (n : Nat) : List Jbs := (List.range n).map (markJbs k)
def markToJ (zs : List Jbs) (k : Int) (i : Nat) : List Jbs := marksJ k i ++ zs.drop i
theorem marksJ_length (k : Int) (n : Nat) : (marksJ k n).length = n := by simp [marksJ]
theorem marksJ_at (k : Int) {n i : Nat} (h : i < n) : jbsAt (marksJ k n) i = markJbs k i := by simp [jbsAt, marksJ, h]
theorem marksJ_succ (k : Int) (n : Nat) : marksJ k (n + 1) = marksJ k n ++ [markJbs k n] := by simp [marksJ, List.range_succ]
theorem markToJ_zero (zs : List Jbs) (k : Int) : markToJ zs k 0 = zs := by simp [markToJ, marksJ]
theorem markToJ_all (zs : List Jbs) (k : Int) : markToJ zs k zs.length = marksJ k zs.length := by simp [markToJ]
theorem markToJ_length (zs : List Jbs) (k : Int) {i : Nat} (h : i ≤ zs.length) : (markToJ zs k i).length = zs.length := by simp [markToJ, marksJ]; omega
theorem markToJ_split (zs : List Jbs) (k : Int) {i : Nat} (h : i < zs.length) : markToJ zs k i = marksJ k i ++ zs[i] :: zs.drop (i + 1) := by
  unfold markToJ
  rw [List.getElem_cons_drop]
theorem markToJ_succ (zs : List Jbs) (k : Int) {i : Nat} : markToJ zs k (i + 1) = marksJ k i ++ markJbs k i :: zs.drop (i + 1) := by
  unfold markToJ
  rw [marksJ_succ, List.append_assoc]
  rfl

/-- WHAT markJobS LEAVES: it has written into the slice's own block alone. -/
def RetMarkJ (t : TypeId) (lo hi : Nat) (sv : Value) (k : Int) (n : Nat) (w : World) (e : Ending) (w' : World) : Prop :=
  e = .returned (.int .i64 (k + 2 * (n : Int))) ∧ w.grownBy w' sv.ownBlock ∧ OwJ t lo hi w' sv (marksJ k n)

set_option maxRecDepth 100000 in
set_option maxHeartbeats 2000000 in
theorem markJobS_c (A : Option Addr) (c : Nat) (zs : List Jbs) (k : Int) (lo hi : Nat) (w : World) (hl : zs.length ≤ 2097152) (hk0 : 0 ≤ k) (hk1 : k ≤ 1099511627776) (ho : OwJ 51 lo hi w (.slice A zs.length c) zs) :
    Calls Try.prog 26 #[.slice A zs.length c, .int .i64 k] w (RetMarkJ 51 lo hi (.slice A zs.length c) k zs.length w) := by
  have Ho := Lib.hid ho
  have hlt2 := ho.2
  have Hlt2 := Lib.hid hlt2
  have hown := ho.1
  have Hown := Lib.hid hown
  clear ho hlt2
  have hr : World.grownBy w w (Value.slice A zs.length c).ownBlock := World.grownBy.refl w _
  have Hr := Lib.hid hr
  clear hr hown
  go_enter Try.func26, Try.ntmps26
  go_wp2
  go_loopw [1, 5] (fun q i wr => ∃ j : Nat, j ≤ zs.length ∧ i = .int .i64 j ∧ q = .int .i64 (k + 2 * (j : Int)) ∧ wr.ownsRow lo 51 2 (.slice A zs.length c) zs.length (jbsCells (markToJ zs k j)) ∧ w.grownBy wr (Value.slice A zs.length c).ownBlock) (fun _ i _ => zs.length - (intOf i).toNat)
  case atStart => exact ⟨0, Nat.zero_le _, rfl, by simp, by rw [markToJ_zero]; exact Hown.out, Hr.out⟩
  case round =>
    obtain ⟨j, hj, rfl, rfl, hok, hgk⟩ := hrel
    by_cases hlt : j < zs.length
    · obtain ⟨g, cap, hv⟩ : ∃ g cap, Value.slice A zs.length c = .slice (some ⟨g, 0, none⟩) zs.length cap := by
        rcases hok.2 with ⟨h1, h2⟩ | ⟨g, cap, cur, h1, _⟩
        · omega
        · exact ⟨g, cap, h1⟩
      have hA : A = some ⟨g, 0, none⟩ := by injection hv
      clear hv
      subst hA
      have hln := markToJ_length zs k hj
      have e0 := jbsCells_0 (ss := markToJ zs k j) (j := j) (by omega)
      have e1 := jbsCells_1 (ss := markToJ zs k j) (j := j) (by omega)
      have d0 := (hok.cellAt (j * 2) (by omega)).trans e0
      have d1 := (hok.cellAt (j * 2 + 1) (by omega)).trans e1
      have f0 := hok.frozenAt (j * 2)
      have f1 := hok.frozenAt (j * 2 + 1)
      have s0 := hok.stored (j * 2) (.int .i64 (markJbs k j).d)
      have s1 := s0.1.stored (j * 2 + 1) (.int .i64 (markJbs k j).g)
      have st := s1.1
      rw [markToJ_split zs k hlt, jbsCells_set2 _ _ _ (markJbs k j) (by rw [marksJ_length]), ← markToJ_succ] at st
      have St := Lib.hid (And.intro st (grown_then hgk (grown_then s0.2 s1.2)))
      clear hok hgk e0 e1 s0 s1 st hln
      have g1 : (j : Int) < (zs.length : Int) := by omega
      go_wp2
      go_roundw
      case rel => exact ⟨j + 1, by omega, by go_num, by simp; omega, by simpa [markJbs] using St.out.1, by simpa [markJbs] using St.out.2⟩
      case measure => simp [intOf]; omega
    · obtain rfl : j = zs.length := by omega
      rw [markToJ_all] at hok
      have Hok := Lib.hid hok
      have Hgk := Lib.hid hgk
      clear hok hgk
      go_wp2
      go_ret
      exact ⟨rfl, Hgk.out, ⟨by rw [marksJ_length]; exact Hok.out, Hlt2.out⟩⟩

theorem owJ_marks {t : TypeId} {lo hi : Nat} {w : World} {A : Option Addr} {c n : Nat} {k : Int} (h : OwJ t lo hi w (.slice A n c) (marksJ k n)) : OwJ t lo hi w (.slice A (marksJ k n).length c) (marksJ k n) := by
  rw [marksJ_length]
  exact h

end Go.Proofs.Ytbcgglkgdjafiaa
