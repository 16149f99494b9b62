/-
  The laws' marks over a slice of lins.
-/
import Derived.Test.YtbnpglljloaclaaBaseLE
namespace Go.Proofs.Ytbnpglljloaclaa
open Go.RowKit

/-! ### markLineS writes k, k + 1, .. into a slice; heldLineS asks whether it holds them -/
def markLin (k : Int) (i : Nat) : Lin := ⟨k + 3 * (i : Int), k + 3 * (i : Int) + 1, k + 3 * (i : Int) + 1 + 1⟩
def marksL (k : Int) (n : Nat) : List Lin := (List.range n).map (markLin k)
def markToL (zs : List Lin) (k : Int) (i : Nat) : List Lin := marksL k i ++ zs.drop i
theorem marksL_length (k : Int) (n : Nat) : (marksL k n).length = n := by simp [marksL]
theorem marksL_at (k : Int) {n i : Nat} (h : i < n) : linAt (marksL k n) i = markLin k i := by simp [linAt, marksL, h]
theorem marksL_succ (k : Int) (n : Nat) : marksL k (n + 1) = marksL k n ++ [markLin k n] := by simp [marksL, List.range_succ]
theorem markToL_zero (zs : List Lin) (k : Int) : markToL zs k 0 = zs := by simp [markToL, marksL]
theorem markToL_all (zs : List Lin) (k : Int) : markToL zs k zs.length = marksL k zs.length := by simp [markToL]
theorem markToL_length (zs : List Lin) (k : Int) {i : Nat} (h : i ≤ zs.length) : (markToL zs k i).length = zs.length := by simp [markToL, marksL]; omega
theorem markToL_split (zs : List Lin) (k : Int) {i : Nat} (h : i < zs.length) : markToL zs k i = marksL k i ++ zs[i] :: zs.drop (i + 1) := by
  unfold markToL
  rw [List.getElem_cons_drop]
theorem markToL_succ (zs : List Lin) (k : Int) {i : Nat} : markToL zs k (i + 1) = marksL k i ++ markLin k i :: zs.drop (i + 1) := by
  unfold markToL
  rw [marksL_succ, List.append_assoc]
  rfl

/-- WHAT markLineS LEAVES: it has written into the slice's own block alone. -/
def RetMarkL (t : TypeId) (lo hi : Nat) (sv : Value) (k : Int) (n : Nat) (w : World) (e : Ending) (w' : World) : Prop :=
  e = .returned (.int .i64 (k + 3 * (n : Int))) ∧ w.grownBy w' sv.ownBlock ∧ OwL t lo hi w' sv (marksL k n)

set_option maxRecDepth 100000 in
set_option maxHeartbeats 2000000 in
theorem markLineS_c (A : Option Addr) (c : Nat) (zs : List Lin) (k : Int) (lo hi : Nat) (w : World) (hl : zs.length ≤ 2097152) (hk0 : 0 ≤ k) (hk1 : k ≤ 1099511627776) (ho : OwL 29 lo hi w (.slice A zs.length c) zs) :
    Calls Try.prog 42 #[.slice A zs.length c, .int .i64 k] w (RetMarkL 29 lo hi (.slice A zs.length c) k zs.length w) := by
  have Ho := Lib.hid ho
  have hlt2 := ho.2
  have Hlt2 := Lib.hid hlt2
  have hown := ho.1
  have Hown := Lib.hid hown
  clear ho hlt2
  have hr : World.grownBy w w (Value.slice A zs.length c).ownBlock := World.grownBy.refl w _
  have Hr := Lib.hid hr
  clear hr hown
  go_enter Try.func42, Try.ntmps42
  go_wp2
  go_loopw [1, 5] (fun q i wr => ∃ j : Nat, j ≤ zs.length ∧ i = .int .i64 j ∧ q = .int .i64 (k + 3 * (j : Int)) ∧ wr.ownsRow lo 29 3 (.slice A zs.length c) zs.length (linCells (markToL zs k j)) ∧ w.grownBy wr (Value.slice A zs.length c).ownBlock) (fun _ i _ => zs.length - (intOf i).toNat)
  case atStart => exact ⟨0, Nat.zero_le _, rfl, by simp, by rw [markToL_zero]; exact Hown.out, Hr.out⟩
  case round =>
    obtain ⟨j, hj, rfl, rfl, hok, hgk⟩ := hrel
    by_cases hlt : j < zs.length
    · obtain ⟨g, cap, hv⟩ : ∃ g cap, Value.slice A zs.length c = .slice (some ⟨g, 0, none⟩) zs.length cap := by
        rcases hok.2 with ⟨h1, h2⟩ | ⟨g, cap, cur, h1, _⟩
        · omega
        · exact ⟨g, cap, h1⟩
      have hA : A = some ⟨g, 0, none⟩ := by injection hv
      clear hv
      subst hA
      have hln := markToL_length zs k hj
      have e0 := linCells_0 (ss := markToL zs k j) (j := j) (by omega)
      have e1 := linCells_1 (ss := markToL zs k j) (j := j) (by omega)
      have e2 := linCells_2 (ss := markToL zs k j) (j := j) (by omega)
      have d0 := (hok.cellAt (j * 3) (by omega)).trans e0
      have d1 := (hok.cellAt (j * 3 + 1) (by omega)).trans e1
      have d2 := (hok.cellAt (j * 3 + 2) (by omega)).trans e2
      have f0 := hok.frozenAt (j * 3)
      have f1 := hok.frozenAt (j * 3 + 1)
      have f2 := hok.frozenAt (j * 3 + 2)
      have s0 := hok.stored (j * 3) (.int .i64 (markLin k j).a)
      have s1 := s0.1.stored (j * 3 + 1) (.int .i64 (markLin k j).b)
      have s2 := s1.1.stored (j * 3 + 2) (.int .i64 (markLin k j).c)
      have st := s2.1
      rw [markToL_split zs k hlt, linCells_set3 _ _ _ (markLin k j) (by rw [marksL_length]), ← markToL_succ] at st
      have St := Lib.hid (And.intro st (grown_then hgk (grown_then s0.2 (grown_then s1.2 s2.2))))
      clear hok hgk e0 e1 e2 s0 s1 s2 st hln
      have g1 : (j : Int) < (zs.length : Int) := by omega
      go_wp2
      go_roundw
      case rel => exact ⟨j + 1, by omega, by go_num, by simp; omega, by simpa [markLin] using St.out.1, by simpa [markLin] using St.out.2⟩
      case measure => simp [intOf]; omega
    · obtain rfl : j = zs.length := by omega
      rw [markToL_all] at hok
      have Hok := Lib.hid hok
      have Hgk := Lib.hid hgk
      clear hok hgk
      go_wp2
      go_ret
      exact ⟨rfl, Hgk.out, ⟨by rw [marksL_length]; exact Hok.out, Hlt2.out⟩⟩

theorem owL_marks {t : TypeId} {lo hi : Nat} {w : World} {A : Option Addr} {c n : Nat} {k : Int} (h : OwL t lo hi w (.slice A n c) (marksL k n)) : OwL t lo hi w (.slice A (marksL k n).length c) (marksL k n) := by
  rw [marksL_length]
  exact h

set_option maxHeartbeats 2000000 in
/-- the slice holds the marks: heldLineS says so -/
theorem heldLineS_c (A : Option Addr) (c n : Nat) (k : Int) (w : World) (hk0 : 0 ≤ k) (hk1 : k ≤ 1099511627776) (ha : ArgL w A c (marksL k n)) :
    Calls Try.prog 48 #[.slice A n c, .int .i64 k] w fun e w' => e = .returned (.int .i64 (k + 3 * (n : Int))) ∧ w = w' := by
  have hl : n ≤ 2097152 := by simpa [marksL_length] using ha.len
  have hr := ha.rd
  have hr' : ∀ j, j < n → ∃ b off, A = some ⟨b, off, none⟩ ∧ 0 ≤ b ∧ b < w.heap.size ∧ LinAt w b (off + j * 3) (markLin k j) := fun j hj => by
    have := hr.at_ (k := j) (by rw [marksL_length]; exact hj)
    rw [marksL_at k hj] at this
    exact this
  clear hr ha
  have Hr := Lib.hid hr'
  clear hr'
  go_enter Try.func48, Try.ntmps48
  go_wp2
  go_loop [1, 5] (fun q i => ∃ j : Nat, j ≤ n ∧ i = .int .i64 j ∧ q = .int .i64 (k + 3 * (j : Int))) (fun _ i => n - (intOf i).toNat)
  case atStart => exact ⟨0, Nat.zero_le _, rfl, by simp⟩
  case round =>
    obtain ⟨j, hj, rfl, rfl⟩ := hrel
    by_cases hlt : j < n
    · obtain ⟨b, off, rfl, _, _, hc0, hc1, hc2⟩ := Hr.out j hlt
      dsimp only [markLin] at hc0 hc1 hc2
      have b0 : ((k + 3 * (j : Int)) != (k + 3 * (j : Int))) = false := by simp
      have b1 : ((k + 3 * (j : Int) + 1) != (k + 3 * (j : Int) + 1)) = false := by simp
      have b2 : ((k + 3 * (j : Int) + 1 + 1) != (k + 3 * (j : Int) + 1 + 1)) = false := by simp
      go_wp2
      go_round
      case rel => exact ⟨j + 1, by omega, by go_num, by simp; omega⟩
      case measure => simp [intOf]; omega
    · obtain rfl : j = n := by omega
      go_wp2
      go_ret
      exact ⟨rfl, rfl⟩

end Go.Proofs.Ytbnpglljloaclaa
