/-
  The laws' marks over a slice of rots.
-/
import Derived.Test.YtjboamhjfncgdaaBaseKE
namespace Go.Proofs.Ytjboamhjfncgdaa
open Go.RowKit

/-! ### markRouteS writes k, k + 1, .. into a slice; heldRouteS asks whether it holds them -/
def markRot (k : Int) (i : Nat) : Rot := ⟨k + 4 * (i : Int), k + 4 * (i : Int) + 1, k + 4 * (i : Int) + 1 + 1, k + 4 * (i : Int) + 1 + 1 + 1⟩
def marksK (k : Int) (n : Nat) : List Rot := (List.range n).map (markRot k)
def markToK (zs : List Rot) (k : Int) (i : Nat) : List Rot := marksK k i ++ zs.drop i
theorem marksK_length (k : Int) (n : Nat) : (marksK k n).length = n := by simp [marksK]
theorem marksK_at (k : Int) {n i : Nat} (h : i < n) : rotAt (marksK k n) i = markRot k i := by simp [rotAt, marksK, h]
theorem marksK_succ (k : Int) (n : Nat) : marksK k (n + 1) = marksK k n ++ [markRot k n] := by simp [marksK, List.range_succ]
theorem markToK_zero (zs : List Rot) (k : Int) : markToK zs k 0 = zs := by simp [markToK, marksK]
theorem markToK_all (zs : List Rot) (k : Int) : markToK zs k zs.length = marksK k zs.length := by simp [markToK]
theorem markToK_length (zs : List Rot) (k : Int) {i : Nat} (h : i ≤ zs.length) : (markToK zs k i).length = zs.length := by simp [markToK, marksK]; omega
theorem markToK_split (zs : List Rot) (k : Int) {i : Nat} (h : i < zs.length) : markToK zs k i = marksK k i ++ zs[i] :: zs.drop (i + 1) := by
  unfold markToK
  rw [List.getElem_cons_drop]
theorem markToK_succ (zs : List Rot) (k : Int) {i : Nat} : markToK zs k (i + 1) = marksK k i ++ markRot k i :: zs.drop (i + 1) := by
  unfold markToK
  rw [marksK_succ, List.append_assoc]
  rfl

/-- WHAT markRouteS LEAVES: it has written into the slice's own block alone. -/
def RetMarkK (t : TypeId) (lo hi : Nat) (sv : Value) (k : Int) (n : Nat) (w : World) (e : Ending) (w' : World) : Prop :=
  e = .returned (.int .i64 (k + 4 * (n : Int))) ∧ w.grownBy w' sv.ownBlock ∧ OwK t lo hi w' sv (marksK k n)

set_option maxRecDepth 100000 in
set_option maxHeartbeats 2000000 in
theorem markRouteS_c (A : Option Addr) (c : Nat) (zs : List Rot) (k : Int) (lo hi : Nat) (w : World) (hl : zs.length ≤ 2097152) (hk0 : 0 ≤ k) (hk1 : k ≤ 1099511627776) (ho : OwK 37 lo hi w (.slice A zs.length c) zs) :
    Calls Try.prog 46 #[.slice A zs.length c, .int .i64 k] w (RetMarkK 37 lo hi (.slice A zs.length c) k zs.length w) := by
  have Ho := Lib.hid ho
  have hlt2 := ho.2
  have Hlt2 := Lib.hid hlt2
  have hown := ho.1
  have Hown := Lib.hid hown
  clear ho hlt2
  have hr : World.grownBy w w (Value.slice A zs.length c).ownBlock := World.grownBy.refl w _
  have Hr := Lib.hid hr
  clear hr hown
  go_enter Try.func46, Try.ntmps46
  go_wp2
  go_loopw [1, 5] (fun q i wr => ∃ j : Nat, j ≤ zs.length ∧ i = .int .i64 j ∧ q = .int .i64 (k + 4 * (j : Int)) ∧ wr.ownsRow lo 37 4 (.slice A zs.length c) zs.length (rotCells (markToK zs k j)) ∧ w.grownBy wr (Value.slice A zs.length c).ownBlock) (fun _ i _ => zs.length - (intOf i).toNat)
  case atStart => exact ⟨0, Nat.zero_le _, rfl, by simp, by rw [markToK_zero]; exact Hown.out, Hr.out⟩
  case round =>
    obtain ⟨j, hj, rfl, rfl, hok, hgk⟩ := hrel
    by_cases hlt : j < zs.length
    · obtain ⟨g, cap, hv⟩ : ∃ g cap, Value.slice A zs.length c = .slice (some ⟨g, 0, none⟩) zs.length cap := by
        rcases hok.2 with ⟨h1, h2⟩ | ⟨g, cap, cur, h1, _⟩
        · omega
        · exact ⟨g, cap, h1⟩
      have hA : A = some ⟨g, 0, none⟩ := by injection hv
      clear hv
      subst hA
      have hln := markToK_length zs k hj
      have e0 := rotCells_0 (ss := markToK zs k j) (j := j) (by omega)
      have e1 := rotCells_1 (ss := markToK zs k j) (j := j) (by omega)
      have e2 := rotCells_2 (ss := markToK zs k j) (j := j) (by omega)
      have e3 := rotCells_3 (ss := markToK zs k j) (j := j) (by omega)
      have d0 := (hok.cellAt (j * 4) (by omega)).trans e0
      have d1 := (hok.cellAt (j * 4 + 1) (by omega)).trans e1
      have d2 := (hok.cellAt (j * 4 + 2) (by omega)).trans e2
      have d3 := (hok.cellAt (j * 4 + 3) (by omega)).trans e3
      have f0 := hok.frozenAt (j * 4)
      have f1 := hok.frozenAt (j * 4 + 1)
      have f2 := hok.frozenAt (j * 4 + 2)
      have f3 := hok.frozenAt (j * 4 + 3)
      have s0 := hok.stored (j * 4) (.int .i64 (markRot k j).a)
      have s1 := s0.1.stored (j * 4 + 1) (.int .i64 (markRot k j).b)
      have s2 := s1.1.stored (j * 4 + 2) (.int .i64 (markRot k j).c)
      have s3 := s2.1.stored (j * 4 + 3) (.int .i64 (markRot k j).d)
      have st := s3.1
      rw [markToK_split zs k hlt, rotCells_set4 _ _ _ (markRot k j) (by rw [marksK_length]), ← markToK_succ] at st
      have St := Lib.hid (And.intro st (grown_then hgk (grown_then s0.2 (grown_then s1.2 (grown_then s2.2 s3.2)))))
      clear hok hgk e0 e1 e2 e3 s0 s1 s2 s3 st hln
      have g1 : (j : Int) < (zs.length : Int) := by omega
      go_wp2
      go_roundw
      case rel => exact ⟨j + 1, by omega, by go_num, by simp; omega, by simpa [markRot] using St.out.1, by simpa [markRot] using St.out.2⟩
      case measure => simp [intOf]; omega
    · obtain rfl : j = zs.length := by omega
      rw [markToK_all] at hok
      have Hok := Lib.hid hok
      have Hgk := Lib.hid hgk
      clear hok hgk
      go_wp2
      go_ret
      exact ⟨rfl, Hgk.out, ⟨by rw [marksK_length]; exact Hok.out, Hlt2.out⟩⟩

theorem owK_marks {t : TypeId} {lo hi : Nat} {w : World} {A : Option Addr} {c n : Nat} {k : Int} (h : OwK t lo hi w (.slice A n c) (marksK k n)) : OwK t lo hi w (.slice A (marksK k n).length c) (marksK k n) := by
  rw [marksK_length]
  exact h

set_option maxHeartbeats 2000000 in
/-- the slice holds the marks: heldRouteS says so -/
theorem heldRouteS_c (A : Option Addr) (c n : Nat) (k : Int) (w : World) (hk0 : 0 ≤ k) (hk1 : k ≤ 1099511627776) (ha : ArgK w A c (marksK k n)) :
    Calls Try.prog 59 #[.slice A n c, .int .i64 k] w fun e w' => e = .returned (.int .i64 (k + 4 * (n : Int))) ∧ w = w' := by
  have hl : n ≤ 2097152 := by simpa [marksK_length] using ha.len
  have hr := ha.rd
  have hr' : ∀ j, j < n → ∃ b off, A = some ⟨b, off, none⟩ ∧ 0 ≤ b ∧ b < w.heap.size ∧ RotAt w b (off + j * 4) (markRot k j) := fun j hj => by
    have := hr.at_ (k := j) (by rw [marksK_length]; exact hj)
    rw [marksK_at k hj] at this
    exact this
  clear hr ha
  have Hr := Lib.hid hr'
  clear hr'
  go_enter Try.func59, Try.ntmps59
  go_wp2
  go_loop [1, 5] (fun q i => ∃ j : Nat, j ≤ n ∧ i = .int .i64 j ∧ q = .int .i64 (k + 4 * (j : Int))) (fun _ i => n - (intOf i).toNat)
  case atStart => exact ⟨0, Nat.zero_le _, rfl, by simp⟩
  case round =>
    obtain ⟨j, hj, rfl, rfl⟩ := hrel
    by_cases hlt : j < n
    · obtain ⟨b, off, rfl, _, _, hc0, hc1, hc2, hc3⟩ := Hr.out j hlt
      dsimp only [markRot] at hc0 hc1 hc2 hc3
      have b0 : ((k + 4 * (j : Int)) != (k + 4 * (j : Int))) = false := by simp
      have b1 : ((k + 4 * (j : Int) + 1) != (k + 4 * (j : Int) + 1)) = false := by simp
      have b2 : ((k + 4 * (j : Int) + 1 + 1) != (k + 4 * (j : Int) + 1 + 1)) = false := by simp
      have b3 : ((k + 4 * (j : Int) + 1 + 1 + 1) != (k + 4 * (j : Int) + 1 + 1 + 1)) = false := by simp
      go_wp2
      go_round
      case rel => exact ⟨j + 1, by omega, by go_num, by simp; omega⟩
      case measure => simp [intOf]; omega
    · obtain rfl : j = n := by omega
      go_wp2
      go_ret
      exact ⟨rfl, rfl⟩

end Go.Proofs.Ytjboamhjfncgdaa
