/-
  The laws' marks over a slice of sprs.
-/
import Derived.Test.YtkicifkigbciaaaBaseZE
namespace Go.Proofs.Ytkicifkigbciaaa
open Go.RowKit

/-! ### markSpareS writes k, k + 1, .. into a slice; heldSpareS asks whether it holds them -/
def markSpr (k : Int) (i : Nat) : Spr := ⟨k + 2 * (i : Int), k + 2 * (i : Int) + 1⟩
def marksZ (k : Int) (n : Nat) : List Spr := (List.range n).map (markSpr k)
def markToZ (zs : List Spr) (k : Int) (i : Nat) : List Spr := marksZ k i ++ zs.drop i
theorem marksZ_length (k : Int) (n : Nat) : (marksZ k n).length = n := by simp [marksZ]
theorem marksZ_at (k : Int) {n i : Nat} (h : i < n) : sprAt (marksZ k n) i = markSpr k i := by simp [sprAt, marksZ, h]
theorem marksZ_succ (k : Int) (n : Nat) : marksZ k (n + 1) = marksZ k n ++ [markSpr k n] := by simp [marksZ, List.range_succ]
theorem markToZ_zero (zs : List Spr) (k : Int) : markToZ zs k 0 = zs := by simp [markToZ, marksZ]
theorem markToZ_all (zs : List Spr) (k : Int) : markToZ zs k zs.length = marksZ k zs.length := by simp [markToZ]
theorem markToZ_length (zs : List Spr) (k : Int) {i : Nat} (h : i ≤ zs.length) : (markToZ zs k i).length = zs.length := by simp [markToZ, marksZ]; omega
theorem markToZ_split (zs : List Spr) (k : Int) {i : Nat} (h : i < zs.length) : markToZ zs k i = marksZ k i ++ zs[i] :: zs.drop (i + 1) := by
  unfold markToZ
  rw [List.getElem_cons_drop]
theorem markToZ_succ (zs : List Spr) (k : Int) {i : Nat} : markToZ zs k (i + 1) = marksZ k i ++ markSpr k i :: zs.drop (i + 1) := by
  unfold markToZ
  rw [marksZ_succ, List.append_assoc]
  rfl

/-- WHAT markSpareS LEAVES: it has written into the slice's own block alone. -/
def RetMarkZ (t : TypeId) (lo hi : Nat) (sv : Value) (k : Int) (n : Nat) (w : World) (e : Ending) (w' : World) : Prop :=
  e = .returned (.int .i64 (k + 2 * (n : Int))) ∧ w.grownBy w' sv.ownBlock ∧ OwZ t lo hi w' sv (marksZ k n)

set_option maxRecDepth 100000 in
set_option maxHeartbeats 2000000 in
theorem markSpareS_c (A : Option Addr) (c : Nat) (zs : List Spr) (k : Int) (lo hi : Nat) (w : World) (hl : zs.length ≤ 2097152) (hk0 : 0 ≤ k) (hk1 : k ≤ 1099511627776) (ho : OwZ 25 lo hi w (.slice A zs.length c) zs) :
    Calls Try.prog 44 #[.slice A zs.length c, .int .i64 k] w (RetMarkZ 25 lo hi (.slice A zs.length c) k zs.length w) := by
  have Ho := Lib.hid ho
  have hlt2 := ho.2
  have Hlt2 := Lib.hid hlt2
  have hown := ho.1
  have Hown := Lib.hid hown
  clear ho hlt2
  have hr : World.grownBy w w (Value.slice A zs.length c).ownBlock := World.grownBy.refl w _
  have Hr := Lib.hid hr
  clear hr hown
  go_enter Try.func44, Try.ntmps44
  go_wp2
  go_loopw [1, 5] (fun q i wr => ∃ j : Nat, j ≤ zs.length ∧ i = .int .i64 j ∧ q = .int .i64 (k + 2 * (j : Int)) ∧ wr.ownsRow lo 25 2 (.slice A zs.length c) zs.length (sprCells (markToZ zs k j)) ∧ w.grownBy wr (Value.slice A zs.length c).ownBlock) (fun _ i _ => zs.length - (intOf i).toNat)
  case atStart => exact ⟨0, Nat.zero_le _, rfl, by simp, by rw [markToZ_zero]; exact Hown.out, Hr.out⟩
  case round =>
    obtain ⟨j, hj, rfl, rfl, hok, hgk⟩ := hrel
    by_cases hlt : j < zs.length
    · obtain ⟨g, cap, hv⟩ : ∃ g cap, Value.slice A zs.length c = .slice (some ⟨g, 0, none⟩) zs.length cap := by
        rcases hok.2 with ⟨h1, h2⟩ | ⟨g, cap, cur, h1, _⟩
        · omega
        · exact ⟨g, cap, h1⟩
      have hA : A = some ⟨g, 0, none⟩ := by injection hv
      clear hv
      subst hA
      have hln := markToZ_length zs k hj
      have e0 := sprCells_0 (ss := markToZ zs k j) (j := j) (by omega)
      have e1 := sprCells_1 (ss := markToZ zs k j) (j := j) (by omega)
      have d0 := (hok.cellAt (j * 2) (by omega)).trans e0
      have d1 := (hok.cellAt (j * 2 + 1) (by omega)).trans e1
      have f0 := hok.frozenAt (j * 2)
      have f1 := hok.frozenAt (j * 2 + 1)
      have s0 := hok.stored (j * 2) (.int .i64 (markSpr k j).m)
      have s1 := s0.1.stored (j * 2 + 1) (.int .i64 (markSpr k j).k)
      have st := s1.1
      rw [markToZ_split zs k hlt, sprCells_set2 _ _ _ (markSpr k j) (by rw [marksZ_length]), ← markToZ_succ] at st
      have St := Lib.hid (And.intro st (grown_then hgk (grown_then s0.2 s1.2)))
      clear hok hgk e0 e1 s0 s1 st hln
      have g1 : (j : Int) < (zs.length : Int) := by omega
      go_wp2
      go_roundw
      case rel => exact ⟨j + 1, by omega, by go_num, by simp; omega, by simpa [markSpr] using St.out.1, by simpa [markSpr] using St.out.2⟩
      case measure => simp [intOf]; omega
    · obtain rfl : j = zs.length := by omega
      rw [markToZ_all] at hok
      have Hok := Lib.hid hok
      have Hgk := Lib.hid hgk
      clear hok hgk
      go_wp2
      go_ret
      exact ⟨rfl, Hgk.out, ⟨by rw [marksZ_length]; exact Hok.out, Hlt2.out⟩⟩

theorem owZ_marks {t : TypeId} {lo hi : Nat} {w : World} {A : Option Addr} {c n : Nat} {k : Int} (h : OwZ t lo hi w (.slice A n c) (marksZ k n)) : OwZ t lo hi w (.slice A (marksZ k n).length c) (marksZ k n) := by
  rw [marksZ_length]
  exact h

set_option maxHeartbeats 2000000 in
/-- the slice holds the marks: heldSpareS says so -/
theorem heldSpareS_c (A : Option Addr) (c n : Nat) (k : Int) (w : World) (hk0 : 0 ≤ k) (hk1 : k ≤ 1099511627776) (ha : ArgZ w A c (marksZ k n)) :
    Calls Try.prog 45 #[.slice A n c, .int .i64 k] w fun e w' => e = .returned (.int .i64 (k + 2 * (n : Int))) ∧ w = w' := by
  have hl : n ≤ 2097152 := by simpa [marksZ_length] using ha.len
  have hr := ha.rd
  have hr' : ∀ j, j < n → ∃ b off, A = some ⟨b, off, none⟩ ∧ 0 ≤ b ∧ b < w.heap.size ∧ SprAt w b (off + j * 2) (markSpr k j) := fun j hj => by
    have := hr.at_ (k := j) (by rw [marksZ_length]; exact hj)
    rw [marksZ_at k hj] at this
    exact this
  clear hr ha
  have Hr := Lib.hid hr'
  clear hr'
  go_enter Try.func45, Try.ntmps45
  go_wp2
  go_loop [1, 5] (fun q i => ∃ j : Nat, j ≤ n ∧ i = .int .i64 j ∧ q = .int .i64 (k + 2 * (j : Int))) (fun _ i => n - (intOf i).toNat)
  case atStart => exact ⟨0, Nat.zero_le _, rfl, by simp⟩
  case round =>
    obtain ⟨j, hj, rfl, rfl⟩ := hrel
    by_cases hlt : j < n
    · obtain ⟨b, off, rfl, _, _, hc0, hc1⟩ := Hr.out j hlt
      dsimp only [markSpr] at hc0 hc1
      have b0 : ((k + 2 * (j : Int)) != (k + 2 * (j : Int))) = false := by simp
      have b1 : ((k + 2 * (j : Int) + 1) != (k + 2 * (j : Int) + 1)) = false := by simp
      go_wp2
      go_round
      case rel => exact ⟨j + 1, by omega, by go_num, by simp; omega⟩
      case measure => simp [intOf]; omega
    · obtain rfl : j = n := by omega
      go_wp2
      go_ret
      exact ⟨rfl, rfl⟩

end Go.Proofs.Ytkicifkigbciaaa
