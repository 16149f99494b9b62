/-
  The laws' marks over a slice of flts.
-/
import Derived.Test.YtleagighkbmapaaBaseFE
namespace Go.Proofs.Ytleagighkbmapaa
open Go.RowKit

/-! ### markFaultS writes k, k + 1, .. into a slice; heldFaultS asks whether it holds them -/
def markFlt (k : Int) (i : Nat) : Flt := ⟨k + 2 * (i : Int), k + 2 * (i : Int) + 1⟩
def marksF (k : Int) (n : Nat) : List Flt := (List.range n).map (markFlt k)
def markToF (zs : List Flt) (k : Int) (i : Nat) : List Flt := marksF k i ++ zs.drop i
theorem marksF_length (k : Int) (n : Nat) : (marksF k n).length = n := by simp [marksF]
theorem marksF_at (k : Int) {n i : Nat} (h : i < n) : fltAt (marksF k n) i = markFlt k i := by simp [fltAt, marksF, h]
theorem marksF_succ (k : Int) (n : Nat) : marksF k (n + 1) = marksF k n ++ [markFlt k n] := by simp [marksF, List.range_succ]
theorem markToF_zero (zs : List Flt) (k : Int) : markToF zs k 0 = zs := by simp [markToF, marksF]
theorem markToF_all (zs : List Flt) (k : Int) : markToF zs k zs.length = marksF k zs.length := by simp [markToF]
theorem markToF_length (zs : List Flt) (k : Int) {i : Nat} (h : i ≤ zs.length) : (markToF zs k i).length = zs.length := by simp [markToF, marksF]; omega
theorem markToF_split (zs : List Flt) (k : Int) {i : Nat} (h : i < zs.length) : markToF zs k i = marksF k i ++ zs[i] :: zs.drop (i + 1) := by
  unfold markToF
  rw [List.getElem_cons_drop]
theorem markToF_succ (zs : List Flt) (k : Int) {i : Nat} : markToF zs k (i + 1) = marksF k i ++ markFlt k i :: zs.drop (i + 1) := by
  unfold markToF
  rw [marksF_succ, List.append_assoc]
  rfl

/-- WHAT markFaultS LEAVES: it has written into the slice's own block alone. -/
def RetMarkF (t : TypeId) (lo hi : Nat) (sv : Value) (k : Int) (n : Nat) (w : World) (e : Ending) (w' : World) : Prop :=
  e = .returned (.int .i64 (k + 2 * (n : Int))) ∧ w.grownBy w' sv.ownBlock ∧ OwF t lo hi w' sv (marksF k n)

set_option maxRecDepth 100000 in
set_option maxHeartbeats 2000000 in
theorem markFaultS_c (A : Option Addr) (c : Nat) (zs : List Flt) (k : Int) (lo hi : Nat) (w : World) (hl : zs.length ≤ 2097152) (hk0 : 0 ≤ k) (hk1 : k ≤ 1099511627776) (ho : OwF 27 lo hi w (.slice A zs.length c) zs) :
    Calls Try.prog 40 #[.slice A zs.length c, .int .i64 k] w (RetMarkF 27 lo hi (.slice A zs.length c) k zs.length w) := by
  have Ho := Lib.hid ho
  have hlt2 := ho.2
  have Hlt2 := Lib.hid hlt2
  have hown := ho.1
  have Hown := Lib.hid hown
  clear ho hlt2
  have hr : World.grownBy w w (Value.slice A zs.length c).ownBlock := World.grownBy.refl w _
  have Hr := Lib.hid hr
  clear hr hown
  go_enter Try.func40, Try.ntmps40
  go_wp2
  go_loopw [1, 5] (fun q i wr => ∃ j : Nat, j ≤ zs.length ∧ i = .int .i64 j ∧ q = .int .i64 (k + 2 * (j : Int)) ∧ wr.ownsRow lo 27 2 (.slice A zs.length c) zs.length (fltCells (markToF zs k j)) ∧ w.grownBy wr (Value.slice A zs.length c).ownBlock) (fun _ i _ => zs.length - (intOf i).toNat)
  case atStart => exact ⟨0, Nat.zero_le _, rfl, by simp, by rw [markToF_zero]; exact Hown.out, Hr.out⟩
  case round =>
    obtain ⟨j, hj, rfl, rfl, hok, hgk⟩ := hrel
    by_cases hlt : j < zs.length
    · obtain ⟨g, cap, hv⟩ : ∃ g cap, Value.slice A zs.length c = .slice (some ⟨g, 0, none⟩) zs.length cap := by
        rcases hok.2 with ⟨h1, h2⟩ | ⟨g, cap, cur, h1, _⟩
        · omega
        · exact ⟨g, cap, h1⟩
      have hA : A = some ⟨g, 0, none⟩ := by injection hv
      clear hv
      subst hA
      have hln := markToF_length zs k hj
      have e0 := fltCells_0 (ss := markToF zs k j) (j := j) (by omega)
      have e1 := fltCells_1 (ss := markToF zs k j) (j := j) (by omega)
      have d0 := (hok.cellAt (j * 2) (by omega)).trans e0
      have d1 := (hok.cellAt (j * 2 + 1) (by omega)).trans e1
      have f0 := hok.frozenAt (j * 2)
      have f1 := hok.frozenAt (j * 2 + 1)
      have s0 := hok.stored (j * 2) (.int .i64 (markFlt k j).m)
      have s1 := s0.1.stored (j * 2 + 1) (.int .i64 (markFlt k j).o)
      have st := s1.1
      rw [markToF_split zs k hlt, fltCells_set2 _ _ _ (markFlt k j) (by rw [marksF_length]), ← markToF_succ] at st
      have St := Lib.hid (And.intro st (grown_then hgk (grown_then s0.2 s1.2)))
      clear hok hgk e0 e1 s0 s1 st hln
      have g1 : (j : Int) < (zs.length : Int) := by omega
      go_wp2
      go_roundw
      case rel => exact ⟨j + 1, by omega, by go_num, by simp; omega, by simpa [markFlt] using St.out.1, by simpa [markFlt] using St.out.2⟩
      case measure => simp [intOf]; omega
    · obtain rfl : j = zs.length := by omega
      rw [markToF_all] at hok
      have Hok := Lib.hid hok
      have Hgk := Lib.hid hgk
      clear hok hgk
      go_wp2
      go_ret
      exact ⟨rfl, Hgk.out, ⟨by rw [marksF_length]; exact Hok.out, Hlt2.out⟩⟩

theorem owF_marks {t : TypeId} {lo hi : Nat} {w : World} {A : Option Addr} {c n : Nat} {k : Int} (h : OwF t lo hi w (.slice A n c) (marksF k n)) : OwF t lo hi w (.slice A (marksF k n).length c) (marksF k n) := by
  rw [marksF_length]
  exact h

set_option maxHeartbeats 2000000 in
/-- the slice holds the marks: heldFaultS says so -/
theorem heldFaultS_c (A : Option Addr) (c n : Nat) (k : Int) (w : World) (hk0 : 0 ≤ k) (hk1 : k ≤ 1099511627776) (ha : ArgF w A c (marksF k n)) :
    Calls Try.prog 41 #[.slice A n c, .int .i64 k] w fun e w' => e = .returned (.int .i64 (k + 2 * (n : Int))) ∧ w = w' := by
  have hl : n ≤ 2097152 := by simpa [marksF_length] using ha.len
  have hr := ha.rd
  have hr' : ∀ j, j < n → ∃ b off, A = some ⟨b, off, none⟩ ∧ 0 ≤ b ∧ b < w.heap.size ∧ FltAt w b (off + j * 2) (markFlt k j) := fun j hj => by
    have := hr.at_ (k := j) (by rw [marksF_length]; exact hj)
    rw [marksF_at k hj] at this
    exact this
  clear hr ha
  have Hr := Lib.hid hr'
  clear hr'
  go_enter Try.func41, Try.ntmps41
  go_wp2
  go_loop [1, 5] (fun q i => ∃ j : Nat, j ≤ n ∧ i = .int .i64 j ∧ q = .int .i64 (k + 2 * (j : Int))) (fun _ i => n - (intOf i).toNat)
  case atStart => exact ⟨0, Nat.zero_le _, rfl, by simp⟩
  case round =>
    obtain ⟨j, hj, rfl, rfl⟩ := hrel
    by_cases hlt : j < n
    · obtain ⟨b, off, rfl, _, _, hc0, hc1⟩ := Hr.out j hlt
      dsimp only [markFlt] at hc0 hc1
      have b0 : ((k + 2 * (j : Int)) != (k + 2 * (j : Int))) = false := by simp
      have b1 : ((k + 2 * (j : Int) + 1) != (k + 2 * (j : Int) + 1)) = false := by simp
      go_wp2
      go_round
      case rel => exact ⟨j + 1, by omega, by go_num, by simp; omega⟩
      case measure => simp [intOf]; omega
    · obtain rfl : j = n := by omega
      go_wp2
      go_ret
      exact ⟨rfl, rfl⟩

end Go.Proofs.Ytleagighkbmapaa
