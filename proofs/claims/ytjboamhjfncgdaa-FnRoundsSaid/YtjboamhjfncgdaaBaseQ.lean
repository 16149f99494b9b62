/-
  Contracts of the laws' own small functions over lists of ints: eqIntS, sameInts, sumOf, markIntS, heldIntS.
-/
import Derived.Test.YtjboamhjfncgdaaMade
import Derived.Test.YtjboamhjfncgdaaMem
import Derived.Test.YtjboamhjfncgdaaProg
namespace Go.Proofs.Ytjboamhjfncgdaa
open Go.RowKit

set_option maxHeartbeats 400000 in
theorem eqIntS_c (A B : Option Addr) (c d : Nat) (xs ys : List Int) (w : World) (ha1 : Arg w A c xs) (ha2 : Arg w B d ys) :
    Calls Try.prog 45 #[.slice A xs.length c, .slice B ys.length d] w (RetQ (.bool (decide (xs = ys))) w) := by
  obtain ⟨hx, _, _, r1⟩ := ha1
  obtain ⟨hy, _, _, r2⟩ := ha2
  by_cases hl : xs.length = ys.length
  · have hl1 : ((xs.length : Int) != (ys.length : Int)) = false := by simp [hl]
    have HL := Lib.hid hl
    clear hl
    go_enter Try.func45, Try.ntmps45
    go_wp2
    go_loopw [5] (fun i wr => ∃ k n : Nat, k ≤ xs.length ∧ eqTo xs ys k ∧ i = .int .i64 k ∧ wr = w.drewN n) (fun i _ => xs.length - (intOf i).toNat)
    case atStart => exact ⟨0, 0, Nat.zero_le _, eqTo_zero _ _, rfl, rfl⟩
    case round =>
      obtain ⟨k, n, hk, ha, rfl, rfl⟩ := hrel
      have Ha := Lib.hid ha
      clear ha
      by_cases hlt : k < xs.length
      · have hlt2 : k < ys.length := by have := HL.out; omega
        obtain ⟨b, off, rfl, _, _, hc⟩ := r1.at_ hlt
        obtain ⟨b', off', rfl, _, _, hc'⟩ := r2.at_ hlt2
        have R1 := Lib.hid r1
        have R2 := Lib.hid r2
        clear r1 r2
        have e0 : xs[k]?.getD 0 = xs[k] := by simp [hlt]
        have e1 : ys[k]?.getD 0 = ys[k] := by simp [hlt2]
        rw [e0] at hc
        rw [e1] at hc'
        have E0 := Lib.hid e0
        have E1 := Lib.hid e1
        clear e0 e1
        have g1 : (k : Int) < (xs.length : Int) := by omega
        have g2 : (k : Int) < (ys.length : Int) := by omega
        by_cases hne : xs[k] = ys[k]
        · have hb : (xs[k] != ys[k]) = false := by simp [hne]
          have Hne := Lib.hid hne
          clear hne
          go_wp2
          go_quiet (fail)
          go_wp2
          go_roundw
          case rel => exact ⟨k + 1, _, by omega, eqTo_succ Ha.out (by rw [E0.out, E1.out]; exact Hne.out), by go_num, by first | exact World.drewN_drewN _ _ _ | rfl⟩
          case measure => simp [intOf]; omega
        · have hb : (xs[k] != ys[k]) = true := by simp [hne]
          have Hne := Lib.hid hne
          clear hne
          go_wp2
          go_quiet (fail)
          go_wp2
          go_ret
          refine ⟨?_, _, by first | exact World.drewN_drewN _ _ _ | rfl⟩
          have hn : xs ≠ ys := by
            intro e
            subst e
            exact Hne.out rfl
          simp [hn]
      · obtain rfl : k = xs.length := by omega
        go_wp2
        go_ret
        refine ⟨?_, n, rfl⟩
        have := eq_of_to HL.out Ha.out
        simp [this]
  · have hl1 : ((xs.length : Int) != (ys.length : Int)) = true := by simp; omega
    have hn : xs ≠ ys := fun e => hl (by rw [e])
    have HN := Lib.hid hn
    clear hl hn
    go_enter Try.func45, Try.ntmps45
    go_wp2
    go_ret
    exact ⟨by simp [HN.out], 0, rfl⟩

/-! ### toIntS: a copy in new memory -/
def copyTo (zs : List Int) (k : Nat) : List Int := zs.take k ++ List.replicate (zs.length - k) 0
theorem copyTo_zero (zs : List Int) : copyTo zs 0 = List.replicate zs.length 0 := by simp [copyTo]
theorem copyTo_all (zs : List Int) : copyTo zs zs.length = zs := by simp [copyTo]
theorem copyTo_length (zs : List Int) {k : Nat} (h : k ≤ zs.length) : (copyTo zs k).length = zs.length := by simp [copyTo]; omega
theorem copyTo_set (zs : List Int) {k : Nat} (h : k < zs.length) : (copyTo zs k).set k zs[k] = copyTo zs (k + 1) := by
  apply List.ext_getElem
  · simp [copyTo]; omega
  · intro i h1 h2
    simp only [copyTo, List.getElem_set, List.getElem_append, List.length_take, List.getElem_take, List.getElem_replicate]
    have : i < zs.length := by simp [copyTo] at h2; omega
    by_cases e : k = i
    · subst e; simp; omega
    · by_cases e2 : i < k
      · simp [e]; rw [dif_pos (by omega), dif_pos (by omega)]
      · simp [e]; rw [dif_neg (by omega), dif_neg (by omega)]
def marks (k : Int) (n : Nat) : List Int := (List.range n).map fun i : Nat => k + (i : Int)
def markTo (zs : List Int) (k : Int) (i : Nat) : List Int := marks k i ++ zs.drop i
theorem marks_length (k : Int) (n : Nat) : (marks k n).length = n := by simp [marks]
theorem marks_at (k : Int) {n i : Nat} (h : i < n) : (marks k n)[i]? = some (k + (i : Int)) := by simp [marks, h]
theorem markTo_zero (zs : List Int) (k : Int) : markTo zs k 0 = zs := by simp [markTo, marks]
theorem markTo_all (zs : List Int) (k : Int) : markTo zs k zs.length = marks k zs.length := by simp [markTo]
theorem markTo_length (zs : List Int) (k : Int) {i : Nat} (h : i ≤ zs.length) : (markTo zs k i).length = zs.length := by simp [markTo, marks]; omega
theorem markTo_set (zs : List Int) (k : Int) {i : Nat} (h : i < zs.length) : (markTo zs k i).set i (k + (i : Int)) = markTo zs k (i + 1) := by
  apply List.ext_getElem
  · simp [markTo, marks]; omega
  · intro j h1 h2
    simp only [markTo, marks, List.getElem_set, List.getElem_append, List.length_map, List.length_range, List.getElem_map, List.getElem_range, List.getElem_drop]
    have hj : j < zs.length := by simp [markTo, marks] at h1; omega
    by_cases e : i = j
    · subst e; simp
    · by_cases e2 : j < i
      · simp only [if_neg e]; rw [dif_pos e2, dif_pos (by omega)]
      · simp only [if_neg e]
        rw [dif_neg e2, dif_neg (by omega)]
        congr 1
        omega

/-- WHAT markIntS LEAVES: it has written into the slice's own block alone. -/
def RetMark (t : TypeId) (lo hi : Nat) (sv : Value) (k : Int) (n : Nat) (w : World) (e : Ending) (w' : World) : Prop :=
  e = .returned (.int .i64 (k + (n : Int))) ∧ w.grownBy w' sv.ownBlock ∧ Ow t lo hi w' sv (marks k n)

set_option maxHeartbeats 400000 in
theorem markIntS_c (A : Option Addr) (c : Nat) (zs : List Int) (k : Int) (lo hi : Nat) (w : World) (hl : zs.length ≤ 2097152) (hk0 : 0 ≤ k) (hk1 : k ≤ 1099511627776) (ho : Ow 3 lo hi w (.slice A zs.length c) zs) :
    Calls Try.prog 47 #[.slice A zs.length c, .int .i64 k] w (RetMark 3 lo hi (.slice A zs.length c) k zs.length w) := by
  have Ho := Lib.hid ho
  have hlt2 := ho.2
  have Hlt2 := Lib.hid hlt2
  have hown := ho.1
  clear ho hlt2
  go_enter Try.func47, Try.ntmps47
  go_wp2
  go_loopw [1, 5] (fun q i wr => ∃ j : Nat, j ≤ zs.length ∧ i = .int .i64 j ∧ q = .int .i64 (k + (j : Int)) ∧ wr.ownsRow lo 3 1 (.slice A zs.length c) zs.length ((markTo zs k j).map (Value.int .i64)) ∧ w.grownBy wr (Value.slice A zs.length c).ownBlock) (fun _ i _ => zs.length - (intOf i).toNat)
  case atStart => exact ⟨0, Nat.zero_le _, rfl, by simp, by rw [markTo_zero]; exact hown, World.grownBy.refl w _⟩
  case round =>
    obtain ⟨j, hj, rfl, rfl, hok, hgk⟩ := hrel
    by_cases hlt : j < zs.length
    · obtain ⟨g, cap, hv⟩ : ∃ g cap, Value.slice A zs.length c = .slice (some ⟨g, 0, none⟩) zs.length cap := by
        rcases hown.2 with ⟨h1, h2⟩ | ⟨g, cap, cur, h1, _⟩
        · omega
        · exact ⟨g, cap, h1⟩
      have hA : A = some ⟨g, 0, none⟩ := by injection hv
      have Hown := Lib.hid hown
      clear hown hv
      subst hA
      have hst := hok.stored j (.int .i64 (k + (j : Int)))
      rw [← List.map_set, markTo_set zs k hlt] at hst
      have hck := hok.cellAt j (by omega)
      have hfk := hok.frozenAt j
      rw [List.getElem?_map, List.getElem?_eq_getElem (by rw [markTo_length zs k hj]; exact hlt)] at hck
      simp only [Option.map_some] at hck
      have Hst := Lib.hid hst
      have Hok := Lib.hid hok
      have Hgk := Lib.hid hgk
      clear hst hok hgk
      go_wp2
      go_roundw
      case rel => exact ⟨j + 1, by omega, by go_num, by simp; omega, Hst.out.1, grown_then Hgk.out Hst.out.2⟩
      case measure => simp [intOf]; omega
    · obtain rfl : j = zs.length := by omega
      rw [markTo_all] at hok
      go_wp2
      go_ret
      exact ⟨rfl, hgk, ⟨by rw [marks_length]; exact hok, Hlt2.out⟩⟩

theorem ow_marks {t : TypeId} {lo hi : Nat} {w : World} {A : Option Addr} {c n : Nat} {k : Int} (h : Ow t lo hi w (.slice A n c) (marks k n)) : Ow t lo hi w (.slice A (marks k n).length c) (marks k n) := by
  rw [marks_length]
  exact h

/-- the slice holds the marks: heldIntS says so -/
theorem heldIntS_c (A : Option Addr) (c n : Nat) (k : Int) (w : World) (hk0 : 0 ≤ k) (hk1 : k ≤ 1099511627776) (ha : Arg w A c (marks k n)) :
    Calls Try.prog 48 #[.slice A n c, .int .i64 k] w fun e w' => e = .returned (.int .i64 (k + (n : Int))) ∧ w = w' := by
  have hl : n ≤ 2097152 := by simpa [marks_length] using ha.len
  have hr := ha.rd
  have hr' : ∀ j, j < n → ∃ b off, A = some ⟨b, off, none⟩ ∧ 0 ≤ b ∧ b < w.heap.size ∧ w.cell? ⟨b, off + j, none⟩ = some (.int .i64 (k + (j : Int))) := fun j hj => by
    have := hr.at_ (k := j) (by rw [marks_length]; exact hj)
    rw [marks_at k hj] at this
    exact this
  clear hr
  have Hr := Lib.hid hr'
  clear hr'
  go_enter Try.func48, Try.ntmps48
  go_wp2
  go_loop [1, 5] (fun q i => ∃ j : Nat, j ≤ n ∧ i = .int .i64 j ∧ q = .int .i64 (k + (j : Int))) (fun _ i => n - (intOf i).toNat)
  case atStart => exact ⟨0, Nat.zero_le _, rfl, by simp⟩
  case round =>
    obtain ⟨j, hj, rfl, rfl⟩ := hrel
    by_cases hlt : j < n
    · obtain ⟨b, off, rfl, _, _, hc⟩ := Hr.out j hlt
      have hb : ((k + (j : Int)) != (k + (j : Int))) = false := by simp
      go_wp2
      go_round
      case rel => exact ⟨j + 1, by omega, by go_num, by simp; omega⟩
      case measure => simp [intOf]; omega
    · obtain rfl : j = n := by omega
      go_wp2
      go_ret
      exact ⟨rfl, rfl⟩

end Go.Proofs.Ytjboamhjfncgdaa
