/-
  Contracts of the laws' own small functions over lists of ints: toIntS, eqIntS, sameInts, sumOf, markIntS, heldIntS.
-/
import Derived.Test.YtbnpglljloaclaaMade
import Derived.Test.YtbnpglljloaclaaMem
import Derived.Test.YtbnpglljloaclaaProg
namespace Go.Proofs.Ytbnpglljloaclaa
open Go.RowKit

set_option maxHeartbeats 400000 in
theorem eqIntS_c (A B : Option Addr) (c d : Nat) (xs ys : List Int) (w : World) (ha1 : Arg w A c xs) (ha2 : Arg w B d ys) :
    Calls Try.prog 37 #[.slice A xs.length c, .slice B ys.length d] w (RetQ (.bool (decide (xs = ys))) w) := by
  obtain ⟨hx, _, _, r1⟩ := ha1
  obtain ⟨hy, _, _, r2⟩ := ha2
  by_cases hl : xs.length = ys.length
  · have hl1 : ((xs.length : Int) != (ys.length : Int)) = false := by simp [hl]
    have HL := Lib.hid hl
    clear hl
    go_enter Try.func37, Try.ntmps37
    go_wp2
    go_loopw [5] (fun i wr => ∃ k n : Nat, k ≤ xs.length ∧ eqTo xs ys k ∧ i = .int .i64 k ∧ wr = w.drewN n) (fun i _ => xs.length - (intOf i).toNat)
    case atStart => exact ⟨0, 0, Nat.zero_le _, eqTo_zero _ _, rfl, rfl⟩
    case round =>
      obtain ⟨k, n, hk, ha, rfl, rfl⟩ := hrel
      have Ha := Lib.hid ha
      clear ha
      by_cases hlt : k < xs.length
      · have hlt2 : k < ys.length := by have := HL.out; omega
        obtain ⟨b, off, rfl, _, _, hc⟩ := r1.at_ hlt
        obtain ⟨b', off', rfl, _, _, hc'⟩ := r2.at_ hlt2
        have R1 := Lib.hid r1
        have R2 := Lib.hid r2
        clear r1 r2
        have e0 : xs[k]?.getD 0 = xs[k] := by simp [hlt]
        have e1 : ys[k]?.getD 0 = ys[k] := by simp [hlt2]
        rw [e0] at hc
        rw [e1] at hc'
        have E0 := Lib.hid e0
        have E1 := Lib.hid e1
        clear e0 e1
        have g1 : (k : Int) < (xs.length : Int) := by omega
        have g2 : (k : Int) < (ys.length : Int) := by omega
        by_cases hne : xs[k] = ys[k]
        · have hb : (xs[k] != ys[k]) = false := by simp [hne]
          have Hne := Lib.hid hne
          clear hne
          go_wp2
          go_quiet (fail)
          go_wp2
          go_roundw
          case rel => exact ⟨k + 1, _, by omega, eqTo_succ Ha.out (by rw [E0.out, E1.out]; exact Hne.out), by go_num, by first | exact World.drewN_drewN _ _ _ | rfl⟩
          case measure => simp [intOf]; omega
        · have hb : (xs[k] != ys[k]) = true := by simp [hne]
          have Hne := Lib.hid hne
          clear hne
          go_wp2
          go_quiet (fail)
          go_wp2
          go_ret
          refine ⟨?_, _, by first | exact World.drewN_drewN _ _ _ | rfl⟩
          have hn : xs ≠ ys := by
            intro e
            subst e
            exact Hne.out rfl
          simp [hn]
      · obtain rfl : k = xs.length := by omega
        go_wp2
        go_ret
        refine ⟨?_, n, rfl⟩
        have := eq_of_to HL.out Ha.out
        simp [this]
  · have hl1 : ((xs.length : Int) != (ys.length : Int)) = true := by simp; omega
    have hn : xs ≠ ys := fun e => hl (by rw [e])
    have HN := Lib.hid hn
    clear hl hn
    go_enter Try.func37, Try.ntmps37
    go_wp2
    go_ret
    exact ⟨by simp [HN.out], 0, rfl⟩

/-! ### toIntS: a copy in new memory -/
def copyTo (zs : List Int) (k : Nat) : List Int := zs.take k ++ List.replicate (zs.length - k) 0
theorem copyTo_zero (zs : List Int) : copyTo zs 0 = List.replicate zs.length 0 := by simp [copyTo]
theorem copyTo_all (zs : List Int) : copyTo zs zs.length = zs := by simp [copyTo]
theorem copyTo_length (zs : List Int) {k : Nat} (h : k ≤ zs.length) : (copyTo zs k).length = zs.length := by simp [copyTo]; omega
theorem copyTo_set (zs : List Int) {k : Nat} (h : k < zs.length) : (copyTo zs k).set k zs[k] = copyTo zs (k + 1) := by
  apply List.ext_getElem
  · simp [copyTo]; omega
  · intro i h1 h2
    simp only [copyTo, List.getElem_set, List.getElem_append, List.length_take, List.getElem_take, List.getElem_replicate]
    have : i < zs.length := by simp [copyTo] at h2; omega
    by_cases e : k = i
    · subst e; simp; omega
    · by_cases e2 : i < k
      · simp [e]; rw [dif_pos (by omega), dif_pos (by omega)]
      · simp [e]; rw [dif_neg (by omega), dif_neg (by omega)]
set_option maxHeartbeats 400000 in
theorem toIntS_c (A : Option Addr) (c : Nat) (zs : List Int) (w : World) (ha : Arg w A c zs) :
    Calls Try.prog 35 #[.slice A zs.length c] w (RetS 3 id zs w) := by
  obtain ⟨hl, _, _, hr⟩ := ha
  have hh : w.heap.size ≤ w.heap.size := Nat.le_refl _
  obtain ⟨i0, hi, hz0, hz1, hz2⟩ := info_parts int_info
  have hmi := made_ints zs.length
  have HMI := Lib.hid hmi
  clear hmi
  go_enter Try.func35, Try.ntmps35
  go_wp2_with (at_make; refine wpList_make_full _ rfl (.tmp 6) (.tmp 6) 24 rfl w.heap.size 3 i0 (.int .i64 0) 1 Try.underlying24 hi hz0 hz1 .i64 .i64 _ _ zs.length rfl rfl rfl rfl (by rw [hz2]; omega) (by unfold maxLen; omega) (Nat.le_refl _) ?_; intro w1 hown hg1)
  rw [HMI.out, ← copyTo_zero] at hown
  have hb1 : Below w.heap.size w w1 := (Below.refl _ _).grown hg1 (Nat.le_refl _) (by simp)
  obtain ⟨B, hB⟩ : ∃ B, B = w.heap.size := ⟨_, rfl⟩
  rw [← hB] at hown hb1 ⊢
  have hhB : w.heap.size ≤ B := by omega
  have HB := Lib.hid hB
  clear hB hg1
  go_loopw [4] (fun i wr => ∃ k : Nat, k ≤ zs.length ∧ i = .int .i64 k ∧ wr.ownsRow B 3 1 (.slice (some ⟨B, 0, none⟩) zs.length zs.length) zs.length ((copyTo zs k).map (Value.int .i64)) ∧ Below B w wr) (fun i _ => zs.length - (intOf i).toNat)
  case atStart => exact ⟨0, Nat.zero_le _, rfl, hown, hb1⟩
  case round =>
    obtain ⟨k, hk, rfl, hok, hbk⟩ := hrel
    by_cases hlt : k < zs.length
    · obtain ⟨b, off, rfl, _, hbh, hc⟩ := (hr.below (hbk.mono hhB)).at_ hlt
      have R1 := Lib.hid hr
      have Hown := Lib.hid hown
      have Hb1 := Lib.hid hb1
      clear hr hown hb1
      have e0 : zs[k]?.getD 0 = zs[k] := by simp [hlt]
      rw [e0] at hc
      have hst := hok.stored k (.int .i64 zs[k])
      rw [← List.map_set, copyTo_set zs hlt] at hst
      have hck := hok.cellAt k (by omega)
      have hfk := hok.frozenAt k
      rw [List.getElem?_map, List.getElem?_eq_getElem (by rw [copyTo_length zs hk]; exact hlt)] at hck
      simp only [Option.map_some] at hck
      have Hst := Lib.hid hst
      have Hok := Lib.hid hok
      clear hst hok e0
      go_wp2
      go_roundw
      case rel => exact ⟨k + 1, by omega, by go_num, Hst.out.1, hbk.setCell (p := ⟨B, k, none⟩) (Nat.le_refl _) _⟩
      case measure => simp [intOf]; omega
    · obtain rfl : k = zs.length := by omega
      rw [copyTo_all] at hok
      go_wp2
      go_ret
      exact RetS.mk (f := id) hl (by rw [← HB.out]; exact hok) (by rw [← HB.out]; exact hbk)

/-! ### markIntS writes k, k + 1, .. into a slice; heldIntS asks whether it holds them -/
def marks (k : Int) (n : Nat) : List Int := (List.range n).map fun i : Nat => k + (i : Int)
def markTo (zs : List Int) (k : Int) (i : Nat) : List Int := marks k i ++ zs.drop i
theorem marks_length (k : Int) (n : Nat) : (marks k n).length = n := by simp [marks]
theorem marks_at (k : Int) {n i : Nat} (h : i < n) : (marks k n)[i]? = some (k + (i : Int)) := by simp [marks, h]
theorem markTo_zero (zs : List Int) (k : Int) : markTo zs k 0 = zs := by simp [markTo, marks]
theorem markTo_all (zs : List Int) (k : Int) : markTo zs k zs.length = marks k zs.length := by simp [markTo]
theorem markTo_length (zs : List Int) (k : Int) {i : Nat} (h : i ≤ zs.length) : (markTo zs k i).length = zs.length := by simp [markTo, marks]; omega
theorem markTo_set (zs : List Int) (k : Int) {i : Nat} (h : i < zs.length) : (markTo zs k i).set i (k + (i : Int)) = markTo zs k (i + 1) := by
  apply List.ext_getElem
  · simp [markTo, marks]; omega
  · intro j h1 h2
    simp only [markTo, marks, List.getElem_set, List.getElem_append, List.length_map, List.length_range, List.getElem_map, List.getElem_range, List.getElem_drop]
    have hj : j < zs.length := by simp [markTo, marks] at h1; omega
    by_cases e : i = j
    · subst e; simp
    · by_cases e2 : j < i
      · simp only [if_neg e]; rw [dif_pos e2, dif_pos (by omega)]
      · simp only [if_neg e]
        rw [dif_neg e2, dif_neg (by omega)]
        congr 1
        omega

/-- WHAT markIntS LEAVES: it has written into the slice's own block alone. -/
def RetMark (t : TypeId) (lo hi : Nat) (sv : Value) (k : Int) (n : Nat) (w : World) (e : Ending) (w' : World) : Prop :=
  e = .returned (.int .i64 (k + (n : Int))) ∧ w.grownBy w' sv.ownBlock ∧ Ow t lo hi w' sv (marks k n)

set_option maxHeartbeats 400000 in
theorem markIntS_c (A : Option Addr) (c : Nat) (zs : List Int) (k : Int) (lo hi : Nat) (w : World) (hl : zs.length ≤ 2097152) (hk0 : 0 ≤ k) (hk1 : k ≤ 1099511627776) (ho : Ow 3 lo hi w (.slice A zs.length c) zs) :
    Calls Try.prog 43 #[.slice A zs.length c, .int .i64 k] w (RetMark 3 lo hi (.slice A zs.length c) k zs.length w) := by
  have Ho := Lib.hid ho
  have hlt2 := ho.2
  have Hlt2 := Lib.hid hlt2
  have hown := ho.1
  clear ho hlt2
  go_enter Try.func43, Try.ntmps43
  go_wp2
  go_loopw [1, 5] (fun q i wr => ∃ j : Nat, j ≤ zs.length ∧ i = .int .i64 j ∧ q = .int .i64 (k + (j : Int)) ∧ wr.ownsRow lo 3 1 (.slice A zs.length c) zs.length ((markTo zs k j).map (Value.int .i64)) ∧ w.grownBy wr (Value.slice A zs.length c).ownBlock) (fun _ i _ => zs.length - (intOf i).toNat)
  case atStart => exact ⟨0, Nat.zero_le _, rfl, by simp, by rw [markTo_zero]; exact hown, World.grownBy.refl w _⟩
  case round =>
    obtain ⟨j, hj, rfl, rfl, hok, hgk⟩ := hrel
    by_cases hlt : j < zs.length
    · obtain ⟨g, cap, hv⟩ : ∃ g cap, Value.slice A zs.length c = .slice (some ⟨g, 0, none⟩) zs.length cap := by
        rcases hown.2 with ⟨h1, h2⟩ | ⟨g, cap, cur, h1, _⟩
        · omega
        · exact ⟨g, cap, h1⟩
      have hA : A = some ⟨g, 0, none⟩ := by injection hv
      have Hown := Lib.hid hown
      clear hown hv
      subst hA
      have hst := hok.stored j (.int .i64 (k + (j : Int)))
      rw [← List.map_set, markTo_set zs k hlt] at hst
      have hck := hok.cellAt j (by omega)
      have hfk := hok.frozenAt j
      rw [List.getElem?_map, List.getElem?_eq_getElem (by rw [markTo_length zs k hj]; exact hlt)] at hck
      simp only [Option.map_some] at hck
      have Hst := Lib.hid hst
      have Hok := Lib.hid hok
      have Hgk := Lib.hid hgk
      clear hst hok hgk
      go_wp2
      go_roundw
      case rel => exact ⟨j + 1, by omega, by go_num, by simp; omega, Hst.out.1, grown_then Hgk.out Hst.out.2⟩
      case measure => simp [intOf]; omega
    · obtain rfl : j = zs.length := by omega
      rw [markTo_all] at hok
      go_wp2
      go_ret
      exact ⟨rfl, hgk, ⟨by rw [marks_length]; exact hok, Hlt2.out⟩⟩

theorem ow_marks {t : TypeId} {lo hi : Nat} {w : World} {A : Option Addr} {c n : Nat} {k : Int} (h : Ow t lo hi w (.slice A n c) (marks k n)) : Ow t lo hi w (.slice A (marks k n).length c) (marks k n) := by
  rw [marks_length]
  exact h

/-- the slice holds the marks: heldIntS says so -/
theorem heldIntS_c (A : Option Addr) (c n : Nat) (k : Int) (w : World) (hk0 : 0 ≤ k) (hk1 : k ≤ 1099511627776) (ha : Arg w A c (marks k n)) :
    Calls Try.prog 44 #[.slice A n c, .int .i64 k] w fun e w' => e = .returned (.int .i64 (k + (n : Int))) ∧ w = w' := by
  have hl : n ≤ 2097152 := by simpa [marks_length] using ha.len
  have hr := ha.rd
  have hr' : ∀ j, j < n → ∃ b off, A = some ⟨b, off, none⟩ ∧ 0 ≤ b ∧ b < w.heap.size ∧ w.cell? ⟨b, off + j, none⟩ = some (.int .i64 (k + (j : Int))) := fun j hj => by
    have := hr.at_ (k := j) (by rw [marks_length]; exact hj)
    rw [marks_at k hj] at this
    exact this
  clear hr
  have Hr := Lib.hid hr'
  clear hr'
  go_enter Try.func44, Try.ntmps44
  go_wp2
  go_loop [1, 5] (fun q i => ∃ j : Nat, j ≤ n ∧ i = .int .i64 j ∧ q = .int .i64 (k + (j : Int))) (fun _ i => n - (intOf i).toNat)
  case atStart => exact ⟨0, Nat.zero_le _, rfl, by simp⟩
  case round =>
    obtain ⟨j, hj, rfl, rfl⟩ := hrel
    by_cases hlt : j < n
    · obtain ⟨b, off, rfl, _, _, hc⟩ := Hr.out j hlt
      have hb : ((k + (j : Int)) != (k + (j : Int))) = false := by simp
      go_wp2
      go_round
      case rel => exact ⟨j + 1, by omega, by go_num, by simp; omega⟩
      case measure => simp [intOf]; omega
    · obtain rfl : j = n := by omega
      go_wp2
      go_ret
      exact ⟨rfl, rfl⟩

end Go.Proofs.Ytbnpglljloaclaa
