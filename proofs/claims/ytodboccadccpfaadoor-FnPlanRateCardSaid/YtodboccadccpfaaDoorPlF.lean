/-
  A plan in its own block. / firstPlan of the program.
-/
import Derived.Test.YtodboccadccpfaaDoorKeep
import Derived.Test.YtodboccadccpfaaDoorProg
import Derived.RegionTactic
import Derived.BigQuiet
import Derived.Deep.QuietTactic
import Derived.Test.YtodboccadccpfaaDoorPlnB
import Derived.Test.YtodboccadccpfaaDoorMade
namespace Go.Proofs.YtodboccadccpfaaDoor
open Go.RowKit

/-- A PLAN IN ITS OWN BLOCK -/
def PlAt (W : World) (b : Nat) (p : List Int) : Prop := W.heap[b]? = some (.cells (p.map (Value.int .i64)).toArray 3 (0, 0))
section
variable {W W' : World} {b : Nat} {p : List Int}
theorem PlAt.lt (h : PlAt W b p) : b < W.heap.size := (Array.getElem?_eq_some_iff.1 h).1
theorem PlAt.cell (h : PlAt W b p) {k : Nat} (hk : k < p.length) : W.cell? ⟨b, k, none⟩ = some (.int .i64 (p[k]?.getD 0)) := by
  have := cell_of_row W b k _ _ _ h
  rw [this]
  simp [hk]
theorem PlAt.frozen (h : PlAt W b p) (o : Nat) : W.frozen? ⟨b, o, none⟩ = false := by simp [World.frozen?, show W.heap[b]? = _ from h]
theorem PlAt.set (h : PlAt W b p) (k : Nat) (x : Int) : PlAt (W.setCell ⟨b, k, none⟩ (.int .i64 x)) b (p.set k x) := by
  obtain ⟨hlt, hk⟩ := Array.getElem?_eq_some_iff.1 h
  show (W.heap.modify b _)[b]? = _
  rw [Array.getElem?_eq_getElem (by rw [Array.size_modify]; exact hlt), Array.getElem_modify_self, hk]
  simp only [Option.some.injEq, List.map_set]
  congr 1
  simp
theorem PlAt.keep {P : Nat → Prop} (h : PlAt W b p) (hk : KeepBut P W W') (hp : ¬ P b) : PlAt W' b p := (hk.block b h.lt hp).trans h
theorem PlAt.drewN (h : PlAt W b p) (n : Nat) : PlAt (W.drewN n) b p := h
theorem PlAt.go (h : PlAt W b p) (hb : Below W.heap.size W W') : PlAt W' b p := (hb.block b h.lt).trans h
theorem PlAt.rd (h : PlAt W b p) : Rd 0 W.heap.size W (some ⟨b, 0, none⟩) p := fun _ => ⟨b, 0, rfl, Nat.zero_le _, h.lt, fun j hj => by rw [Nat.zero_add]; exact h.cell hj⟩
theorem PlAt.arg (h : PlAt W b p) (hl : p.length ≤ 2097152) : Arg W (some ⟨b, 0, none⟩) p.length p := ⟨hl, Nat.le_refl _, by unfold maxLen; omega, h.rd⟩
theorem PlAt.of_own {lo n : Nat} (h : W.ownsRow lo 3 1 (.slice (some ⟨b, 0, none⟩) n n) n (p.map (Value.int .i64))) : PlAt W b p ∧ lo ≤ b := by
  rcases h.2 with ⟨h3, _⟩ | ⟨g, cap, cur, e, hg, hgg, hc, hm, hs, ht⟩
  · cases h3
  · injection e with e1 e2 e3
    injection e1 with e1
    injection e1 with e1
    subst e1; subst e3
    refine ⟨?_, hg⟩
    unfold PlAt
    rw [hgg]
    congr 1
    congr 1
    apply Array.toList_inj.1
    rw [← ht, List.take_of_length_le (by simp; omega)]
end
theorem keep_set (W : World) (b o : Nat) (v : Value) : KeepBut (fun x => x = b) W (W.setCell ⟨b, o, none⟩ v) :=
  ⟨rfl, rfl, rfl, by show W.heap.size ≤ (W.heap.modify b _).size; simp, fun k _ hk => Below.heap_setCell _ _ _ k (fun e => hk (by rw [e]))⟩
theorem KeepBut.drewN {P : Nat → Prop} {a w : World} (h : KeepBut P a w) (n : Nat) : KeepBut P a (w.drewN n) := ⟨h.os, h.tape, h.output, h.size, h.block⟩

theorem set_app (u z : List Int) (i : Nat) (x : Int) : (u ++ z).set (u.length + i) x = u ++ z.set i x := by
  rw [List.set_append_right _ _ (by omega), show u.length + i - u.length = i by omega]
end Go.Proofs.YtodboccadccpfaaDoor

namespace Go.Proofs.YtodboccadccpfaaDoor
open Go.RowKit

theorem fpInfo : (Tryd.prog.info? 3).map (fun i => (i.zero, i.size, i.bytes)) = some (some (.int .i64 0), 1, 8) := by kernel_rfl
def cntTo (n k : Nat) : List Int := firstP k ++ List.replicate (n - k) 0
theorem firstP_len (n : Nat) : (firstP n).length = n := by simp [firstP]
theorem cntTo_len {n k : Nat} (h : k ≤ n) : (cntTo n k).length = n := by simp [cntTo, firstP_len]; omega
theorem cntTo_zero (n : Nat) : cntTo n 0 = List.replicate n 0 := by simp [cntTo, firstP]
theorem cntTo_all (n : Nat) : cntTo n n = firstP n := by simp [cntTo]
theorem cntTo_succ {n k : Nat} (h : k < n) : cntTo n (k + 1) = (cntTo n k).set k (k : Int) := by
  unfold cntTo
  have h1 : firstP (k + 1) = firstP k ++ [(k : Int)] := by simp [firstP, List.range_succ]
  rw [h1, List.set_append_right _ _ (by rw [firstP_len]; omega), firstP_len, Nat.sub_self, show n - k = (n - (k + 1)) + 1 by omega, List.replicate_succ, List.set_cons_zero, List.append_assoc]
  rfl
set_option maxRecDepth 100000 in
set_option maxHeartbeats 2000000 in
theorem firstPlan_c (n : Nat) (hn : n ≤ 6) (w : World) :
    Calls Tryd.prog 41 #[.int .i64 n] w fun e w' => ∃ b : Nat, e = .returned (.slice (some ⟨b, 0, none⟩) n n) ∧ w.heap.size ≤ b ∧ PlAt w' b (firstP n) ∧ Below w.heap.size w w' := by
  obtain ⟨i0, hi, hz0, hz1, hz2⟩ := info_parts fpInfo
  have HMI := Lib.hid (made_ints n)
  go_enter Tryd.func41, Tryd.ntmps41
  go_wp2_with (at_make; refine wpList_make_full _ rfl (.tmp 5) (.tmp 5) 24 rfl w.heap.size 3 i0 (.int .i64 0) 1 Tryd.underlying24 hi hz0 hz1 .i64 .i64 _ _ n rfl rfl rfl rfl (by rw [hz2]; omega) (by unfold maxLen; omega) (Nat.le_refl _) ?_; intro w1 hown hg1)
  rw [HMI.out, ← cntTo_zero] at hown
  have hb1 : Below w.heap.size w w1 := (Below.refl _ _).grown hg1 (Nat.le_refl _) (by simp)
  obtain ⟨B, hB⟩ : ∃ B, B = w.heap.size := ⟨_, rfl⟩
  rw [← hB] at hown hb1 ⊢
  have hhB : w.heap.size ≤ B := by omega
  have HB := Lib.hid hB
  have HO := Lib.hid hown
  have Hb1 := Lib.hid hb1
  clear hB hg1 hown hb1
  go_wp2
  go_loopw [9] (fun i wr => ∃ k : Nat, k ≤ n ∧ i = .int .i64 k ∧ wr.ownsRow B 3 1 (.slice (some ⟨B, 0, none⟩) n n) n ((cntTo n k).map (Value.int .i64)) ∧ Below B w wr) (fun i _ => n - (intOf i).toNat)
  case atStart => exact ⟨0, Nat.zero_le _, rfl, HO.out, Hb1.out⟩
  case round =>
    obtain ⟨k, hk, rfl, hok, hbk⟩ := hrel
    by_cases hlt : k < n
    · have hst := hok.stored k (.int .i64 k)
      rw [← List.map_set, ← cntTo_succ hlt] at hst
      have hck := hok.cellAt k (by omega)
      have hfk := hok.frozenAt k
      obtain ⟨u, hu⟩ : ∃ u, (cntTo n k)[k]? = some u := ⟨(cntTo n k)[k]'(by rw [cntTo_len hk]; exact hlt), List.getElem?_eq_getElem _⟩
      rw [List.getElem?_map, hu] at hck
      simp only [Option.map_some] at hck
      have Hst := Lib.hid hst
      have Hbk := Lib.hid hbk
      have g1 : (k : Int) < (n : Int) := by omega
      clear hst hok hu hbk
      go_wp2
      go_roundw
      case rel => exact ⟨k + 1, by omega, by go_num, Hst.out.1, Hbk.out.setCell (p := ⟨B, k, none⟩) (Nat.le_refl _) _⟩
      case measure => simp [intOf]; omega
    · obtain rfl : k = n := by omega
      rw [cntTo_all] at hok
      have HK := Lib.hid hok
      have Hbk := Lib.hid hbk
      clear hok hbk
      go_wp2
      go_ret
      have h9 := PlAt.of_own HK.out
      exact ⟨B, rfl, hhB, h9.1, by rw [← HB.out]; exact Hbk.out⟩
end Go.Proofs.YtodboccadccpfaaDoor
