/-
  LiftFirst and LiftRounds of the model.
-/
import Derived.Test.YtjboamhjfncgdaaRtFs
namespace Go.Proofs.Ytjboamhjfncgdaa
open Go.RowKit

def lenOf : Value → Nat
  | .slice _ n _ => n
  | _ => 0
theorem own_len {W : World} {base n : Nat} {e : TypeId} {v : Value} {xs : List Value} (h : W.ownsRow base e 1 v n xs) : lenOf v = n := by
  rcases h.2 with ⟨rfl, rfl⟩ | ⟨g, cap, cur, rfl, _⟩ <;> rfl
def ordN (R : List Rot) (m : Nat) : List Nat := (List.range m).map fun j => firstN R (ordF R j)
theorem ordN_ints (R : List Rot) (m : Nat) : ints (ordN R m) = ordF R m := (ordF_flat R m).symm
theorem ordN_succ (R : List Rot) (m : Nat) : ordN R (m + 1) = ordN R m ++ [firstN R (ordF R m)] := by unfold ordN; rw [List.range_succ, List.map_append]; rfl
theorem OnI.form {w w' : World} {v : Value} {l : List Nat} (h : OnI w w' v l) (hl : (ints l).length ≤ 2097152) : ∃ A c, v = .slice A (ints l).length c ∧ Arg w' A c (ints l) := by
  have ho : Ow 3 w.heap.size w'.heap.size w' v (ints l) := Ow.of_own h.1
  obtain ⟨A, c, rfl, h1, h2, h3⟩ := ho.form
  exact ⟨A, c, rfl, ho.arg hl (Nat.le_refl _)⟩
theorem OnI.retB {w w' : World} {v : Value} {l : List Nat} (f : Value → Value) (h : OnI w w' v l) (hl : (ints l).length ≤ 2097152) : RetS 3 f (ints l) w (.returned (f v)) w' := RetS.mk (f := f) hl h.1 h.2

set_option maxRecDepth 100000 in
set_option maxHeartbeats 4000000 in
theorem specLiftFirst_b (A : Option Addr) (c : Nat) (ss : List Rot) (w : World) (ha : ArgK w A c ss) :
    Calls Try.prog 28 #[.slice A ss.length c] w (RetS 3 (fun v => .tuple #[v, .bool (chartB ss)]) (firstV ss) w) := by
  obtain ⟨i0, hi, hz0, hz1, hz2⟩ := info_parts intInf
  have hl := ha.len
  have HA := Lib.hid ha
  clear ha
  have O0 := Lib.hid (OnI.start w w (Below.refl _ _))
  go_enter Try.func28, Try.ntmps28
  go_wp2_with fail
  refine (specChartValid_b _ _ _ _ (HA.out.go O0.out.2)).mono ?_
  rintro e w1 ⟨rfl, hb⟩
  have O1 := Lib.hid (O0.out.go hb)
  clear hb O0
  cases e1 : chartB ss
  · have Hv := Lib.hid (And.intro e1 (firstV_no e1))
    clear e1
    go_wp2
    go_ret2
    rw [Hv.out.1, Hv.out.2]
    exact O1.out.retB (fun v => .tuple #[v, .bool false]) (by simp [ints])
  have h8 := chart_len e1
  have Hch := Lib.hid e1
  have Hv := Lib.hid (And.intro e1 (firstV_yes e1))
  clear e1
  have O2 := Lib.hid (show OnI w w1 (.slice (some ⟨w.heap.size, 0, none⟩) 0 0) (ordN ss 0) from O1.out)
  clear O1
  go_wp2
  go_loopw [4] (fun o wr => ∃ (k : Nat) (v : Value), k ≤ ss.length ∧ v = o ∧ OnI w wr v (ordN ss k)) (fun o _ => ss.length - lenOf o)
  case atStart => exact ⟨0, _, Nat.zero_le _, rfl, O2.out⟩
  case round =>
    obtain ⟨k, v, hk, rfl, ho⟩ := hrel
    have hkl : (ints (ordN ss k)).length = k := by rw [ordN_ints, ordF_len]
    obtain ⟨B, d, rfl, hab⟩ := ho.form (by omega)
    rw [hkl] at ho ⊢
    have Ho := Lib.hid ho
    have HAb := Lib.hid (show Arg wr B d (ordF ss k) by rw [← ordN_ints]; exact hab)
    have Hkl := Lib.hid hkl
    clear ho hab hkl
    by_cases hlt : k < ss.length
    · have g1 : (k : Int) < (ss.length : Int) := by omega
      have hmem := freeN_mem.1 (firstN_mem (ordF_more ss hlt))
      have Hleast := Lib.hid (fun j (h : j < firstN ss (ordF ss k)) => firstN_least (R := ss) (L := ordF ss k) h)
      have Hsu := Lib.hid (ordN_succ ss k)
      have Hnx := Lib.hid (by rw [ordN_ints, ordF_len] : (ints (ordN ss (k + 1))).length = k + 1)
      obtain ⟨f, hf⟩ : ∃ f, firstN ss (ordF ss k) = f := ⟨_, rfl⟩
      rw [hf] at hmem Hleast Hsu
      have Hfree := Lib.hid hmem.2
      have hfl : f < ss.length := hmem.1
      have HFr := Lib.hid (fun W (j : Nat) (hj : j < ss.length) ha hb => l9Free_c A c ss B d (ordF ss k) j W Hch.out hj ha hb)
      rw [ordF_len] at HFr
      clear hf hmem
      go_wp2
      go_loopw [5] (fun i w2 => ∃ j : Nat, j ≤ f ∧ i = .int .i64 j ∧ Below wr.heap.size wr w2) (fun i _ => f - (intOf i).toNat)
      case atStart => exact ⟨0, Nat.zero_le _, rfl, Below.refl _ _⟩
      case round =>
        obtain ⟨j, hj, rfl, hb2⟩ := hrel
        have Hb2 := Lib.hid hb2
        clear hb2
        obtain ⟨wo, hwo⟩ : ∃ wo, wr = wo := ⟨_, rfl⟩
        subst hwo
        go_wp2_with fail
        refine (HFr.out _ j (by omega) (HA.out.go (below_step Ho.out.2 Hb2.out)) (HAb.out.go Hb2.out)).mono ?_
        rintro e w4 ⟨rfl, hb4⟩
        have Hb4 := Lib.hid (below_step Hb2.out hb4)
        clear hb4
        by_cases hjf : j < f
        · have hn := Hleast.out j hjf
          rw [hn]
          go_wp2
          go_roundw
          case rel => exact ⟨j + 1, by omega, by go_num, Hb4.out⟩
          case measure => simp [intOf]; omega
        · obtain rfl : j = f := by omega
          rw [Hfree.out]
          have Ho4 := Lib.hid (Ho.out.go Hb4.out)
          have hl4 : (ints (ordN ss k)).length ≤ 8 := by rw [Hkl.out]; omega
          have Hown := Lib.hid (show w4.ownsRow w.heap.size 3 1 (.slice B k d) (ints (ordN ss k)).length ((ints (ordN ss k)).map (Value.int .i64)) from Ho4.out.1)
          go_wp2_with (at_builtin; refine wpList_append_ints rfl (.tmp 23) (.tmp 25) 25 rfl w.heap.size 3 i0 (.int .i64 0) Try.underlying25 hi hz0 hz1 hz2 rfl (.slice B k d) (ints (ordN ss k)) rfl (Hown.out.alloc _) (some ⟨w4.heap.size, 0, none⟩) 1 [(j : Int)] rfl (arg_one w4 _ _) (by simp only [List.length_singleton]; omega) (by have := Ho4.out.2.size; simp; omega) ?_; intro v' w9 hown9 hg9; have H9 := Lib.hid (Ho4.out.snoc hown9 hg9); clear hown9 hg9)
          rw [← Hsu.out] at H9
          have hv9 := own_len H9.out.1
          rw [Hnx.out] at hv9
          go_roundw
          case rel => exact ⟨k + 1, v', by omega, rfl, H9.out⟩
          case measure => rw [hv9]; simp [lenOf]; omega
    · obtain rfl : k = ss.length := by omega
      go_wp2
      go_ret2
      rw [Hv.out.1, Hv.out.2, ← ordN_ints]
      exact Ho.out.retB (fun v => .tuple #[v, .bool true]) (by rw [Hkl.out]; omega)

end Go.Proofs.Ytjboamhjfncgdaa
