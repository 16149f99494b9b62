/-
  firstPlan and nextPlan of the program.
-/
import Derived.Test.YtbcgglkgdjafiaaDoorPlX
import Derived.Test.YtbcgglkgdjafiaaDoorPlnB
import Derived.Test.YtbcgglkgdjafiaaDoorMade
import Derived.Deep.LoopGhost
import Derived.RangeFuncBox
import Derived.Shelf.Abstract
namespace Go.Proofs.YtbcgglkgdjafiaaDoor
open Go.RowKit

/-! ### the plan that follows, place by place -/
theorem plcP_zero (p : List Int) : plcP p 0 = none := rfl
theorem plcP_yes {p : List Int} {k : Nat} (h : p[k]?.getD 0 < p[k + 1]?.getD 0) : plcP p (k + 1) = some k := by rw [plcP, if_pos h]
theorem plcP_no {p : List Int} {k : Nat} (h : ¬ p[k]?.getD 0 < p[k + 1]?.getD 0) : plcP p (k + 1) = plcP p k := by rw [plcP, if_neg h]
theorem plcP_some {p : List Int} : ∀ {m a : Nat}, plcP p m = some a → a < m ∧ p[a]?.getD 0 < p[a + 1]?.getD 0
  | 0, a, h => by cases h
  | m + 1, a, h => by
    rw [plcP] at h
    split at h
    · injection h with h; subst h; exact ⟨by omega, by assumption⟩
    · have := plcP_some h; exact ⟨by omega, this.2⟩
theorem gtP_lt {x : Int} : ∀ {z : List Int}, (∃ y ∈ z, x < y) → gtP x z < z.length
  | [], h => by obtain ⟨y, hy, _⟩ := h; simp at hy
  | y :: t, h => by
    rw [gtP]
    split
    · simp
    · rename_i hxy
      obtain ⟨u, hu, hxu⟩ := h
      rcases List.mem_cons.1 hu with rfl | hu
      · exact absurd hxu hxy
      · have := gtP_lt ⟨u, hu, hxu⟩; simp; omega
theorem gtP_before {x : Int} : ∀ {z : List Int} {k : Nat}, k < gtP x z → ¬ x < z[k]?.getD 0
  | [], k, h => by simp [gtP] at h
  | y :: t, k, h => by
    rw [gtP] at h
    split at h
    · omega
    · rename_i hxy
      cases k with
      | zero => simpa using hxy
      | succ j =>
        rw [List.getElem?_cons_succ]
        exact gtP_before (by omega)
theorem gtP_at {x : Int} : ∀ {z : List Int}, gtP x z < z.length → x < z[gtP x z]?.getD 0
  | [], h => by simp at h
  | y :: t, h => by
    rw [gtP] at h ⊢
    split
    · rename_i hxy; simpa using hxy
    · rename_i hxy
      rw [if_neg hxy] at h
      rw [List.getElem?_cons_succ]
      exact gtP_at (by simpa using h)
theorem pl_split {p : List Int} {a : Nat} (h : a < p.length) : p = p.take a ++ p[a]?.getD 0 :: p.drop (a + 1) := by
  rw [getD_at h, List.getElem_cons_drop, List.take_append_drop]

theorem less_c (x y : Int) (b1 b2 b : Nat) (q : List Int) (n c a : Nat) (W : World) (h1 : Boxed W b1 31 (.slice (some ⟨b, 0, none⟩) n c)) (h2 : Boxed W b2 3 (.int .i64 a)) (hp : PlAt W b q) (hn : q.length = n) (ha : a < q.length) (hx : q[a]?.getD 0 = x) :
    Calls Tryd.prog 94 #[.int .i64 y, .pointer (some ⟨b1, 0, none⟩), .pointer (some ⟨b2, 0, none⟩)] W fun e w' => e = .returned (.bool (decide (x < y))) ∧ W = w' := by
  have c1 := h1.cell
  have c2 := h2.cell
  have c3 := hp.cell ha
  rw [hx] at c3
  have g1 : (a : Int) < (n : Int) := by omega
  clear h1 h2 hp hx hn
  go_enter Tryd.func94, Tryd.ntmps94
  go_wp2
  go_ret
  exact ⟨rfl, rfl⟩

set_option maxHeartbeats 2000000 in
theorem indexFunc_c (x : Int) (b1 b2 b : Nat) (u z : List Int) (n c a cap : Nat) (W : World) (h1 : Boxed W b1 31 (.slice (some ⟨b, 0, none⟩) n c)) (h2 : Boxed W b2 3 (.int .i64 a)) (hp : PlAt W b (u ++ z)) (hn : (u ++ z).length = n) (ha : a < u.length) (hx : u[a]?.getD 0 = x)
    (hz : z.length ≤ 100) (hg : gtP x z < z.length) :
    Calls Tryd.prog 93 #[.slice (some ⟨b, u.length, none⟩) z.length cap, .func (.func 94) #[] #[.pointer (some ⟨b1, 0, none⟩), .pointer (some ⟨b2, 0, none⟩)]] W fun e w' => e = .returned (.int .i64 (gtP x z)) ∧ W = w' := by
  have he : ∀ (args : Array Value) (w : World), (callFunc 94 args).run Tryd.prog w = .ok (.enter 94 args) w := fun args w => enters_of Tryd.func94 (by kernel_rfl) rfl args w
  have hl : (u ++ z).length = u.length + z.length := List.length_append
  have Hless := Lib.hid (fun (y : Int) => less_c x y b1 b2 b (u ++ z) n c a W h1 h2 hp hn (by omega) (by rw [List.getElem?_append_left ha]; exact hx))
  have Hp := Lib.hid hp
  have Hb := Lib.hid (fun (k : Nat) => gtP_before (x := x) (z := z) (k := k))
  have Ha := Lib.hid (gtP_at hg)
  obtain ⟨g, hgg⟩ : ∃ g, gtP x z = g := ⟨_, rfl⟩
  rw [hgg] at hg Hb Ha ⊢
  have Hl := Lib.hid hl
  clear h1 h2 hp hn hx hgg hl
  go_enter Tryd.func93, Tryd.ntmps93
  go_wp2
  go_loop [8] (fun i => ∃ k : Nat, k ≤ g ∧ i = .int .i64 k) (fun i => g - (intOf i).toNat)
  case atStart => exact ⟨0, Nat.zero_le _, rfl⟩
  case round =>
    obtain ⟨k, hk, rfl⟩ := hrel
    have hc := Hp.out.cell (k := u.length + k) (by rw [Hl.out]; omega)
    rw [List.getElem?_append_right (by omega), show u.length + k - u.length = k by omega] at hc
    have hbk := Hb.out k
    have hak := fun (e : k = g) => (show x < z[k]?.getD 0 by rw [e]; exact Ha.out)
    obtain ⟨y, hy⟩ : ∃ y, z[k]?.getD 0 = y := ⟨_, rfl⟩
    rw [hy] at hc hbk hak
    have g1 : (k : Int) < (z.length : Int) := by omega
    clear hy
    by_cases hlt : k < g
    · have Hd := Lib.hid (show decide (x < y) = false from decide_eq_false (by have := hbk hlt; omega))
      clear hbk hak
      go_wp2_with fail
      refine (Hless.out y).mono ?_
      rintro e w1 ⟨rfl, rfl⟩
      rw [Hd.out]
      go_wp2
      go_round
      case rel => exact ⟨k + 1, by omega, by go_num⟩
      case measure => simp [intOf]; omega
    · obtain rfl : k = g := by omega
      have Hd := Lib.hid (show decide (x < y) = true from decide_eq_true (hak rfl))
      clear hbk hak
      go_wp2_with fail
      refine (Hless.out y).mono ?_
      rintro e w1 ⟨rfl, rfl⟩
      rw [Hd.out]
      go_wp2
      go_ret
      exact ⟨rfl, rfl⟩

theorem fpInfo : (Tryd.prog.info? 3).map (fun i => (i.zero, i.size, i.bytes)) = some (some (.int .i64 0), 1, 8) := by kernel_rfl
def cntTo (n k : Nat) : List Int := firstP k ++ List.replicate (n - k) 0
theorem firstP_len (n : Nat) : (firstP n).length = n := by simp [firstP]
theorem cntTo_len {n k : Nat} (h : k ≤ n) : (cntTo n k).length = n := by simp [cntTo, firstP_len]; omega
theorem cntTo_zero (n : Nat) : cntTo n 0 = List.replicate n 0 := by simp [cntTo, firstP]
theorem cntTo_all (n : Nat) : cntTo n n = firstP n := by simp [cntTo]
theorem cntTo_succ {n k : Nat} (h : k < n) : cntTo n (k + 1) = (cntTo n k).set k (k : Int) := by
  unfold cntTo
  have h1 : firstP (k + 1) = firstP k ++ [(k : Int)] := by simp [firstP, List.range_succ]
  rw [h1, List.set_append_right _ _ (by rw [firstP_len]; omega), firstP_len, Nat.sub_self, show n - k = (n - (k + 1)) + 1 by omega, List.replicate_succ, List.set_cons_zero, List.append_assoc]
  rfl
set_option maxHeartbeats 2000000 in
theorem firstPlan_c (n : Nat) (hn : n ≤ 6) (w : World) :
    Calls Tryd.prog 68 #[.int .i64 n] w fun e w' => ∃ b : Nat, e = .returned (.slice (some ⟨b, 0, none⟩) n n) ∧ w.heap.size ≤ b ∧ PlAt w' b (firstP n) ∧ Below w.heap.size w w' := by
  obtain ⟨i0, hi, hz0, hz1, hz2⟩ := info_parts fpInfo
  have HMI := Lib.hid (made_ints n)
  go_enter Tryd.func68, Tryd.ntmps68
  go_wp2_with (at_make; refine wpList_make_full _ rfl (.tmp 5) (.tmp 5) 31 rfl w.heap.size 3 i0 (.int .i64 0) 1 Tryd.underlying31 hi hz0 hz1 .i64 .i64 _ _ n rfl rfl rfl rfl (by rw [hz2]; omega) (by unfold maxLen; omega) (Nat.le_refl _) ?_; intro w1 hown hg1)
  rw [HMI.out, ← cntTo_zero] at hown
  have hb1 : Below w.heap.size w w1 := (Below.refl _ _).grown hg1 (Nat.le_refl _) (by simp)
  obtain ⟨B, hB⟩ : ∃ B, B = w.heap.size := ⟨_, rfl⟩
  rw [← hB] at hown hb1 ⊢
  have hhB : w.heap.size ≤ B := by omega
  have HB := Lib.hid hB
  have HO := Lib.hid hown
  have Hb1 := Lib.hid hb1
  clear hB hg1 hown hb1
  go_wp2
  go_loopw [9] (fun i wr => ∃ k : Nat, k ≤ n ∧ i = .int .i64 k ∧ wr.ownsRow B 3 1 (.slice (some ⟨B, 0, none⟩) n n) n ((cntTo n k).map (Value.int .i64)) ∧ Below B w wr) (fun i _ => n - (intOf i).toNat)
  case atStart => exact ⟨0, Nat.zero_le _, rfl, HO.out, Hb1.out⟩
  case round =>
    obtain ⟨k, hk, rfl, hok, hbk⟩ := hrel
    by_cases hlt : k < n
    · have hst := hok.stored k (.int .i64 k)
      rw [← List.map_set, ← cntTo_succ hlt] at hst
      have hck := hok.cellAt k (by omega)
      have hfk := hok.frozenAt k
      obtain ⟨u, hu⟩ : ∃ u, (cntTo n k)[k]? = some u := ⟨(cntTo n k)[k]'(by rw [cntTo_len hk]; exact hlt), List.getElem?_eq_getElem _⟩
      rw [List.getElem?_map, hu] at hck
      simp only [Option.map_some] at hck
      have Hst := Lib.hid hst
      have Hbk := Lib.hid hbk
      have g1 : (k : Int) < (n : Int) := by omega
      clear hst hok hu hbk
      go_wp2
      go_roundw
      case rel => exact ⟨k + 1, by omega, by go_num, Hst.out.1, Hbk.out.setCell (p := ⟨B, k, none⟩) (Nat.le_refl _) _⟩
      case measure => simp [intOf]; omega
    · obtain rfl : k = n := by omega
      rw [cntTo_all] at hok
      have HK := Lib.hid hok
      have Hbk := Lib.hid hbk
      clear hok hbk
      go_wp2
      go_ret
      have h9 := PlAt.of_own HK.out
      exact ⟨B, rfl, hhB, h9.1, by rw [← HB.out]; exact Hbk.out⟩

end Go.Proofs.YtbcgglkgdjafiaaDoor
