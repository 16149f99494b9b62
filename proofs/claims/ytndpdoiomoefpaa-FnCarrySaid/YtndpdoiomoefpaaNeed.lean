/-
  What a mile needs: l1Need of the model; FloorNeeds of the model.
-/
import Derived.Test.YtndpdoiomoefpaaFloor1
import Derived.Test.YtndpdoiomoefpaaBase0
namespace Go.Proofs.Ytndpdoiomoefpaa
open Go.RowKit

/-- what the mile i needs -/
def needAt (zs : List Int) (i : Nat) : Int := 10 + max (zs[i + 1]?.getD 0 - zs[i]?.getD 0) (0 - (zs[i + 1]?.getD 0 - zs[i]?.getD 0))
theorem needAt_bd {zs : List Int} (hv : validB zs = true) {i : Nat} (hi : i + 1 < zs.length) : 10 ≤ needAt zs i ∧ needAt zs i ≤ 50 := by
  obtain ⟨_, _, h⟩ := validB_true hv
  have h1 := h i (by omega)
  have h2 := h (i + 1) hi
  unfold needAt
  omega

theorem ret_int {k : IntKind} {a b : Int} (h : a = b) : Ending.returned (.int k a) = .returned (.int k b) := by rw [h]
set_option maxRecDepth 100000 in
set_option maxHeartbeats 400000 in
theorem l1Need_c (A : Option Addr) (c : Nat) (zs : List Int) (i : Int) (w : World) (ha : Arg w A c zs) (hv : validB zs = true) (h0 : 0 ≤ i) (h1 : i + 1 < zs.length) :
    Calls Try.prog 90 #[.slice A zs.length c, .int .i64 i] w (RetQ (.int .i64 (needAt zs i.toNat)) w) := by
  obtain ⟨k, rfl⟩ := Int.eq_ofNat_of_zero_le h0
  rw [Int.toNat_natCast]
  have hk : k + 1 < zs.length := by omega
  obtain ⟨_, _, hb⟩ := validB_true hv
  have b0 := hb k (by omega)
  have b1 := hb (k + 1) hk
  obtain ⟨b, off, rfl, _, _, hc⟩ := ha.rd.at_ (k := k) (by omega)
  obtain ⟨b', off', e, _, _, hc'⟩ := ha.rd.at_ hk
  injection e with e
  injection e with e1 e2 e3
  subst e1; subst e2
  have Ha := Lib.hid ha
  have Hb := Lib.hid hb
  have Hv := Lib.hid hv
  clear ha hb hv e3
  unfold needAt
  obtain ⟨x, hx⟩ : ∃ x, zs[k]?.getD 0 = x := ⟨_, rfl⟩
  obtain ⟨y, hy⟩ : ∃ y, zs[k + 1]?.getD 0 = y := ⟨_, rfl⟩
  rw [hx] at b0 hc ⊢
  rw [hy] at b1 hc' ⊢
  have Hx := Lib.hid hx
  have Hy := Lib.hid hy
  clear hx hy
  have g1 : ((k : Int) + 1) < (zs.length : Int) := by omega
  have g2 : (k : Int) < (zs.length : Int) := by omega
  go_enter Try.func90, Try.ntmps90
  go_wp2
  go_quiet (fail)
  go_wp2
  all_goals
    go_ret
    exact ⟨ret_int (by omega), _, rfl⟩

/-! ### what all miles need -/
def needsTo (zs : List Int) (k : Nat) : List Int := (List.range k).map (needAt zs)
def needsL (zs : List Int) : List Int := needsTo zs (zs.length - 1)
/-- what FloorNeeds hands back -/
def floorNeedsL (zs : List Int) : List Int := if validB zs then needsL zs else []
theorem needsTo_zero (zs : List Int) : needsTo zs 0 = [] := by simp [needsTo]
theorem needsTo_succ (zs : List Int) (k : Nat) : needsTo zs (k + 1) = needsTo zs k ++ [needAt zs k] := by simp [needsTo, List.range_succ]
theorem needsTo_length (zs : List Int) (k : Nat) : (needsTo zs k).length = k := by simp [needsTo]
theorem needsL_length (zs : List Int) : (needsL zs).length = zs.length - 1 := needsTo_length _ _

theorem one_new (w : World) (t : TypeId) (x : Value) : ∀ j u, [x][j]? = some u → (w.alloc (.cells #[x] t)).cell? ((⟨w.heap.size, 0, none⟩ : Addr).add j) = some u := by
  intro j u hu
  cases j with
  | zero =>
    simp at hu
    subst hu
    have h : (w.alloc (.cells #[x] t)).heap[w.heap.size]? = some (.cells #[x] t) := heap_alloc_new w _
    rw [show (⟨w.heap.size, 0, none⟩ : Addr).add 0 = ⟨w.heap.size, 0, none⟩ from rfl]
    exact cell_of_row _ _ 0 #[x] t (0, 0) h
  | succ j => simp at hu

set_option maxRecDepth 100000 in
set_option maxHeartbeats 1000000 in
theorem specFloorNeeds_b (A : Option Addr) (c : Nat) (zs : List Int) (w : World) (ha : Arg w A c zs) :
    Calls Try.prog 112 #[.slice A zs.length c] w (RetS 3 (fun v => .tuple #[v, .bool (validB zs)]) (floorNeedsL zs) w) := by
  obtain ⟨i0, hi, hz0, hz1, hz2⟩ := info_parts int_info
  obtain ⟨N, hN⟩ : ∃ N, N = if validB zs then zs.length - 1 else 0 := ⟨_, rfl⟩
  have hl := ha.len
  have HA := Lib.hid ha
  have HN := Lib.hid hN
  have hNl : N ≤ zs.length := by rw [hN]; split <;> omega
  clear ha hN
  go_enter Try.func112, Try.ntmps112
  go_wp2
  go_loopw [4, 5] (fun o i wr => ∃ (k : Nat) (v : Value), k ≤ N ∧ i = .int .i64 k ∧ v = o ∧ wr.ownsRow w.heap.size 3 1 v k ((needsTo zs k).map (Value.int .i64)) ∧ Below w.heap.size w wr) (fun _ i _ => N - (intOf i).toNat)
  case atStart => exact ⟨0, _, Nat.zero_le _, rfl, rfl, World.ownsRow_made w #[] 0 (Nat.le_refl _) (by simp) rfl, (Below.refl _ _).alloc (Nat.le_refl _) _⟩
  case round =>
    obtain ⟨k, v, hk, rfl, rfl, hok, hbk⟩ := hrel
    have ha := HA.out.go hbk
    have Ha := Lib.hid ha
    clear ha
    by_cases hlt : k < N
    · have hv : validB zs = true := by
        have := HN.out
        cases h : validB zs
        · rw [h] at this; simp at this; omega
        · rfl
      have hk1 : k + 1 < zs.length := by
        have := HN.out
        rw [hv] at this
        simp at this
        omega
      have Hv := Lib.hid hv
      clear hv
      go_wp2_with fail
      refine (specFloorValid_c A c zs _ Ha.out).mono ?_
      rintro e w' ⟨rfl, rfl⟩
      rw [Hv.out]
      go_wp2_with fail
      refine ((l1Need_c A c zs _ _ Ha.out Hv.out (by omega) (by omega)).mono (fun _ _ h => h.toB)).mono ?_
      rintro e w2 ⟨rfl, hb2⟩
      rw [Int.toNat_natCast]
      have hok2 := own_below hok hb2
      have hbk2 := below_step hbk hb2
      have Hs := Lib.hid (needsTo_succ zs k)
      clear hok hbk hb2
      go_wp2_with (at_builtin; go_loud (refine wpList_append_own _ rfl _ _ 23 rfl w.heap.size 3 i0 (.int .i64 0) 1 8 Try.underlying23 hi hz0 hz1 hz2 rfl (by decide) v k _ rfl (hok2.alloc _) ⟨w2.heap.size, 0, none⟩ 1 1 [.int .i64 (needAt zs k)] rfl rfl (one_new _ _ _) (by simp [Value.oneCell']) (by unfold maxLen; omega) (by omega) (by have := hbk2.size; simp; omega) ?_; intro v' w3 hown3 hg3 _))
      have hb3 : Below w.heap.size w w3 := (hbk2.alloc hbk2.size _).grown hg3 (by have := hbk2.size; simp; omega) (fun r e => (hok2.lt r e).1)
      go_roundw
      case rel => exact ⟨k + 1, v', by omega, by go_num, rfl, by rw [Hs.out, List.map_append]; exact hown3, hb3⟩
      case measure => simp [intOf]; omega
    · obtain rfl : k = N := by omega
      cases hv : validB zs
      · have hk0 : k = 0 := by
          have := HN.out
          rw [hv] at this
          simpa using this
        have hfl : floorNeedsL zs = [] := by unfold floorNeedsL; rw [hv]; rfl
        subst hk0
        rw [needsTo_zero] at hok
        have Hfl := Lib.hid hfl
        have Hv := Lib.hid hv
        clear hv hfl
        by_cases h1 : 1 < zs.length
        · go_wp2_with fail
          refine (specFloorValid_c A c zs _ Ha.out).mono ?_
          rintro e w' ⟨rfl, rfl⟩
          rw [Hv.out]
          go_wp2_with fail
          refine (specFloorValid_c A c zs _ Ha.out).mono ?_
          rintro e w' ⟨rfl, rfl⟩
          rw [Hv.out]
          go_wp2
          go_ret2
          rw [Hfl.out, Hv.out]
          exact RetS.mk (f := fun v => .tuple #[v, .bool false]) (by simp) hok hbk
        · go_wp2_with fail
          refine (specFloorValid_c A c zs _ Ha.out).mono ?_
          rintro e w' ⟨rfl, rfl⟩
          rw [Hv.out]
          go_wp2
          go_ret2
          rw [Hfl.out, Hv.out]
          exact RetS.mk (f := fun v => .tuple #[v, .bool false]) (by simp) hok hbk
      · have hk0 : k = zs.length - 1 := by
          have := HN.out
          rw [hv] at this
          simpa using this
        have hlen := (validB_true hv).1
        have hfl : floorNeedsL zs = needsTo zs k := by unfold floorNeedsL needsL; rw [hv, hk0]; rfl
        have hle : (needsTo zs k).length ≤ 2097152 := by rw [needsTo_length]; omega
        have h1 : ¬ (k + 1 < zs.length) := by omega
        have Hfl := Lib.hid hfl
        have Hv := Lib.hid hv
        clear hv hfl hk0 hlt
        go_wp2_with fail
        refine (specFloorValid_c A c zs _ Ha.out).mono ?_
        rintro e w' ⟨rfl, rfl⟩
        rw [Hv.out]
        go_wp2
        go_ret2
        rw [Hfl.out, Hv.out]
        exact RetS.mk (f := fun v => .tuple #[v, .bool true]) hle (by rw [needsTo_length]; exact hok) hbk

end Go.Proofs.Ytndpdoiomoefpaa
