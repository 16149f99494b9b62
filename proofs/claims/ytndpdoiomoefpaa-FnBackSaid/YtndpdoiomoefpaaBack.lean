/-
  FloorBack of both; slices.Reverse.
-/
import Derived.Test.YtndpdoiomoefpaaPart
import Derived.RegionTactic
namespace Go.Proofs.Ytndpdoiomoefpaa
open Go.RowKit

/-- the last k, the last one first -/
def revTo (zs : List Int) (k : Nat) : List Int := (List.range k).map fun j => zs[zs.length - 1 - j]?.getD 0
theorem revTo_zero (zs : List Int) : revTo zs 0 = [] := by simp [revTo]
theorem revTo_succ (zs : List Int) (k : Nat) : revTo zs (k + 1) = revTo zs k ++ [zs[zs.length - 1 - k]?.getD 0] := by simp [revTo, List.range_succ]
theorem revTo_length (zs : List Int) (k : Nat) : (revTo zs k).length = k := by simp [revTo]
theorem revTo_all (zs : List Int) : revTo zs zs.length = zs.reverse := by
  apply List.ext_getElem
  · simp [revTo]
  · intro i h1 h2
    have h3 : i < zs.length := by simpa [revTo] using h1
    have h4 : zs.length - 1 - i < zs.length := by omega
    simp [revTo, h4]
/-- what FloorBack hands back -/
def floorBackL (zs : List Int) : List Int := if validB zs then zs.reverse else []

set_option maxRecDepth 100000 in
set_option maxHeartbeats 1000000 in
theorem specFloorBack_b (A : Option Addr) (c : Nat) (zs : List Int) (w : World) (ha : Arg w A c zs) :
    Calls Try.prog 29 #[.slice A zs.length c] w (RetS 3 (fun v => .tuple #[v, .bool (validB zs)]) (floorBackL zs) w) := by
  obtain ⟨i0, hi, hz0, hz1, hz2⟩ := info_parts int_info
  obtain ⟨N, hN⟩ : ∃ N, N = if validB zs then zs.length else 0 := ⟨_, rfl⟩
  have hl := ha.len
  have HA := Lib.hid ha
  have HN := Lib.hid hN
  have hNl : N ≤ zs.length := by rw [hN]; split <;> omega
  clear ha hN
  go_enter Try.func29, Try.ntmps29
  go_wp2
  go_loopw [4, 5] (fun o i wr => ∃ (k : Nat) (v : Value), k ≤ N ∧ i = .int .i64 ((zs.length : Int) - 1 - (k : Int)) ∧ v = o ∧ wr.ownsRow w.heap.size 3 1 v k ((revTo zs k).map (Value.int .i64)) ∧ Below w.heap.size w wr) (fun _ i _ => (intOf i + 1).toNat)
  case atStart => exact ⟨0, _, Nat.zero_le _, by simp, rfl, World.ownsRow_made w #[] 0 (Nat.le_refl _) (by simp) rfl, (Below.refl _ _).alloc (Nat.le_refl _) _⟩
  case round =>
    obtain ⟨k, v, hk, rfl, rfl, hok, hbk⟩ := hrel
    have Ha := Lib.hid (HA.out.go hbk)
    by_cases hlt : k < N
    · have hv : validB zs = true := by
        have := HN.out
        cases h : validB zs
        · rw [h] at this; simp at this; omega
        · rfl
      have Hv := Lib.hid hv
      have h16 := (validB_true hv).2.1
      clear hv
      have hix : zs.length - 1 - k < zs.length := by omega
      obtain ⟨b, off, rfl, _, _, hc⟩ := Ha.out.rd.at_ hix
      have Hs := Lib.hid (revTo_succ zs k)
      obtain ⟨y, hy⟩ : ∃ y, zs[zs.length - 1 - k]?.getD 0 = y := ⟨_, rfl⟩
      rw [hy] at hc
      have Hy := Lib.hid hy
      clear hy
      obtain ⟨p, hp⟩ : ∃ p, zs.length - 1 - k = p := ⟨_, rfl⟩
      rw [hp] at hc
      have hpi : (zs.length : Int) - 1 - (k : Int) = (p : Int) := by omega
      have hpl : p < zs.length := by omega
      have Hp := Lib.hid hp
      have Hpi := Lib.hid hpi
      have Hok := Lib.hid hok
      clear hp hok
      rw [hpi]
      clear hpi
      have g1 : (0 : Int) ≤ (p : Int) := by omega
      have g2 : (p : Int) < (zs.length : Int) := by omega
      go_wp2_with fail
      refine (specFloorValid_c _ c zs _ Ha.out).mono ?_
      rintro e w' ⟨rfl, rfl⟩
      rw [Hv.out]
      have hok := Hok.out
      go_wp2_with (at_builtin; refine wpList_append_own _ rfl _ _ 23 rfl w.heap.size 3 i0 (.int .i64 0) 1 8 Try.underlying23 hi hz0 hz1 hz2 rfl (by decide) v k _ rfl (hok.alloc _) ⟨wr.heap.size, 0, none⟩ 1 1 [.int .i64 y] rfl rfl (one_new _ _ _) (by simp [Value.oneCell']) (by unfold maxLen; omega) (by omega) (by have := hbk.size; simp; omega) ?_; intro v' w3 hown3 hg3 _)
      have hb3 : Below w.heap.size w w3 := (hbk.alloc hbk.size _).grown hg3 (by have := hbk.size; simp; omega) (fun r e => (hok.lt r e).1)
      go_roundw
      case rel => exact ⟨k + 1, v', by omega, by have := Hpi.out; simp; omega, rfl, by rw [Hs.out, Hy.out, List.map_append]; exact hown3, hb3⟩
      case measure => simp [intOf]
    · obtain rfl : k = N := by omega
      cases hv : validB zs
      · have hk0 : k = 0 := by
          have := HN.out
          rw [hv] at this
          simpa using this
        have Hfl := Lib.hid (show floorBackL zs = [] by unfold floorBackL; rw [hv]; rfl)
        subst hk0
        rw [revTo_zero] at hok
        have Hv := Lib.hid hv
        clear hv
        by_cases h1 : 0 < zs.length
        · have g1 : (0 : Int) ≤ (zs.length : Int) - 1 - ((0 : Nat) : Int) := by omega
          go_wp2_with (go_at_call 85; refine (specFloorValid_c A c zs _ Ha.out).mono ?_; rintro e w' ⟨rfl, rfl⟩; rw [Hv.out])
          go_ret2
          rw [Hfl.out, Hv.out]
          exact RetS.mk (f := fun v => .tuple #[v, .bool false]) (by simp) hok hbk
        · have g1 : ¬ ((0 : Int) ≤ (zs.length : Int) - 1 - ((0 : Nat) : Int)) := by omega
          go_wp2_with (go_at_call 85; refine (specFloorValid_c A c zs _ Ha.out).mono ?_; rintro e w' ⟨rfl, rfl⟩; rw [Hv.out])
          go_ret2
          rw [Hfl.out, Hv.out]
          exact RetS.mk (f := fun v => .tuple #[v, .bool false]) (by simp) hok hbk
      · have hk0 : k = zs.length := by
          have := HN.out
          rw [hv] at this
          simpa using this
        have Hfl := Lib.hid (show floorBackL zs = zs.reverse by unfold floorBackL; rw [hv]; rfl)
        subst hk0
        rw [revTo_all] at hok
        have g1 : ¬ ((0 : Int) ≤ (zs.length : Int) - 1 - (zs.length : Int)) := by omega
        have Hv := Lib.hid hv
        clear hv
        go_wp2_with (go_at_call 85; refine (specFloorValid_c A c zs _ Ha.out).mono ?_; rintro e w' ⟨rfl, rfl⟩; rw [Hv.out])
        go_ret2
        rw [Hfl.out, Hv.out]
        exact RetS.mk (f := fun v => .tuple #[v, .bool true]) (by simpa using hl) (by rw [List.length_reverse]; exact hok) hbk

/-- the first k and the last k have changed places -/
def swapTo (zs : List Int) (k : Nat) : List Int := (List.range zs.length).map fun x => if x < k ∨ zs.length - k ≤ x then zs[zs.length - 1 - x]?.getD 0 else zs[x]?.getD 0
theorem swapTo_length (zs : List Int) (k : Nat) : (swapTo zs k).length = zs.length := by simp [swapTo]
theorem swapTo_zero (zs : List Int) : swapTo zs 0 = zs := by
  apply List.ext_getElem
  · simp [swapTo]
  · intro i h1 h2
    have : ¬ (zs.length ≤ i) := by omega
    simp [swapTo, this, h2]
theorem swapTo_at {zs : List Int} {k x : Nat} (h : x < zs.length) : (swapTo zs k)[x]?.getD 0 = if x < k ∨ zs.length - k ≤ x then zs[zs.length - 1 - x]?.getD 0 else zs[x]?.getD 0 := by
  simp [swapTo, h]
theorem swapTo_done {zs : List Int} {k : Nat} (h : zs.length ≤ 2 * k + 1) : swapTo zs k = zs.reverse := by
  apply List.ext_getElem
  · simp [swapTo]
  · intro i h1 h2
    have hi : i < zs.length := by simpa [swapTo] using h1
    have hi2 : zs.length - 1 - i < zs.length := by omega
    simp only [swapTo, List.getElem_map, List.getElem_range, List.getElem_reverse]
    by_cases hc : i < k ∨ zs.length - k ≤ i
    · rw [if_pos hc]
      simp [hi2]
    · rw [if_neg hc]
      have : i = zs.length - 1 - i := by omega
      simp only [hi, getElem?_pos, Option.getD_some]
      congr 1
theorem swapTo_succ {zs : List Int} {k : Nat} (h : 2 * k + 1 < zs.length) : ((swapTo zs k).set k (zs[zs.length - 1 - k]?.getD 0)).set (zs.length - 1 - k) (zs[k]?.getD 0) = swapTo zs (k + 1) := by
  apply List.ext_getElem
  · simp [swapTo]
  · intro i h1 h2
    have hi : i < zs.length := by simpa [swapTo] using h2
    simp only [List.getElem_set, swapTo, List.getElem_map, List.getElem_range]
    by_cases e1 : zs.length - 1 - k = i
    · rw [if_pos e1, if_pos (by omega)]
      have : zs.length - 1 - i = k := by omega
      rw [this]
    · rw [if_neg e1]
      by_cases e2 : k = i
      · rw [if_pos e2, if_pos (by omega), e2]
      · rw [if_neg e2]
        by_cases e3 : i < k ∨ zs.length - k ≤ i
        · rw [if_pos e3, if_pos (by omega)]
        · rw [if_neg e3, if_neg (by omega)]

/-- WHAT slices.Reverse LEAVES: it has written into the slice's own block alone. -/
def RetRev (t : TypeId) (lo hi : Nat) (sv : Value) (zs : List Int) (w : World) (w' : World) : Prop := w.grownBy w' sv.ownBlock ∧ Ow t lo hi w' sv zs

set_option maxRecDepth 100000 in
set_option maxHeartbeats 2000000 in
theorem reverse_c (A : Option Addr) (c : Nat) (zs : List Int) (lo hi : Nat) (w : World) (hl : zs.length ≤ 2097152) (ho : Ow 3 lo hi w (.slice A zs.length c) zs) :
    Calls Try.prog 86 #[.slice A zs.length c] w fun e w' => (∃ v, e = .returned v) ∧ RetRev 3 lo hi (.slice A zs.length c) zs.reverse w w' := by
  have Hlt2 := Lib.hid ho.2
  have hown := ho.1
  clear ho
  go_enter Try.func86, Try.ntmps86
  go_wp2
  go_loopw [2, 3] (fun i j wr => ∃ k : Nat, 2 * k ≤ zs.length ∧ i = .int .i64 k ∧ j = .int .i64 ((zs.length : Int) - 1 - (k : Int)) ∧ wr.ownsRow lo 3 1 (.slice A zs.length c) zs.length ((swapTo zs k).map (Value.int .i64)) ∧ w.grownBy wr (Value.slice A zs.length c).ownBlock) (fun i _ _ => zs.length - (intOf i).toNat)
  case atStart => exact ⟨0, by omega, rfl, by simp, by rw [swapTo_zero]; exact hown, World.grownBy.refl w _⟩
  case round =>
    obtain ⟨k, hk, rfl, rfl, hok, hgk⟩ := hrel
    by_cases hlt : 2 * k + 1 < zs.length
    · obtain ⟨g, cap, hv⟩ : ∃ g cap, Value.slice A zs.length c = .slice (some ⟨g, 0, none⟩) zs.length cap := by
        rcases hown.2 with ⟨h1, h2⟩ | ⟨g, cap, cur, h1, _⟩
        · omega
        · exact ⟨g, cap, h1⟩
      have hA : A = some ⟨g, 0, none⟩ := by injection hv
      have Hown := Lib.hid hown
      clear hown hv
      subst hA
      obtain ⟨p, hp⟩ : ∃ p, zs.length - 1 - k = p := ⟨_, rfl⟩
      have hpi : (zs.length : Int) - 1 - (k : Int) = (p : Int) := by omega
      have hpl : p < zs.length := by omega
      have hkp : k < p := by omega
      have hst1 := hok.stored k (.int .i64 (zs[p]?.getD 0))
      have hst2 := hst1.1.stored p (.int .i64 (zs[k]?.getD 0))
      have hss := swapTo_succ hlt
      rw [hp] at hss
      have hck := hok.cellAt k (by omega)
      have hcp := hok.cellAt p (by omega)
      have hfk := hok.frozenAt k
      have hfp := hok.frozenAt p
      have ek : (swapTo zs k)[k]?.getD 0 = zs[k]?.getD 0 := by rw [swapTo_at (by omega), if_neg (by omega)]
      have ep : (swapTo zs k)[p]?.getD 0 = zs[p]?.getD 0 := by rw [swapTo_at (by omega), if_neg (by omega)]
      have hk1 : k < (swapTo zs k).length := by rw [swapTo_length]; omega
      have hp1 : p < (swapTo zs k).length := by rw [swapTo_length]; omega
      rw [List.getElem?_map, List.getElem?_eq_getElem hk1] at hck
      rw [List.getElem?_map, List.getElem?_eq_getElem hp1] at hcp
      rw [List.getElem?_eq_getElem hk1, Option.getD_some] at ek
      rw [List.getElem?_eq_getElem hp1, Option.getD_some] at ep
      rw [ek, Option.map_some] at hck
      rw [ep, Option.map_some] at hcp
      obtain ⟨x, hx⟩ : ∃ x, zs[k]?.getD 0 = x := ⟨_, rfl⟩
      obtain ⟨y, hy⟩ : ∃ y, zs[p]?.getD 0 = y := ⟨_, rfl⟩
      rw [hx] at hck hst2 hss
      rw [hy] at hcp hst1 hst2 hss
      have Hst1 := Lib.hid hst1.2
      have Hst2 := Lib.hid hst2
      have Hss := Lib.hid hss
      have Hpi := Lib.hid hpi
      have Hgk := Lib.hid hgk
      rw [hpi]
      clear hst1 hst2 hss hok hgk hp hpi ek ep hx hy hk1 hp1
      have g1 : (k : Int) < (p : Int) := by omega
      have g2 : (p : Int) < (zs.length : Int) := by omega
      have g3 : (k : Int) < (zs.length : Int) := by omega
      go_wp2
      go_region
      all_goals go_wp2
      all_goals go_roundw
      case rel => exact ⟨k + 1, by omega, by go_num, by have := Hpi.out; simp; omega, by rw [← Hss.out, List.map_set, List.map_set]; exact Hst2.out.1, grown_drew (grown_then Hgk.out (grown_then Hst1.out Hst2.out.2))⟩
      case measure => simp [intOf]; omega
    · have g1 : ¬ ((k : Int) < (zs.length : Int) - 1 - (k : Int)) := by omega
      rw [swapTo_done (by omega)] at hok
      go_wp2
      go_end0
      exact ⟨⟨_, rfl⟩, hgk, ⟨by rw [List.length_reverse]; exact hok, Hlt2.out⟩⟩

set_option maxRecDepth 100000 in
set_option maxHeartbeats 1000000 in
theorem implFloorBack_b (A : Option Addr) (c : Nat) (zs : List Int) (w : World) (ha : Arg w A c zs) :
    Calls Try.prog 28 #[.slice A zs.length c] w (RetS 3 (fun v => .tuple #[v, .bool (validB zs)]) (floorBackL zs) w) := by
  have hl := ha.len
  cases hv : validB zs
  · have Hh := Lib.hid (show floorBackL zs = [] by unfold floorBackL; rw [hv]; rfl)
    have Hv := Lib.hid hv
    have Ha := Lib.hid ha
    clear hv ha
    go_enter Try.func28, Try.ntmps28
    go_wp2_with fail
    refine (implFloorValid_c A c zs _ Ha.out).mono ?_
    rintro e w' ⟨rfl, rfl⟩
    rw [Hv.out]
    go_wp2
    go_ret2
    rw [Hh.out]
    exact RetS.nil (f := fun v => .tuple #[v, .bool false]) (Below.refl _ _)
  · have Hh := Lib.hid (show floorBackL zs = zs.reverse by unfold floorBackL; rw [hv]; rfl)
    have hn := (validB_true hv).1
    obtain ⟨b, off, rfl, _, _, _⟩ := ha.rd (by omega)
    have Hv := Lib.hid hv
    have Ha := Lib.hid ha
    clear hv ha
    go_enter Try.func28, Try.ntmps28
    go_wp2_with fail
    refine (implFloorValid_c _ c zs _ Ha.out).mono ?_
    rintro e w' ⟨rfl, rfl⟩
    rw [Hv.out]
    go_wp2_with fail
    refine (clone_c b off c zs _ Ha.out (by omega)).mono ?_
    rintro e w1 ⟨B, d, rfl, ra, ro, rb⟩
    dsimp only [id]
    have Ro := Lib.hid ro
    have Rb := Lib.hid rb
    clear ra ro rb
    go_wp2_with fail
    refine (reverse_c B d zs _ _ _ hl Ro.out).mono ?_
    rintro e w2 ⟨⟨v, rfl⟩, rg, ro2⟩
    have Rb2 := Lib.hid (below_row Rb.out rg (fun r e => (Ro.out.range r e).1))
    have Ro2 := Lib.hid ro2
    clear rg ro2
    go_wp2
    go_ret2
    rw [Hh.out]
    exact RetS.mk (f := fun v => .tuple #[v, .bool true]) (by simpa using hl) Ro2.out.1 Rb2.out

end Go.Proofs.Ytndpdoiomoefpaa
