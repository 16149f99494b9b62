/-
  SparesTake of the model.
-/
import Derived.Test.YtkicifkigbciaaaSpSS
import Derived.Test.YtkicifkigbciaaaKeep
import Derived.StillTailTactics
import Derived.Deep.RegionLaw
import Derived.Deep.AppendLies
namespace Go.Proofs.Ytkicifkigbciaaa
open Go.RowKit

def takeB (L : List Spr) (k m : Int) : Bool := sprB 10 L && (inB k 0 ((L.length : Int) - 1) && inB m 1 (sprAt L k.toNat).m)
def takeL (L : List Spr) (k m : Int) : List Spr := if takeB L k m then L.take k.toNat ++ ((if m < (sprAt L k.toNat).m then [⟨(sprAt L k.toNat).m - m, (sprAt L k.toNat).k⟩] else []) ++ L.drop (k.toNat + 1)) else []
theorem takeL_no {L : List Spr} {k m : Int} (h : takeB L k m = false) : takeL L k m = [] := by unfold takeL; rw [h]; rfl
theorem ArgZ.take {w : World} {A : Option Addr} {c : Nat} {zs : List Spr} (h : ArgZ w A c zs) (k : Nat) : ArgZ w A c (zs.take k) := by
  have h1 : (zs.take k).length ≤ zs.length := by simp; omega
  refine ⟨by have := h.1; omega, by have := h.2.1; omega, h.2.2.1, fun hn => ?_⟩
  obtain ⟨b, off, e, l1, l2⟩ := h.rd (by omega)
  refine ⟨b, off, e, l1, l2.1, fun j hj => ?_⟩
  have hj2 : j < k := by simp at hj; omega
  have := l2.2 j (by omega)
  rwa [show sprAt (zs.take k) j = sprAt zs j by unfold sprAt; rw [List.getElem?_take_of_lt hj2]]
theorem ArgZ.drop {w : World} {b off c : Nat} {zs : List Spr} (h : ArgZ w (some ⟨b, off, none⟩) c zs) (k : Nat) : ArgZ w (some ⟨b, off + k * 2, none⟩) (c - k) (zs.drop k) := by
  have h1 : (zs.drop k).length = zs.length - k := by simp
  refine ⟨by have := h.1; omega, by have := h.2.1; omega, by have := h.2.2.1; omega, fun hn => ?_⟩
  obtain ⟨b', off', e, l1, l2, l3⟩ := h.rd (by omega)
  injection e with e
  injection e with e1 e2 _
  subst e1; subst e2
  refine ⟨b, off + k * 2, rfl, l1, l2, fun j hj => ?_⟩
  have := l3 (k + j) (by omega)
  rw [show sprAt (zs.drop k) j = sprAt zs (k + j) by unfold sprAt; rw [List.getElem?_drop], show off + k * 2 + j * 2 = off + (k + j) * 2 by omega]
  exact this
theorem argZ_empty (W : World) (A : Option Addr) (c : Nat) (hc : c ≤ maxLen) : ArgZ W A c [] := ⟨by simp, by simp, hc, RdZ.nil⟩
theorem OnZ.grown0 {w wr w3 : World} {sv v' : Value} {xs ys : List Spr} (h : OnZ w wr sv xs) (h1 : w3.ownsRow w.heap.size 25 2 v' ys.length (sprCells ys)) (h2 : wr.grownBy w3 sv.ownBlock) : OnZ w w3 v' ys :=
  ⟨h1, h.2.grown h2 h.2.size (fun k e => (h.1.lt k e).1)⟩
theorem onz_snoc {w wr w3 : World} {sv v' : Value} {xs : List Spr} {x : Spr} (h : OnZ w wr sv xs) (h1 : w3.ownsRow w.heap.size 25 2 v' (xs.length + 1) (sprCells xs ++ sprCell x)) (h2 : wr.grownBy w3 sv.ownBlock) : OnZ w w3 v' (xs ++ [x]) :=
  h.grown0 (by rw [sprCells_snoc, List.length_append, List.length_singleton]; exact h1) h2
theorem OnZ.arg {w w' : World} {A : Option Addr} {c : Nat} {xs zs : List Spr} {sv : Value} (h : OnZ w w' sv xs) (ha : ArgZ w A c zs) : ArgZ w' A c zs := ha.go h.2
theorem OnZ.alloc {w w1 : World} {sv : Value} {xs : List Spr} (h : OnZ w w1 sv xs) (o : Obj) : OnZ w (w1.alloc o) sv xs := h.go ((Below.refl _ _).alloc (Nat.le_refl _) o)
theorem argZ_one' (w : World) (s : Spr) (t : TypeId) : ArgZ (w.alloc (.cells #[.int .i64 s.m, .int .i64 s.k] t)).drew (some ⟨w.heap.size, 0, none⟩) 1 [s] := (argZ_one w s t).go (below_drewN (Below.refl _ _) 1)
theorem OnZ.drew {w w1 : World} {sv : Value} {xs : List Spr} (h : OnZ w w1 sv xs) : OnZ w w1.drew sv xs := h.go (below_drewN (Below.refl _ _) 1)
theorem OnZ.base {w0 w w1 : World} {sv : Value} {xs : List Spr} (h : OnZ w w1 sv xs) (hb : Below w0.heap.size w0 w) : OnZ w0 w1 sv xs := ⟨OwnsRow.more h.1 hb.size, below_step hb h.2⟩

set_option maxRecDepth 100000 in
set_option maxHeartbeats 2000000 in
theorem specSparesTake_b (A : Option Addr) (c : Nat) (L : List Spr) (k m : Int) (w : World) (ha : ArgZ w A c L) (hk : -9223372036854775808 ≤ k ∧ k ≤ 9223372036854775807) (hm : -9223372036854775808 ≤ m ∧ m ≤ 9223372036854775807) :
    Calls Try.prog 42 #[.slice A L.length c, .int .i64 k, .int .i64 m] w (RetZ 25 (fun v => .tuple #[v, .bool (takeB L k m)]) (takeL L k m) w) := by
  obtain ⟨i0, hi, hz0, hz1, hz2⟩ := info_parts sprInfo
  have hlen := ha.len
  obtain ⟨hk1, hk2⟩ := hk
  obtain ⟨hm1, hm2⟩ := hm
  have HA := Lib.hid ha
  clear ha
  go_enter Try.func42, Try.ntmps42
  go_wp2_with fail
  refine (specSparesValid_b A c L _ HA.out).mono ?_
  rintro e w1 ⟨rfl, hb1⟩
  have Hb1 := Lib.hid hb1
  have HA1 := Lib.hid (HA.out.go hb1)
  clear hb1
  have Ho0 := Lib.hid (show OnZ w1 (w1.alloc (.cells #[] 25)) _ [] from ⟨ownZ_none w1 _, belowZ_none w1 _⟩)
  cases hv : sprB 10 L
  · have Hv := Lib.hid (show takeB L k m = false by unfold takeB; rw [hv]; rfl)
    clear hv
    go_wp2
    go_ret2
    rw [takeL_no Hv.out, Hv.out]
    have h2 := Ho0.out.base Hb1.out
    exact RetZ.mk (f := fun v => .tuple #[v, .bool false]) (by simp) h2.1 h2.2
  have Hv := Lib.hid hv
  have hl10 := (sprB_true.1 hv).1
  clear hv
  go_wp2_with fail
  refine (l6In_c _ _ _ _).mono ?_
  rintro e w2 ⟨rfl, rfl⟩
  cases hk : inB k 0 ((L.length : Int) - 1)
  · have Hk := Lib.hid (show takeB L k m = false by unfold takeB; rw [hk, Hv.out]; rfl)
    clear hk
    go_wp2
    go_ret2
    rw [takeL_no Hk.out, Hk.out]
    have h2 := Ho0.out.base Hb1.out
    exact RetZ.mk (f := fun v => .tuple #[v, .bool false]) (by simp) h2.1 h2.2
  have Hk := Lib.hid hk
  obtain ⟨n, rfl⟩ : ∃ n : Nat, k = (n : Int) := ⟨k.toNat, by have := (inB_true.1 hk).1; omega⟩
  have hlt : n < L.length := by have := (inB_true.1 hk).2; omega
  clear hk
  have g1 : (n : Int) < (L.length : Int) := by omega
  have hL := HA1.out
  have hLc := hL.2.1
  have hLm := hL.2.2.1
  obtain ⟨b, off, rfl, _, hbw, hc0, hc1⟩ := hL.rd.at_ hlt
  have hbd := (sprB_at Hv.out hlt).1
  have hLd := Lib.hid (show takeB L n m = true → takeL L n m = L.take n ++ ((if m < (sprAt L n).m then [⟨(sprAt L n).m - m, (sprAt L n).k⟩] else []) ++ L.drop (n + 1)) from fun h => by unfold takeL; rw [if_pos h]; simp)
  have hTB := Lib.hid (show takeB L n m = inB m 1 (sprAt L n).m by unfold takeB; rw [Hv.out, Hk.out]; simp)
  have Hcell := Lib.hid (fun (W : World) (h : Below w1.heap.size w1 W) => And.intro (below_cell (x := ⟨b, off + n * 2, none⟩) h hbw hc0) (below_cell (x := ⟨b, off + n * 2 + 1, none⟩) h hbw hc1))
  obtain ⟨s, hs⟩ : ∃ s, sprAt L n = s := ⟨_, rfl⟩
  rw [hs] at hc0 hc1 hbd hLd hTB Hcell
  clear hs hL
  go_wp2_with fail
  refine (l6In_c _ _ _ _).mono ?_
  rintro e w2 ⟨rfl, rfl⟩
  cases hm : inB m 1 s.m
  · have Hm := Lib.hid (show takeB L n m = false by rw [hTB.out, hm])
    clear hm
    go_wp2
    go_ret2
    rw [takeL_no Hm.out, Hm.out]
    have h2 := Ho0.out.base Hb1.out
    exact RetZ.mk (f := fun v => .tuple #[v, .bool false]) (by simp) h2.1 h2.2
  have Hm := Lib.hid hm
  obtain ⟨hm3, hm4⟩ := inB_true.1 hm
  have HT := Lib.hid (show takeB L n m = true by rw [hTB.out, hm])
  have hLd2 := Lib.hid (hLd.out HT.out)
  obtain ⟨X1, hX1⟩ : ∃ X, X = L.take n := ⟨_, rfl⟩
  obtain ⟨X3, hX3⟩ : ∃ X, X = L.drop (n + 1) := ⟨_, rfl⟩
  have hx1 : X1.length = n := by rw [hX1]; simp; omega
  have hx3 : X3.length = L.length - (n + 1) := by rw [hX3]; simp
  have HX1 := Lib.hid (show ArgZ (w1.alloc (.cells #[] 25)) (some ⟨b, off, none⟩) c X1 by rw [hX1]; exact (HA1.out.take n).go (belowZ_none w1 _))
  have HX3 := Lib.hid (show ArgZ w1 (some ⟨b, off + (n + 1) * 2, none⟩) (c - (n + 1)) X3 by rw [hX3]; exact HA1.out.drop (n + 1))
  rw [← hX1, ← hX3] at hLd2
  clear hm hc0 hc1 hX1 hX3
  have g3 : (n : Int) ≤ (c : Int) := by omega
  have HEnd : ∀ (zs : List Spr) (w5 : World) (v5 : Value), zs.length ≤ 2097152 → zs = takeL L n m → OnZ w1 w5 v5 zs → RetZ 25 (fun v => .tuple #[v, .bool true]) (takeL L n m) w (.returned (.tuple #[v5, .bool true])) w5 := by
    intro zs w5 v5 hz he h
    subst he
    exact RetZ.mk (f := fun v => .tuple #[v, .bool true]) hz (h.base Hb1.out).1 (h.base Hb1.out).2
  have HE := Lib.hid HEnd
  clear HEnd
  by_cases hcn : c = n + 1
  · subst hcn
    have hX30 : X3 = [] := List.eq_nil_of_length_eq_zero (by omega)
    have HZ := Lib.hid (fun (W : World) (A : Option Addr) (c : Nat) (hc : c ≤ maxLen) => (show ArgZ W A c X3 by rw [hX30]; exact argZ_empty W A c hc))
    clear hX30
    by_cases hms : m < s.m
    · have HL := Lib.hid (show (X1 ++ [⟨s.m - m, s.k⟩]) ++ X3 = takeL L n m by rw [hLd2, if_pos hms, List.append_assoc])
      have q1 : IntKind.i64.wrap (s.m - m) = s.m - m := IntWalk.i64_in _ (by omega)
      clear hLd2
      go_wp2_with (at_builtin; refine wpList_append_sprs rfl (.tmp 31) (.tmp 34) 23 rfl w1.heap.size 25 i0 (.agg #[.int .i64 0, .int .i64 0]) Try.underlying23 hi hz0 hz1 hz2 rfl _ [] rfl (Ho0.out.1) (some ⟨b, off, none⟩) _ X1 (by rw [hx1]; rfl) HX1.out (by simp; omega) (by simp) ?_; intro v' w3 hown3 hg3; have H3 := Lib.hid (show OnZ w1 w3 v' X1 from Ho0.out.grown0 hown3 hg3); obtain ⟨d0, d1⟩ := Hcell.out w3 H3.out.2; clear hown3 hg3)
      go_region_law (refine step_append_lies _ rfl (.tmp 43) (.tmp 57) 23 rfl w1.heap.size 25 i0 (.agg #[.int .i64 0, .int .i64 0]) 2 16 Try.underlying23 hi hz0 hz1 hz2 rfl (by decide) v' X1.length (sprCells X1) (by simp [Act.eval]) ((H3.out.drew.alloc (.cells #[.int .i64 (s.m - m), .int .i64 s.k] 25)).1) ⟨w3.heap.size, 0, none⟩ 1 1 (sprCell ⟨s.m - m, s.k⟩) (by simp [Act.eval]) rfl (sprCell_new w3.drew ⟨s.m - m, s.k⟩ _) (sprCell_one _) (by omega) (by unfold maxLen; omega) (by omega) ((H3.out.drew.alloc (.cells #[.int .i64 (s.m - m), .int .i64 s.k] 25)).2.size) _ rfl ?_; intro g4 cap4 w4 hown4 hg4 _ _; have H4 := Lib.hid (show OnZ w1 w4 (.slice (some ⟨g4, 0, none⟩) (n + 1) cap4) (X1 ++ [⟨s.m - m, s.k⟩]) by rw [← hx1]; exact onz_snoc (H3.out.drew.alloc (.cells #[.int .i64 (s.m - m), .int .i64 s.k] 25)) hown4 hg4); clear hown4 hg4)
      all_goals
        go_wp2_with (at_builtin; refine wpList_append_sprs rfl (.tmp 59) (.tmp 63) 23 rfl w1.heap.size 25 i0 (.agg #[.int .i64 0, .int .i64 0]) Try.underlying23 hi hz0 hz1 hz2 rfl (.slice (some ⟨g4, 0, none⟩) (n + 1) cap4) (X1 ++ [⟨s.m - m, s.k⟩]) rfl H4.out.1 (some ⟨b, off, none⟩) _ X3 (by first | (rw [hx3]; rfl) | (rw [show X3.length = 0 by omega]; rfl)) (HZ.out _ _ _ (by omega)) (by simp; omega) H4.out.2.size ?_; intro v5 w5 hown5 hg5; have H5 := Lib.hid (H4.out.grown0 hown5 hg5); clear hown5 hg5)
        go_ret2
        rw [HT.out]
        exact HE.out _ _ _ (by first | omega | (simp; omega)) HL.out H5.out
    · have HL := Lib.hid (show X1 ++ X3 = takeL L n m by rw [hLd2, if_neg hms, List.nil_append])
      obtain rfl : m = s.m := by omega
      clear hLd2
      go_wp2_with (first | (at_builtin; refine wpList_append_sprs rfl (.tmp 31) (.tmp 34) 23 rfl w1.heap.size 25 i0 (.agg #[.int .i64 0, .int .i64 0]) Try.underlying23 hi hz0 hz1 hz2 rfl _ [] rfl (Ho0.out.1) (some ⟨b, off, none⟩) _ X1 (by rw [hx1]; rfl) HX1.out (by simp; omega) (by simp) ?_; intro v' w3 hown3 hg3; have H3 := Lib.hid (show OnZ w1 w3 v' X1 from Ho0.out.grown0 hown3 hg3); obtain ⟨d0, d1⟩ := Hcell.out w3 H3.out.2; clear hown3 hg3) | (at_builtin; refine wpList_append_sprs rfl (.tmp 59) (.tmp 63) 23 rfl w1.heap.size 25 i0 (.agg #[.int .i64 0, .int .i64 0]) Try.underlying23 hi hz0 hz1 hz2 rfl v' (X1) rfl H3.out.1 (some ⟨b, off, none⟩) _ X3 (by first | (rw [hx3]; rfl) | (rw [show X3.length = 0 by omega]; rfl)) (HZ.out _ _ _ (by omega)) (by omega) H3.out.2.size ?_; intro v5 w5 hown5 hg5; have H5 := Lib.hid (H3.out.grown0 hown5 hg5); clear hown5 hg5))
      go_ret2
      rw [HT.out]
      exact HE.out _ _ _ (by first | omega | (simp; omega)) HL.out H5.out
  · have HZ := Lib.hid (fun (W : World) (h : Below w1.heap.size w1 W) => HX3.out.go h)
    by_cases hms : m < s.m
    · have HL := Lib.hid (show (X1 ++ [⟨s.m - m, s.k⟩]) ++ X3 = takeL L n m by rw [hLd2, if_pos hms, List.append_assoc])
      have q1 : IntKind.i64.wrap (s.m - m) = s.m - m := IntWalk.i64_in _ (by omega)
      clear hLd2
      go_wp2_with (at_builtin; refine wpList_append_sprs rfl (.tmp 31) (.tmp 34) 23 rfl w1.heap.size 25 i0 (.agg #[.int .i64 0, .int .i64 0]) Try.underlying23 hi hz0 hz1 hz2 rfl _ [] rfl (Ho0.out.1) (some ⟨b, off, none⟩) _ X1 (by rw [hx1]; rfl) HX1.out (by simp; omega) (by simp) ?_; intro v' w3 hown3 hg3; have H3 := Lib.hid (show OnZ w1 w3 v' X1 from Ho0.out.grown0 hown3 hg3); obtain ⟨d0, d1⟩ := Hcell.out w3 H3.out.2; clear hown3 hg3)
      go_region_law (refine step_append_lies _ rfl (.tmp 43) (.tmp 57) 23 rfl w1.heap.size 25 i0 (.agg #[.int .i64 0, .int .i64 0]) 2 16 Try.underlying23 hi hz0 hz1 hz2 rfl (by decide) v' X1.length (sprCells X1) (by simp [Act.eval]) ((H3.out.drew.alloc (.cells #[.int .i64 (s.m - m), .int .i64 s.k] 25)).1) ⟨w3.heap.size, 0, none⟩ 1 1 (sprCell ⟨s.m - m, s.k⟩) (by simp [Act.eval]) rfl (sprCell_new w3.drew ⟨s.m - m, s.k⟩ _) (sprCell_one _) (by omega) (by unfold maxLen; omega) (by omega) ((H3.out.drew.alloc (.cells #[.int .i64 (s.m - m), .int .i64 s.k] 25)).2.size) _ rfl ?_; intro g4 cap4 w4 hown4 hg4 _ _; have H4 := Lib.hid (show OnZ w1 w4 (.slice (some ⟨g4, 0, none⟩) (n + 1) cap4) (X1 ++ [⟨s.m - m, s.k⟩]) by rw [← hx1]; exact onz_snoc (H3.out.drew.alloc (.cells #[.int .i64 (s.m - m), .int .i64 s.k] 25)) hown4 hg4); clear hown4 hg4)
      all_goals
        go_wp2_with (at_builtin; refine wpList_append_sprs rfl (.tmp 59) (.tmp 63) 23 rfl w1.heap.size 25 i0 (.agg #[.int .i64 0, .int .i64 0]) Try.underlying23 hi hz0 hz1 hz2 rfl (.slice (some ⟨g4, 0, none⟩) (n + 1) cap4) (X1 ++ [⟨s.m - m, s.k⟩]) rfl H4.out.1 (some ⟨b, off + (n + 1) * 2, none⟩) _ X3 (by first | (rw [hx3]; rfl) | (rw [show X3.length = 0 by omega]; rfl)) (HZ.out _ H4.out.2) (by simp; omega) H4.out.2.size ?_; intro v5 w5 hown5 hg5; have H5 := Lib.hid (H4.out.grown0 hown5 hg5); clear hown5 hg5)
        go_ret2
        rw [HT.out]
        exact HE.out _ _ _ (by first | omega | (simp; omega)) HL.out H5.out
    · have HL := Lib.hid (show X1 ++ X3 = takeL L n m by rw [hLd2, if_neg hms, List.nil_append])
      obtain rfl : m = s.m := by omega
      clear hLd2
      go_wp2_with (first | (at_builtin; refine wpList_append_sprs rfl (.tmp 31) (.tmp 34) 23 rfl w1.heap.size 25 i0 (.agg #[.int .i64 0, .int .i64 0]) Try.underlying23 hi hz0 hz1 hz2 rfl _ [] rfl (Ho0.out.1) (some ⟨b, off, none⟩) _ X1 (by rw [hx1]; rfl) HX1.out (by simp; omega) (by simp) ?_; intro v' w3 hown3 hg3; have H3 := Lib.hid (show OnZ w1 w3 v' X1 from Ho0.out.grown0 hown3 hg3); obtain ⟨d0, d1⟩ := Hcell.out w3 H3.out.2; clear hown3 hg3) | (at_builtin; refine wpList_append_sprs rfl (.tmp 59) (.tmp 63) 23 rfl w1.heap.size 25 i0 (.agg #[.int .i64 0, .int .i64 0]) Try.underlying23 hi hz0 hz1 hz2 rfl v' (X1) rfl H3.out.1 (some ⟨b, off + (n + 1) * 2, none⟩) _ X3 (by first | (rw [hx3]; rfl) | (rw [show X3.length = 0 by omega]; rfl)) (HZ.out _ H3.out.2) (by omega) H3.out.2.size ?_; intro v5 w5 hown5 hg5; have H5 := Lib.hid (H3.out.grown0 hown5 hg5); clear hown5 hg5))
      go_ret2
      rw [HT.out]
      exact HE.out _ _ _ (by first | omega | (simp; omega)) HL.out H5.out

end Go.Proofs.Ytkicifkigbciaaa
