/-
  CableSplice of both.
-/
import Derived.Test.YtndpdoiomoefpaaCCut
namespace Go.Proofs.Ytndpdoiomoefpaa
open Go.RowKit

def spliceOk (xs ys : List Sec) : Bool := cabB xs && cabB ys && cabB (xs ++ ys)
def spliceL (xs ys : List Sec) : List Sec := if spliceOk xs ys then xs ++ ys else []
theorem splice_a {xs : List Sec} (h : cabB xs = false) (ys : List Sec) : spliceOk xs ys = false := by unfold spliceOk; rw [h]; rfl
theorem splice_b {ys : List Sec} (h : cabB ys = false) (xs : List Sec) : spliceOk xs ys = false := by unfold spliceOk; rw [h]; simp
theorem splice_ab {xs ys : List Sec} (h : cabB xs = true) (h2 : cabB ys = true) : spliceOk xs ys = cabB (xs ++ ys) := by unfold spliceOk; rw [h, h2]; rfl
theorem spliceL_no {xs ys : List Sec} (h : spliceOk xs ys = false) : spliceL xs ys = [] := by unfold spliceL; rw [h]; rfl
theorem spliceL_yes {xs ys : List Sec} (h : spliceOk xs ys = true) : spliceL xs ys = xs ++ ys := by unfold spliceL; rw [h]; rfl
theorem spliceL_cab {xs ys : List Sec} (h : cabB xs = true) (h2 : cabB ys = true) : spliceL xs ys = cabL (xs ++ ys) := by unfold spliceL cabL; rw [splice_ab h h2]

theorem Chain.bound {P : Nat → Prop} {W : World} {C : Nat} {ns : List (Nat × Sec)} (h : Chain P W C ns) : Chain (fun k => P k ∧ k < W.heap.size) W C ns :=
  ⟨h.1, h.2.1, h.2.2.1, ⟨h.2.2.2.1, h.lt⟩, fun x hx => ⟨h.2.2.2.2 x hx, h.seg.lt x hx⟩⟩

set_option maxRecDepth 100000 in
set_option maxHeartbeats 1000000 in
theorem implCableSplice_b (A : Option Addr) (c : Nat) (xs : List Sec) (B : Option Addr) (d : Nat) (ys : List Sec) (w : World) (ha : ArgC w A c xs) (hb : ArgC w B d ys) :
    Calls Try.prog 68 #[.slice A xs.length c, .slice B ys.length d] w (RetC 54 (fun v => .tuple #[v, .bool (spliceOk xs ys)]) (spliceL xs ys) w) := by
  have HA := Lib.hid ha
  have HB := Lib.hid hb
  clear ha hb
  cases hv : cabB xs
  · have hno := splice_a hv ys
    rw [spliceL_no hno, hno]
    have Hv := Lib.hid hv
    clear hv hno
    go_enter Try.func68, Try.ntmps68
    go_wp2_with fail
    refine (chainOf_no A c xs _ HA.out Hv.out).mono ?_
    rintro e w1 ⟨rfl, hb⟩
    have Hb := Lib.hid hb
    clear hb
    go_wp2
    go_ret2
    exact RetC.nil (f := fun v => .tuple #[v, .bool false]) Hb.out
  have hlx := (cab_len hv).2
  cases hv2 : cabB ys
  · have hno := splice_b hv2 xs
    rw [spliceL_no hno, hno]
    have Hv := Lib.hid hv
    have Hv2 := Lib.hid hv2
    clear hv hv2 hno
    go_enter Try.func68, Try.ntmps68
    go_wp2_with fail
    refine (chainOf_yes A c xs _ HA.out Hv.out).mono ?_
    rintro e w1 ⟨C, ns, rfl, hn, hC, hb⟩
    dsimp only
    have Hb := Lib.hid hb
    clear hb hC hn
    go_wp2_with fail
    refine (chainOf_no B d ys _ (HB.out.go Hb.out) Hv2.out).mono ?_
    rintro e w2 ⟨rfl, hb⟩
    have Hb2 := Lib.hid (below_step Hb.out hb)
    clear hb
    go_wp2
    go_ret2
    exact RetC.nil (f := fun v => .tuple #[v, .bool false]) Hb2.out
  · have hly := (cab_len hv2).2
    rw [spliceL_cab hv hv2, splice_ab hv hv2]
    have Hv := Lib.hid hv
    have Hv2 := Lib.hid hv2
    clear hv hv2
    go_enter Try.func68, Try.ntmps68
    go_wp2_with fail
    refine (chainOf_yes A c xs _ HA.out Hv.out).mono ?_
    rintro e w1 ⟨C, ns, rfl, hn, hC, hb⟩
    dsimp only
    have Hb := Lib.hid hb
    have HC := Lib.hid hC
    have Hn := Lib.hid hn
    clear hb hC hn
    go_wp2_with fail
    refine (chainOf_yes B d ys _ (HB.out.go Hb.out) Hv2.out).mono ?_
    rintro e w2 ⟨D, ms, rfl, hn, hD, hb⟩
    dsimp only
    have Hb2 := Lib.hid (below_step Hb.out hb)
    have hC2 := ((HC.out.bound.go hb).mono (Q := fun k => (w.heap.size ≤ k ∧ k < w1.heap.size) ∨ w2.heap.size ≤ k) (fun k h => .inl h))
    have HC2 := Lib.hid hC2
    have HD := Lib.hid hD
    have Hm := Lib.hid hn
    have hs12 := hb.size
    have hs01 := Hb.out.size
    clear hb hD hn hC2
    go_wp2_with fail
    refine (join_c (fun k => (w.heap.size ≤ k ∧ k < w1.heap.size) ∨ w2.heap.size ≤ k) (fun k => w1.heap.size ≤ k) C D ns ms _ HC2.out HD.out (fun k h1 h2 h3 => by omega) (fun k hk => .inr hk)).mono ?_
    rintro e w3 ⟨⟨v, rfl⟩, ⟨rs, hC3, hrs⟩, hf⟩
    have HC3 := Lib.hid hC3
    have Hrs := Lib.hid (hrs.trans (by rw [Hn.out, Hm.out] : secs ns ++ secs ms = xs ++ ys))
    have Hb3 := Lib.hid (Hb2.out.trans (hf.below (B := w.heap.size) (by omega) (fun k hk hp => by omega)))
    clear hC3 hrs hf
    go_wp2_with fail
    refine (cable_c _ C rs _ _ HC3.out Hrs.out (by rw [List.length_append]; omega)).mono ?_
    rintro e w4 ⟨A1, c1, rfl, ra, ro, rb⟩
    dsimp only
    have Hb4 := Lib.hid (below_step Hb3.out rb)
    have Ra := Lib.hid ra
    have Ro := Lib.hid (ro.more Hb3.out.size (Nat.le_refl _))
    clear ra ro rb
    go_wp2
    go_ret2
    exact ⟨A1, c1, rfl, Ra.out, Ro.out, Hb4.out⟩

theorem RetC.made {t : TypeId} {f : Value → Value} {w w' : World} (hb : Below w.heap.size w w') : RetC t f [] w (.returned (f (.slice (some ⟨w'.heap.size, 0, none⟩) (0 : Nat) 0))) (w'.alloc (.cells #[] t)) :=
  RetC.mk (by simp) (World.ownsRow_made w' #[] 0 hb.size (by simp) rfl) (hb.alloc hb.size _)

set_option maxRecDepth 100000 in
set_option maxHeartbeats 2000000 in
theorem specCableSplice_b (A : Option Addr) (c : Nat) (xs : List Sec) (B : Option Addr) (d : Nat) (ys : List Sec) (w : World) (ha : ArgC w A c xs) (hb : ArgC w B d ys) :
    Calls Try.prog 70 #[.slice A xs.length c, .slice B ys.length d] w (RetC 54 (fun v => .tuple #[v, .bool (spliceOk xs ys)]) (spliceL xs ys) w) := by
  obtain ⟨i0, hi, hz0, hz1, hz2⟩ := info_parts section_info
  have hl1 := ha.len
  have hl2 := hb.len
  have HA := Lib.hid ha
  have HB := Lib.hid hb
  have hb0 : Below w.heap.size w (w.alloc (.cells #[] 54)) := (Below.refl _ _).alloc (Nat.le_refl _) _
  have HB0 := Lib.hid hb0
  have HO := Lib.hid (World.ownsRow_made (e := 54) (size := 3) w #[] 0 (Nat.le_refl w.heap.size) (by simp) rfl)
  clear ha hb hb0
  go_enter Try.func70, Try.ntmps70
  go_wp2_with (first
    | (at_builtin; refine wpList_append_secs rfl (.tmp 7) (.tmp 8) 45 rfl w.heap.size 54 i0 _ Try.underlying45 hi hz0 hz1 hz2 rfl _ [] rfl HO.out A c xs rfl (HA.out.go HB0.out) (by simp; omega) HB0.out.size ?_; intro v1 w1 hown1 hg1; have HB1 := Lib.hid (HB0.out.grown hg1 HB0.out.size (fun r e => (HO.out.lt r e).1)); clear hg1)
    | (at_builtin; refine wpList_append_secs rfl (.tmp 9) (.tmp 10) 45 rfl w.heap.size 54 i0 _ Try.underlying45 hi hz0 hz1 hz2 rfl _ _ rfl hown1 B d ys rfl (HB.out.go HB1.out) (by simp; omega) HB1.out.size ?_; intro v2 w2 hown2 hg2; have HB2 := Lib.hid (HB1.out.grown hg2 HB1.out.size (fun r e => (hown1.lt r e).1)); clear hg2; obtain ⟨zs, hzs⟩ : ∃ zs : List Sec, [] ++ xs ++ ys = zs := ⟨_, rfl⟩; rw [hzs] at hown2; have Hzs := Lib.hid hzs; clear hzs; obtain ⟨A9, c9, rfl, _, _, _⟩ := (OwC.of_own hown2).form; have HO2 := Lib.hid hown2; clear hown2)
    | fail)
  refine (specCableValid_c A c xs _ (HA.out.go HB2.out)).mono ?_
  rintro e w3 ⟨rfl, hb3⟩
  have HB3 := Lib.hid (HB2.out.trans (hb3.mono HB2.out.size))
  have HO3 := Lib.hid (own_below HO2.out hb3)
  clear hb3 HO2
  cases hv : cabB xs
  · have hno := splice_a hv ys
    have Hno := Lib.hid hno
    clear hv hno
    go_wp2
    go_ret2
    rw [spliceL_no Hno.out, Hno.out]
    exact RetC.made (f := fun v => .tuple #[v, .bool false]) HB3.out
  have Hv := Lib.hid hv
  clear hv
  go_wp2_with fail
  refine (specCableValid_c B d ys _ (HB.out.go HB3.out)).mono ?_
  rintro e w4 ⟨rfl, hb4⟩
  have HB4 := Lib.hid (HB3.out.trans (hb4.mono HB3.out.size))
  have HO4 := Lib.hid (own_below HO3.out hb4)
  clear hb4 HO3
  cases hv2 : cabB ys
  · have hno := splice_b hv2 xs
    have Hno := Lib.hid hno
    clear hv2 hno
    go_wp2
    go_ret2
    rw [spliceL_no Hno.out, Hno.out]
    exact RetC.made (f := fun v => .tuple #[v, .bool false]) HB4.out
  have hly := (cab_len hv2).2
  have hlx := (cab_len Hv.out).2
  have Hv2 := Lib.hid hv2
  clear hv2
  have hzl : zs.length ≤ 16 := by rw [← Hzs.out, List.nil_append, List.length_append]; omega
  have ho4 := OwC.of_own HO4.out
  have Ra := Lib.hid (ho4.arg (by omega) (Nat.le_refl _))
  have Ro := Lib.hid ho4
  clear ho4 HO4
  go_wp2_with fail
  refine (specCableValid_c A9 c9 _ _ Ra.out).mono ?_
  rintro e w5 ⟨rfl, hb5⟩
  have HB5 := Lib.hid (HB4.out.trans (hb5.mono HB4.out.size))
  have Ra5 := Lib.hid (Ra.out.go hb5)
  have Ro5 := Lib.hid ((Ro.out.go hb5 (Nat.le_refl _)).more (Nat.le_refl _) hb5.size)
  clear hb5
  cases hv3 : cabB zs
  · have Hv3 := Lib.hid hv3
    clear hv3
    go_wp2
    go_ret2
    rw [spliceL_cab Hv.out Hv2.out, splice_ab Hv.out Hv2.out, ← List.nil_append xs, Hzs.out, cabL_no Hv3.out, Hv3.out]
    exact RetC.made (f := fun v => .tuple #[v, .bool false]) HB5.out
  · have Hv3 := Lib.hid hv3
    clear hv3
    go_wp2
    go_ret2
    rw [spliceL_cab Hv.out Hv2.out, splice_ab Hv.out Hv2.out, ← List.nil_append xs, Hzs.out, cabL_yes Hv3.out, Hv3.out]
    exact ⟨A9, c9, rfl, Ra5.out, Ro5.out, HB5.out⟩

end Go.Proofs.Ytndpdoiomoefpaa
