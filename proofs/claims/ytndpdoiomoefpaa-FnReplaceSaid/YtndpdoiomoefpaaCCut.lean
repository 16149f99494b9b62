/-
  CableCut of both.
-/
import Derived.Test.YtndpdoiomoefpaaAppC
import Derived.Test.YtndpdoiomoefpaaSectsJ
namespace Go.Proofs.Ytndpdoiomoefpaa
open Go.RowKit

/-- WHAT A FUNCTION THAT HANDS BACK TWO NEW LISTS LEAVES. -/
def RetCC (t : TypeId) (f : Value → Value → Value) (xs ys : List Sec) (w : World) (e : Ending) (w' : World) : Prop :=
  ∃ A c B d m, e = .returned (f (.slice A xs.length c) (.slice B ys.length d)) ∧ ArgC w' A c xs ∧ OwC t w.heap.size m w' (.slice A xs.length c) xs ∧ ArgC w' B d ys ∧ OwC t m w'.heap.size w' (.slice B ys.length d) ys ∧ (w.heap.size ≤ m ∧ m ≤ w'.heap.size) ∧ Below w.heap.size w w'
theorem RetCC.nil {t : TypeId} {f : Value → Value → Value} {w w' : World} (hb : Below w.heap.size w w') : RetCC t f [] [] w (.returned (f (.slice none 0 0) (.slice none 0 0))) w' :=
  ⟨none, 0, none, 0, w.heap.size, rfl, ArgC.nil _, OwC.nil, ArgC.nil _, OwC.nil, ⟨Nat.le_refl _, hb.size⟩, hb⟩

def cutOk (ss : List Sec) (x : Int) : Bool := cabB ss && inB x 1 (milesL ss - 1)
def cutA (ss : List Sec) (x : Int) : List Sec := if cutOk ss x then partL ss 0 x else []
def cutB (ss : List Sec) (x : Int) : List Sec := if cutOk ss x then partL ss x (milesL ss) else []
theorem cutOk_no {ss : List Sec} (h : cabB ss = false) (x : Int) : cutOk ss x = false := by unfold cutOk; rw [h]; rfl
theorem cutOk_out {ss : List Sec} {x : Int} (h : inB x 1 (milesL ss - 1) = false) : cutOk ss x = false := by unfold cutOk; rw [h]; simp
theorem cutOk_in {ss : List Sec} {x : Int} (h : cabB ss = true) (h2 : inB x 1 (milesL ss - 1) = true) : cutOk ss x = true := by unfold cutOk; rw [h, h2]; rfl
theorem cut_no {ss : List Sec} {x : Int} (h : cutOk ss x = false) : cutA ss x = [] ∧ cutB ss x = [] := by unfold cutA cutB; rw [h]; exact ⟨rfl, rfl⟩
theorem cut_yes {ss : List Sec} {x : Int} (h : cutOk ss x = true) : cutA ss x = partL ss 0 x ∧ cutB ss x = partL ss x (milesL ss) := by unfold cutA cutB; rw [h]; exact ⟨rfl, rfl⟩

set_option maxRecDepth 100000 in
set_option maxHeartbeats 1000000 in
theorem implCableCut_b (A : Option Addr) (c : Nat) (ss : List Sec) (x : Int) (w : World) (ha : ArgC w A c ss) :
    Calls Try.prog 66 #[.slice A ss.length c, .int .i64 x] w (RetCC 54 (fun u v => .tuple #[u, v, .bool (cutOk ss x)]) (cutA ss x) (cutB ss x) w) := by
  have HA := Lib.hid ha
  clear ha
  cases hv : cabB ss
  · have hno := cutOk_no hv x
    obtain ⟨n1, n2⟩ := cut_no hno
    rw [n1, n2, hno]
    have Hv := Lib.hid hv
    clear hv n1 n2 hno
    go_enter Try.func66, Try.ntmps66
    go_wp2_with fail
    refine (chainOf_no A c ss _ HA.out Hv.out).mono ?_
    rintro e w1 ⟨rfl, hb⟩
    have Hb := Lib.hid hb
    clear hb
    go_wp2
    go_ret3
    exact RetCC.nil (f := fun u v => .tuple #[u, v, .bool false]) Hb.out
  · have hl := (cab_len hv).2
    have hm0 := (cab_miles hv).1
    have hm := (cab_miles hv).2
    cases hx : inB x 1 (milesL ss - 1)
    · have hno := cutOk_out hx
      obtain ⟨n1, n2⟩ := cut_no hno
      rw [n1, n2, hno]
      have Hv := Lib.hid hv
      have Hx := Lib.hid hx
      clear hv hx n1 n2 hno
      go_enter Try.func66, Try.ntmps66
      go_wp2_with fail
      refine (chainOf_yes A c ss _ HA.out Hv.out).mono ?_
      rintro e w1 ⟨C, ns, rfl, hn, hC, hb⟩
      dsimp only
      have Hb := Lib.hid hb
      have HC := Lib.hid hC
      have Hn := Lib.hid hn
      clear hb hC hn
      go_wp2_with fail
      refine (miles_c _ C ns ss _ HC.out Hn.out (small_mono (cab_small Hv.out) (by omega)) (by omega)).mono ?_
      rintro e w2 ⟨rfl, rfl⟩
      go_wp2_with fail
      refine (inRange_c _ _ _ _).mono ?_
      rintro e w2 ⟨rfl, rfl⟩
      rw [Hx.out]
      go_wp2
      go_ret3
      exact RetCC.nil (f := fun u v => .tuple #[u, v, .bool false]) Hb.out
    · have hyes := cutOk_in hv hx
      obtain ⟨n1, n2⟩ := cut_yes hyes
      rw [n1, n2, hyes]
      have Hv := Lib.hid hv
      have Hx := Lib.hid hx
      have hx0 := (inB_true.1 hx).1
      have hx1 := (inB_true.1 hx).2
      have p1 := partL_length ss 0 x
      have p2 := partL_length ss x (milesL ss)
      have Hq := Lib.hid (And.intro p1 p2)
      clear hv hx n1 n2 hyes p1 p2
      go_enter Try.func66, Try.ntmps66
      go_wp2_with fail
      refine (chainOf_yes A c ss _ HA.out Hv.out).mono ?_
      rintro e w1 ⟨C, ns, rfl, hn, hC, hb⟩
      dsimp only
      have Hb := Lib.hid hb
      have HC := Lib.hid hC
      have Hn := Lib.hid hn
      clear hb hC hn
      go_wp2_with fail
      refine (miles_c _ C ns ss _ HC.out Hn.out (small_mono (cab_small Hv.out) (by omega)) (by omega)).mono ?_
      rintro e w2 ⟨rfl, rfl⟩
      go_wp2_with fail
      refine (inRange_c _ _ _ _).mono ?_
      rintro e w2 ⟨rfl, rfl⟩
      rw [Hx.out]
      go_wp2_with fail
      refine (part_c _ C ns ss 0 x _ HC.out Hn.out (small_mono (cab_small Hv.out) (by omega)) (by omega) (by omega) (by omega) (by omega) (by omega)).mono ?_
      rintro e w3 ⟨D, ms, rfl, hms, hD, hb3⟩
      dsimp only [id]
      have Hb3 := Lib.hid (below_step Hb.out hb3)
      have HC3 := Lib.hid (HC.out.go hb3)
      have HD := Lib.hid hD
      have Hms := Lib.hid hms
      clear hb3 hD hms HC
      go_wp2_with fail
      refine (sections_c _ D ms _ _ HD.out Hms.out (by have := Hq.out; omega)).mono ?_
      rintro e w4 ⟨A1, c1, rfl, ra, ro, rb⟩
      dsimp only [id]
      have Hb4 := Lib.hid (below_step Hb3.out rb)
      have HC4 := Lib.hid (HC3.out.go rb)
      have Ra := Lib.hid ra
      have Ro := Lib.hid (ro.more Hb3.out.size (Nat.le_refl _))
      clear ra ro rb HC3
      go_wp2_with fail
      refine (miles_c _ C ns ss _ HC4.out Hn.out (small_mono (cab_small Hv.out) (by omega)) (by omega)).mono ?_
      rintro e w5 ⟨rfl, rfl⟩
      go_wp2_with fail
      refine (part_c _ C ns ss x (milesL ss) _ HC4.out Hn.out (small_mono (cab_small Hv.out) (by omega)) (by omega) (by omega) (by omega) (by omega) (by omega)).mono ?_
      rintro e w5 ⟨D2, ms2, rfl, hms, hD, hb5⟩
      dsimp only [id]
      have Hb5 := Lib.hid (below_step Hb4.out hb5)
      have HD2 := Lib.hid hD
      have Hms2 := Lib.hid hms
      have Hb45 := Lib.hid hb5
      clear hb5 hD hms
      go_wp2_with fail
      refine (sections_c _ D2 ms2 _ _ HD2.out Hms2.out (by have := Hq.out; omega)).mono ?_
      rintro e w6 ⟨A2, c2, rfl, ra, ro, rb⟩
      dsimp only [id]
      have Hb6 := Lib.hid (below_step Hb5.out rb)
      have Hb46 := Lib.hid (below_step Hb45.out rb)
      have Ra2 := Lib.hid ra
      have Ro2 := Lib.hid (ro.more Hb45.out.size (Nat.le_refl _))
      clear ra ro rb
      go_wp2
      go_ret3
      exact ⟨A1, c1, A2, c2, w4.heap.size, rfl, Ra.out.go Hb46.out, Ro.out.go Hb46.out (Nat.le_refl _), Ra2.out, Ro2.out, ⟨Hb4.out.size, Hb46.out.size⟩, Hb6.out⟩

theorem OwC.made {t : TypeId} {w : World} : OwC t w.heap.size (w.heap.size + 1) (w.alloc (.cells #[] t)) (.slice (some ⟨w.heap.size, 0, none⟩) (0 : Nat) 0) [] :=
  ⟨World.ownsRow_made w #[] 0 (Nat.le_refl _) (by simp) rfl, fun g h => by simp [Value.ownBlock] at h; omega⟩

theorem cutX {ss : List Sec} {x : Int} (h : inB x 1 (milesI ss - 1) = true) : cabB ss = true ∧ inB x 1 (milesL ss - 1) = true := by
  cases hv : cabB ss
  · rw [milesI_no hv, inB_true] at h
    omega
  · rw [milesI_yes hv] at h
    exact ⟨rfl, h⟩
theorem cutX_no {ss : List Sec} {x : Int} (h : inB x 1 (milesI ss - 1) = false) : cutOk ss x = false := by
  cases hv : cabB ss
  · exact cutOk_no hv x
  · rw [milesI_yes hv] at h
    exact cutOk_out h
theorem milesI_bd (ss : List Sec) : -1 ≤ milesI ss ∧ milesI ss ≤ 400 := by
  cases hv : cabB ss
  · rw [milesI_no hv]; omega
  · rw [milesI_yes hv]; have := cab_miles hv; omega

set_option maxRecDepth 100000 in
set_option maxHeartbeats 1000000 in
theorem specCableCut_b (A : Option Addr) (c : Nat) (ss : List Sec) (x : Int) (w : World) (ha : ArgC w A c ss) :
    Calls Try.prog 67 #[.slice A ss.length c, .int .i64 x] w (RetCC 54 (fun u v => .tuple #[u, v, .bool (cutOk ss x)]) (cutA ss x) (cutB ss x) w) := by
  have HA := Lib.hid ha
  obtain ⟨hm0, hm1⟩ := milesI_bd ss
  clear ha
  cases hi : inB x 1 (milesI ss - 1)
  · have hno := cutX_no hi
    obtain ⟨n1, n2⟩ := cut_no hno
    rw [n1, n2, hno]
    have Hi := Lib.hid hi
    clear hi n1 n2 hno
    go_enter Try.func67, Try.ntmps67
    go_wp2_with fail
    refine (specCableMiles_b A c ss _ HA.out).mono ?_
    rintro e w1 ⟨rfl, hb⟩
    have Hb := Lib.hid hb
    clear hb
    go_wp2_with fail
    refine (l6In_c _ _ _ _).mono ?_
    rintro e w2 ⟨rfl, rfl⟩
    rw [Hi.out]
    go_wp2
    go_ret3
    have h1 := OwC.made (t := 54) (w := w1)
    have h2 := OwC.made (t := 54) (w := w1.alloc (.cells #[] 54))
    have es : (w1.alloc (.cells #[] 54)).heap.size = w1.heap.size + 1 := by simp
    have es2 : ((w1.alloc (.cells #[] 54)).alloc (.cells #[] 54)).heap.size = w1.heap.size + 2 := by simp
    have ex := (h1.go ((Below.refl _ _).alloc (Nat.le_refl _) (.cells #[] 54)) (by omega)).more Hb.out.size (Nat.le_refl _)
    have ey := h2
    rw [es] at ey
    refine ⟨_, _, _, _, w1.heap.size + 1, rfl, ex.arg (by simp) (by omega), ex, ey.arg (by simp) (by omega), ey.more (Nat.le_refl _) (by omega), ⟨by have := Hb.out.size; omega, by omega⟩, (Hb.out.alloc Hb.out.size _).alloc (by have := Hb.out.size; omega) _⟩
  · obtain ⟨hv, hx⟩ := cutX hi
    have hyes := cutOk_in hv hx
    obtain ⟨n1, n2⟩ := cut_yes hyes
    rw [n1, n2, hyes]
    have hl := (cab_len hv).2
    have hm := (cab_miles hv).2
    have Hv := Lib.hid hv
    have hx0 := (inB_true.1 hx).1
    have hx1 := (inB_true.1 hx).2
    have Hmi := Lib.hid (milesI_yes hv)
    have Hi := Lib.hid hi
    clear hv hx n1 n2 hyes hi
    go_enter Try.func67, Try.ntmps67
    go_wp2_with fail
    refine (specCableMiles_b A c ss _ HA.out).mono ?_
    rintro e w1 ⟨rfl, hb⟩
    have Hb := Lib.hid hb
    clear hb
    go_wp2_with fail
    refine (l6In_c _ _ _ _).mono ?_
    rintro e w2 ⟨rfl, rfl⟩
    rw [Hi.out, Hmi.out]
    go_wp2_with fail
    refine (l2Part_c A c ss 0 x _ (HA.out.go Hb.out) (cab_small Hv.out) (by omega) (by omega) (by omega) (by omega) (by omega)).mono ?_
    rintro e w3 ⟨A1, c1, rfl, ra, ro, rb⟩
    dsimp only [id]
    have Hb3 := Lib.hid (below_step Hb.out rb)
    have Ra := Lib.hid ra
    have Ro := Lib.hid (ro.more Hb.out.size (Nat.le_refl _))
    clear ra ro rb
    go_wp2_with fail
    refine (l2Part_c A c ss x (milesL ss) _ (HA.out.go Hb3.out) (cab_small Hv.out) (by omega) (by omega) (by omega) (by omega) (by omega)).mono ?_
    rintro e w4 ⟨A2, c2, rfl, ra, ro, rb⟩
    dsimp only [id]
    have Hb4 := Lib.hid (below_step Hb3.out rb)
    have Hb34 := Lib.hid rb
    have Ra2 := Lib.hid ra
    have Ro2 := Lib.hid ro
    clear ra ro rb
    go_wp2
    go_ret3
    exact ⟨A1, c1, A2, c2, w3.heap.size, rfl, Ra.out.go Hb34.out, Ro.out.go Hb34.out (Nat.le_refl _), Ra2.out, Ro2.out, ⟨Hb3.out.size, Hb34.out.size⟩, Hb4.out⟩

end Go.Proofs.Ytndpdoiomoefpaa
