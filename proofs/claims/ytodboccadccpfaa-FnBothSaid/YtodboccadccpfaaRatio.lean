/-
  Ratios: RatioOf, what is measured earthed, RatioLess, of both.
-/
import Derived.Test.YtodboccadccpfaaFltM
import Derived.Test.YtodboccadccpfaaChain
import Derived.Test.YtodboccadccpfaaRng
import Derived.BigQuiet
import Derived.StillTailTactics
namespace Go.Proofs.Ytodboccadccpfaa
open Go.RowKit

def Rat2.v (r : Rat2) : Value := .agg #[.int .i64 r.t, .int .i64 r.l]

/-! ### methods of the program -/
/-- the block b holds two ints -/
def TwoAt (t : TypeId) (W : World) (b : Nat) (x y : Int) : Prop := W.heap[b]? = some (.cells #[.int .i64 x, .int .i64 y] t (0, 0))
theorem TwoAt.c0 {t : TypeId} {W : World} {b : Nat} {x y : Int} (h : TwoAt t W b x y) : W.cell? ⟨b, 0, none⟩ = some (.int .i64 x) := cell_of_row _ _ 0 _ _ _ h
theorem TwoAt.c1 {t : TypeId} {W : World} {b : Nat} {x y : Int} (h : TwoAt t W b x y) : W.cell? ⟨b, 1, none⟩ = some (.int .i64 y) := cell_of_row _ _ 1 _ _ _ h
theorem TwoAt.fz {t : TypeId} {W : World} {b : Nat} {x y : Int} (h : TwoAt t W b x y) (i : Nat) : W.frozen? ⟨b, i, none⟩ = false := by unfold TwoAt at h; simp [World.frozen?, h]

theorem TwoAt.set {t : TypeId} {W : World} {b : Nat} {x y : Int} (h : TwoAt t W b x y) (u v : Int) : TwoAt t ((W.setCell ⟨b, 0, none⟩ (.int .i64 u)).setCell ⟨b, 1, none⟩ (.int .i64 v)) b u v := heap_set1 (heap_set0 h _) _

theorem TwoAt.below {t : TypeId} {B : Nat} {W W' : World} {b : Nat} {x y : Int} (h : TwoAt t W b x y) (hb : Below B W W') (hB : b < B) : TwoAt t W' b x y := (hb.block b hB).trans h
theorem TwoAt.new (t : TypeId) (w : World) (x y : Int) : TwoAt t (w.alloc (.cells #[.int .i64 x, .int .i64 y] t)) w.heap.size x y := heap_alloc_new w _
theorem TwoAt.new1 (t : TypeId) (w : World) (o : Obj) (x y : Int) : TwoAt t ((w.alloc o).alloc (.cells #[.int .i64 x, .int .i64 y] t)) (w.heap.size + 1) x y := heap_new2 w o _
theorem TwoAt.old {t : TypeId} {w : World} {b : Nat} {x y : Int} (h : TwoAt t w b x y) (o : Obj) : TwoAt t (w.alloc o) b x y := (Below.heap_alloc _ _ _ (Array.getElem?_eq_some_iff.1 h).1).trans h
/-- what a store of both cells wants, and leaves -/
theorem TwoAt.all {t : TypeId} {W : World} {b : Nat} {x y : Int} (h : TwoAt t W b x y) (u v : Int) :
    (W.cell? ⟨b, 0, none⟩ = some (.int .i64 x) ∧ W.cell? ⟨b, 1, none⟩ = some (.int .i64 y) ∧ W.frozen? ⟨b, 0, none⟩ = false ∧ W.frozen? ⟨b, 1, none⟩ = false) ∧
    (((W.setCell ⟨b, 0, none⟩ (.int .i64 u)).setCell ⟨b, 1, none⟩ (.int .i64 v)).cell? ⟨b, 0, none⟩ = some (.int .i64 u) ∧ ((W.setCell ⟨b, 0, none⟩ (.int .i64 u)).setCell ⟨b, 1, none⟩ (.int .i64 v)).cell? ⟨b, 1, none⟩ = some (.int .i64 v)) :=
  ⟨⟨h.c0, h.c1, h.fz 0, h.fz 1⟩, (h.set u v).c0, (h.set u v).c1⟩
theorem below_set {B : Nat} {w W : World} {b : Nat} (h : Below B w W) (hB : B ≤ b) (u v : Value) : Below B w ((W.setCell ⟨b, 0, none⟩ u).setCell ⟨b, 1, none⟩ v) :=
  (h.setCell (p := ⟨b, 0, none⟩) hB u).setCell (p := ⟨b, 1, none⟩) hB v

set_option maxRecDepth 100000 in
theorem lowest_c (t l : Int) (w : World) (ht : 0 ≤ t) (ht2 : t ≤ 9223372036854775807) (hl : 1 ≤ l) (hl2 : l ≤ 9223372036854775807) :
    Calls Try.prog 60 #[.agg #[.int .i64 t, .int .i64 l]] w (RetB (lowR t l).v w) := by
  obtain ⟨g, hg⟩ : ∃ g, gcdI t l = g := ⟨_, rfl⟩
  have hg1 := gcdI_pos (a := t) hl
  rw [hg] at hg1
  have Hg := Lib.hid hg
  clear hg
  go_enter Try.func60, Try.ntmps60
  go_wp2
  go_quiet (fail)
  go_wp2
  go_loopw [3, 4] (fun a b wr => ∃ x y : Int, a = .int .i64 x ∧ b = .int .i64 y ∧ 1 ≤ x ∧ 0 ≤ y ∧ x ≤ 9223372036854775807 ∧ y ≤ 9223372036854775807 ∧ gcdI x y = g ∧ Below w.heap.size w wr ∧ TwoAt 30 wr w.heap.size t l ∧ TwoAt 30 wr (w.heap.size + 1) 0 0) (fun _ b _ => (intOf b).toNat)
  case atStart =>
    refine ⟨l, t, rfl, rfl, hl, ht, hl2, ht2, by rw [gcdI_comm, Hg.out], below_drewN (((Below.refl _ _).alloc (Nat.le_refl _) _).alloc (by simp) _) _, ?_, ?_⟩
    · show ((w.alloc _).alloc _).heap[w.heap.size]? = _
      rw [Below.heap_alloc _ _ _ (by simp)]
      exact heap_alloc_new w _
    · exact heap_new2 w _ _
  case round =>
    obtain ⟨x, y, rfl, rfl, hx1, hy0, hx2, hy2, hxy, hb, h0, h1⟩ := hrel
    have Hxy := Lib.hid hxy
    have Hb := Lib.hid hb
    have c0 := h0.c0
    have c1 := h0.c1
    have d0 := h1.c0
    have d1 := h1.c1
    have f0 := h1.fz 0
    have f1 := h1.fz 1
    have H0 := Lib.hid h0
    have H1 := Lib.hid h1
    clear hxy hb h0 h1
    by_cases hy : y = 0
    · subst hy
      have hxg : x = g := by rw [← gcdI_zero (show 0 ≤ x by omega), Hxy.out]
      subst hxg
      have b1 := tdiv_bd ht hx1
      have b2 := tdiv_bd (show 0 ≤ l by omega) hx1
      have q1 : IntKind.i64.wrap (t.tdiv x) = t.tdiv x := IntWalk.i64_in _ (by omega)
      have q2 : IntKind.i64.wrap (l.tdiv x) = l.tdiv x := IntWalk.i64_in _ (by omega)
      have b3 : (x = 0) = False := by simp; omega
      have e : lowR t l = ⟨t.tdiv x, l.tdiv x⟩ := by unfold lowR; rw [Hg.out]
      have E := Lib.hid e
      clear e
      go_wp2
      go_still_tail 9, (by kernel_rfl)
      have hs := H1.out.set (t.tdiv x) (l.tdiv x)
      have e0 := hs.c0
      have e1 := hs.c1
      have hbs := (Hb.out.setCell (p := ⟨w.heap.size + 1, 0, none⟩) (by simp) (.int .i64 (t.tdiv x))).setCell (p := ⟨w.heap.size + 1, 1, none⟩) (by simp) (.int .i64 (l.tdiv x))
      have Hbs := Lib.hid hbs
      clear hs hbs
      go_wp2
      exact bodyPost_ret (v := .agg #[.int .i64 (t.tdiv x), .int .i64 (l.tdiv x)]) (by simp [results, Try.results60, go_sem, e0, e1]) rfl ⟨by rw [E.out]; rfl, Hbs.out.drew⟩
    · have b0 : (y != 0) = true := by simpa using hy
      have b1 := tmod_bd (show 0 ≤ x by omega) (show 1 ≤ y by omega)
      have q1 : IntKind.i64.wrap (x.tmod y) = x.tmod y := IntWalk.i64_in _ (by omega)
      go_wp2
      go_quiet (fail)
      clear q1
      go_wp2
      go_roundw
      case rel => exact ⟨y, x.tmod y, rfl, by rw [Int.tmod_eq_emod_of_nonneg (by omega)], by omega, b1.1, by omega, by omega, by rw [gcdI_step (by omega), Hxy.out], below_drewN Hb.out _, H0.out, H1.out⟩
      case measure =>
        rw [Int.tmod_eq_emod_of_nonneg (by omega)] at b1
        simp [intOf]; omega


def posR (t l : Int) : Bool := decide (0 ≤ t) && decide (1 ≤ l)
theorem posR_true {t l : Int} (h : posR t l = true) : 0 ≤ t ∧ 1 ≤ l := by simpa [posR] using h
theorem posR_false {t l : Int} (h : posR t l = false) : t < 0 ∨ l < 1 := by
  simp [posR] at h
  omega
set_option maxRecDepth 100000 in
theorem positive_c (t l : Int) (w : World) : Calls Try.prog 59 #[.agg #[.int .i64 t, .int .i64 l]] w (RetB (.bool (posR t l)) w) := by
  unfold posR
  by_cases h1 : 0 ≤ t <;> by_cases h2 : 1 ≤ l
  all_goals
    go_enter Try.func59, Try.ntmps59
    go_wp2
    go_ret
    exact ⟨by simp [h1, h2], (Below.refl _ _).alloc (Nat.le_refl _) _⟩

def smallR (t l : Int) : Bool := inB t 0 1000000 && inB l 1 1000000
theorem smallR_true {t l : Int} (h : smallR t l = true) : (0 ≤ t ∧ t ≤ 1000000) ∧ 1 ≤ l ∧ l ≤ 1000000 := by
  unfold smallR at h
  rw [Bool.and_eq_true, inB_true, inB_true] at h
  exact h
set_option maxRecDepth 100000 in
theorem plus_c (t l k : Int) (w : World) (h0 : 0 ≤ t) (h1 : t ≤ 1000000000) (h2 : 0 ≤ l) (h3 : l ≤ 1000000) (h4 : 0 ≤ k) (h5 : k ≤ 1000000) :
    Calls Try.prog 114 #[.agg #[.int .i64 t, .int .i64 l], .int .i64 k] w (RetB (.agg #[.int .i64 (t + k * l), .int .i64 l]) w) := by
  have p1 := prod_bd h4 h5 h2 h3
  have q1 : IntKind.i64.wrap (k * l) = k * l := IntWalk.i64_in _ (by omega)
  have q2 : IntKind.i64.wrap (t + k * l) = t + k * l := IntWalk.i64_in _ (by omega)
  clear h0 h1 h2 h3 h4 h5 p1
  go_enter Try.func114, Try.ntmps114
  go_wp2
  exact bodyPost_ret (v := .agg #[.int .i64 (t + k * l), .int .i64 l]) (by simp [results, Try.results114, go_sem]) rfl ⟨rfl, ((Below.refl _ _).alloc (Nat.le_refl _) _).alloc (by simp) _⟩

/-! ### what is measured earthed, in the program -/
set_option maxRecDepth 100000 in
theorem measureEarthed_c (r s f : Int) (w : World) (hr : 0 ≤ r) (hr2 : r ≤ 8000) (hs : 0 ≤ s) (hs2 : s ≤ 8000) (hf : 0 ≤ f) (hf2 : f ≤ 1000) :
    Calls Try.prog 76 #[.int .i64 r, .int .i64 s, .int .i64 f] w (RetB (earR r s f).v w) := by
  by_cases h0 : f + s = 0
  · rw [earR_zero h0]
    go_enter Try.func76, Try.ntmps76
    go_wp2
    exact bodyPost_ret (v := .agg #[.int .i64 r, .int .i64 1]) (by simp [results, Try.results76, go_sem]) rfl ⟨rfl, (Below.refl _ _).alloc (Nat.le_refl _) _⟩
  · have hm := prod_bd hf hf2 hs hs2
    have hl := lowR_bd hm.1 (show 1 ≤ f + s by omega)
    obtain ⟨⟨a, b⟩, hab⟩ : ∃ ab, lowR (f * s) (f + s) = ab := ⟨_, rfl⟩
    rw [hab] at hl
    dsimp only at hl
    have Hab := Lib.hid hab
    have b0 : ((f + s) == 0) = false := by simpa using h0
    have q1 : IntKind.i64.wrap (f * s) = f * s := IntWalk.i64_in _ (by omega)
    have HE := Lib.hid (show earR r s f = ⟨a + r * b, b⟩ by rw [earR_some h0, hab])
    clear hab
    have hw0 : TwoAt 30 (w.alloc (.cells #[.int .i64 0, .int .i64 0] 30)) w.heap.size 0 0 := heap_alloc_new w _
    have Hw0 := Lib.hid hw0
    clear hw0
    go_enter Try.func76, Try.ntmps76
    go_wp2_with fail
    refine (lowest_c (f * s) (f + s) _ (by omega) (by omega) (by omega) (by omega)).mono ?_
    rintro e w1 ⟨rfl, hb1⟩
    rw [Hab.out]
    dsimp only [Rat2.v]
    have Hb1 := Lib.hid hb1
    clear hb1
    go_wp2_with fail
    refine (plus_c a b r _ (by omega) (by omega) (by omega) (by omega) (by omega) (by omega)).mono ?_
    rintro e w2 ⟨rfl, hb2⟩
    rw [HE.out]
    dsimp only [Rat2.v]
    have s1 := Hb1.out.size
    simp only [World.size_alloc] at s1
    have h2 : TwoAt 30 w2 w.heap.size 0 0 := (hb2.block _ (by omega)).trans ((Hb1.out.block _ (by simp)).trans Hw0.out)
    have hb := below_step (((Below.refl w.heap.size w).alloc (Nat.le_refl _) _).trans (Hb1.out.mono (by simp))) hb2
    obtain ⟨⟨c0, c1, f0, f1⟩, e0, e1⟩ := h2.all (a + r * b) b
    have Hs := Lib.hid (below_set hb (Nat.le_refl _) (.int .i64 (a + r * b)) (.int .i64 b))
    clear hb h2 hb2
    go_wp2
    exact bodyPost_ret (v := .agg #[.int .i64 (a + r * b), .int .i64 b]) (by simp [results, Try.results76, go_sem, e0, e1]) rfl ⟨by rw [HE.out]; rfl, Hs.out⟩

/-! ### RatioOf -/
def ratioV (t l : Int) : Value := if posR t l then .tuple #[(lowR t l).v, .bool true] else .tuple #[.agg #[.int .i64 0, .int .i64 0], .bool false]
theorem ratioV_no {t l : Int} (h : posR t l = false) : ratioV t l = .tuple #[.agg #[.int .i64 0, .int .i64 0], .bool false] := by unfold ratioV; rw [h]; rfl
theorem ratioV_yes {t l : Int} (h : posR t l = true) : ratioV t l = .tuple #[(lowR t l).v, .bool true] := by unfold ratioV; rw [h]; rfl

set_option maxRecDepth 100000 in
theorem implRatioOf_b (t l : Int) (w : World) (ht : t ≤ 9223372036854775807) (hl : l ≤ 9223372036854775807) :
    Calls Try.prog 16 #[.int .i64 t, .int .i64 l] w (RetB (ratioV t l) w) := by
  obtain ⟨w0, hw0⟩ : ∃ w0, (w.alloc (.cells #[.int .i64 0, .int .i64 0] 30)).alloc (.cells #[.int .i64 t, .int .i64 l] 30) = w0 := ⟨_, rfl⟩
  have hr : TwoAt 30 w0 w.heap.size 0 0 := by rw [← hw0]; exact (TwoAt.new _ w 0 0).old _
  have hr1 : TwoAt 30 w0 (w.heap.size + 1) t l := by rw [← hw0]; exact TwoAt.new1 _ w _ t l
  have hb : Below w.heap.size w w0 := by rw [← hw0]; exact ((Below.refl _ _).alloc (Nat.le_refl _) _).alloc (by simp) _
  have hs : w0.heap.size = w.heap.size + 2 := by rw [← hw0]; simp
  have Hw0 := Lib.hid hw0
  have Hr := Lib.hid hr
  have Hr1 := Lib.hid hr1
  have Hb := Lib.hid hb
  have d0 := hr1.c0
  have d1 := hr1.c1
  clear hw0 hr hb hr1
  cases hp : posR t l
  · have Hv := Lib.hid (ratioV_no hp)
    have Hp := Lib.hid hp
    clear hp
    go_enter Try.func16, Try.ntmps16
    go_wp2_with fail
    rw [Hw0.out]
    refine (positive_c t l _).mono ?_
    rintro e w1 ⟨rfl, hb1⟩
    rw [Hp.out]
    obtain ⟨⟨c0, c1, f0, f1⟩, e0, e1⟩ := (Hr.out.below hb1 (by omega)).all 0 0
    have Hs := Lib.hid (below_set (below_step Hb.out hb1) (Nat.le_refl _) (.int .i64 0) (.int .i64 0))
    clear hb1
    go_wp2
    exact bodyPost_ret (v := .tuple #[.agg #[.int .i64 0, .int .i64 0], .bool false]) (by simp [results, Try.results16, go_sem, e0, e1]) rfl ⟨by rw [Hv.out], Hs.out⟩
  · have hp2 := posR_true hp
    have Hv := Lib.hid (ratioV_yes hp)
    have Hp := Lib.hid hp
    obtain ⟨⟨a, b⟩, hab⟩ : ∃ ab, lowR t l = ab := ⟨_, rfl⟩
    have Hab := Lib.hid hab
    clear hp hab
    go_enter Try.func16, Try.ntmps16
    go_wp2_with fail
    rw [Hw0.out]
    refine (positive_c t l _).mono ?_
    rintro e w1 ⟨rfl, hb1⟩
    rw [Hp.out]
    have k0 := (Hr1.out.below hb1 (by omega)).c0
    have k1 := (Hr1.out.below hb1 (by omega)).c1
    have Hb1 := Lib.hid hb1
    clear hb1
    go_wp2_with fail
    refine (lowest_c t l _ (by omega) ht (by omega) hl).mono ?_
    rintro e w2 ⟨rfl, hb2⟩
    rw [Hab.out]
    dsimp only [Rat2.v]
    have s1 := Hb1.out.size
    obtain ⟨⟨c0, c1, f0, f1⟩, e0, e1⟩ := ((Hr.out.below Hb1.out (by omega)).below hb2 (by omega)).all a b
    have Hs := Lib.hid (below_set (below_step (below_step Hb.out Hb1.out) hb2) (Nat.le_refl _) (.int .i64 a) (.int .i64 b))
    clear hb2
    go_wp2
    exact bodyPost_ret (v := .tuple #[.agg #[.int .i64 a, .int .i64 b], .bool true]) (by simp [results, Try.results16, go_sem, e0, e1]) rfl ⟨by rw [Hv.out, Hab.out]; rfl, Hs.out⟩

set_option maxRecDepth 100000 in
theorem specRatioOf_b (t l : Int) (w : World) (ht : t ≤ 9223372036854775807) (hl : l ≤ 9223372036854775807) :
    Calls Try.prog 17 #[.int .i64 t, .int .i64 l] w (RetB (ratioV t l) w) := by
  cases hp : posR t l
  · rw [ratioV_no hp]
    have hp2 := posR_false hp
    clear hp
    by_cases h0 : t < 0
    · go_enter Try.func17, Try.ntmps17
      go_wp2
      exact bodyPost_ret (v := .tuple #[.agg #[.int .i64 0, .int .i64 0], .bool false]) (by simp [results, Try.results17, go_sem]) rfl ⟨rfl, (Below.refl _ _).alloc (Nat.le_refl _) _⟩
    · have h1 : l < 1 := by omega
      go_enter Try.func17, Try.ntmps17
      go_wp2
      exact bodyPost_ret (v := .tuple #[.agg #[.int .i64 0, .int .i64 0], .bool false]) (by simp [results, Try.results17, go_sem]) rfl ⟨rfl, (Below.refl _ _).alloc (Nat.le_refl _) _⟩
  · have hp2 := posR_true hp
    rw [ratioV_yes hp]
    obtain ⟨ht0, hl0⟩ := hp2
    clear hp
    obtain ⟨g, hg⟩ : ∃ g, gcdI t l = g := ⟨_, rfl⟩
    have hg1 := gcdI_pos (a := t) hl0
    rw [hg] at hg1
    have Hg := Lib.hid hg
    clear hg
    go_enter Try.func17, Try.ntmps17
    go_wp2
    go_loopw [6, 7] (fun a b wr => ∃ x y : Int, a = .int .i64 x ∧ b = .int .i64 y ∧ 0 ≤ x ∧ 0 ≤ y ∧ 1 ≤ x + y ∧ x ≤ 9223372036854775807 ∧ y ≤ 9223372036854775807 ∧ gcdI x y = g ∧ Below w.heap.size w wr ∧ TwoAt 30 wr w.heap.size 0 0) (fun _ b _ => (intOf b).toNat)
    case atStart => exact ⟨t, l, rfl, rfl, ht0, by omega, by omega, ht, hl, Hg.out, (Below.refl _ _).alloc (Nat.le_refl _) _, TwoAt.new _ w 0 0⟩
    case round =>
      obtain ⟨x, y, rfl, rfl, hx0, hy0, hxy1, hx2, hy2, hxy, hb, h0⟩ := hrel
      have Hxy := Lib.hid hxy
      have Hb := Lib.hid hb
      have H0 := Lib.hid h0
      clear hxy hb h0
      by_cases hy : y = 0
      · subst hy
        have hxg : x = g := by rw [← gcdI_zero (show 0 ≤ x by omega), Hxy.out]
        subst hxg
        have b1 := tdiv_bd ht0 hg1
        have b2 := tdiv_bd (show 0 ≤ l by omega) hg1
        have q1 : IntKind.i64.wrap (t.tdiv x) = t.tdiv x := IntWalk.i64_in _ (by omega)
        have q2 : IntKind.i64.wrap (l.tdiv x) = l.tdiv x := IntWalk.i64_in _ (by omega)
        have b3 : (x = 0) = False := by simp; omega
        have e : lowR t l = ⟨t.tdiv x, l.tdiv x⟩ := by unfold lowR; rw [Hg.out]
        have E := Lib.hid e
        clear e
        obtain ⟨⟨c0, c1, f0, f1⟩, e0, e1⟩ := H0.out.all (t.tdiv x) (l.tdiv x)
        have Hs := Lib.hid (below_set Hb.out (Nat.le_refl _) (.int .i64 (t.tdiv x)) (.int .i64 (l.tdiv x)))
        go_wp2
        go_still_tail 7, (by kernel_rfl)
        go_wp2
        exact bodyPost_ret (v := .tuple #[.agg #[.int .i64 (t.tdiv x), .int .i64 (l.tdiv x)], .bool true]) (by simp [results, Try.results17, go_sem, e0, e1]) rfl ⟨by rw [E.out]; rfl, Hs.out.drew⟩
      · have b0 : (y != 0) = true := by simpa using hy
        have b1 := tmod_bd hx0 (show 1 ≤ y by omega)
        rw [Int.tmod_eq_emod_of_nonneg hx0] at b1
        go_wp2
        go_roundw
        case rel => exact ⟨y, x % y, rfl, rfl, hy0, b1.1, by omega, by omega, by omega, by rw [← Int.tmod_eq_emod_of_nonneg hx0, gcdI_step hx0, Hxy.out], Hb.out, H0.out⟩
        case measure => simp [intOf]; omega

end Go.Proofs.Ytodboccadccpfaa
