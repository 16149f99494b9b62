/-
  What the model measures earthed; RatioLess of both.
-/
import Derived.Test.YtgnemkflojohdaaRatio
namespace Go.Proofs.Ytgnemkflojohdaa
open Go.RowKit

theorem l3Earthed_c (r s f : Int) (w : World) (hr : 0 ≤ r) (hr2 : r ≤ 8000) (hs : 0 ≤ s) (hs2 : s ≤ 8000) (hf : 0 ≤ f) (hf2 : f ≤ 1000) :
    Calls Try.prog 62 #[.int .i64 r, .int .i64 s, .int .i64 f] w (RetB (earR r s f).v w) := by
  by_cases h0 : f + s = 0
  · rw [earR_zero h0]
    go_enter Try.func62, Try.ntmps62
    go_wp2
    exact bodyPost_ret (v := .agg #[.int .i64 r, .int .i64 1]) (by simp [results, Try.results62, go_sem]) rfl ⟨rfl, (Below.refl _ _).alloc (Nat.le_refl _) _⟩
  · have hm := prod_bd hf hf2 hs hs2
    have hm2 := prod_bd hr hr2 (show 0 ≤ f + s by omega) (show f + s ≤ 9000 by omega)
    have hp : posR (r * (f + s) + f * s) (f + s) = true := by unfold posR; simp; omega
    obtain ⟨⟨a, b⟩, hab⟩ : ∃ ab, lowR (r * (f + s) + f * s) (f + s) = ab := ⟨_, rfl⟩
    have HE := Lib.hid (show earR r s f = ⟨a, b⟩ by rw [earR_low hr hs hf h0, hab])
    have HV := Lib.hid (show ratioV (r * (f + s) + f * s) (f + s) = .tuple #[.agg #[.int .i64 a, .int .i64 b], .bool true] by rw [ratioV_yes hp, hab]; rfl)
    have b0 : ((f + s) == 0) = false := by simpa using h0
    have q1 : IntKind.i64.wrap (f * s) = f * s := IntWalk.i64_in _ (by omega)
    have q2 : IntKind.i64.wrap (r * (f + s)) = r * (f + s) := IntWalk.i64_in _ (by omega)
    have q3 : IntKind.i64.wrap (r * (f + s) + f * s) = r * (f + s) + f * s := IntWalk.i64_in _ (by omega)
    have Hw0 := Lib.hid (TwoAt.new 29 w 0 0)
    clear hp hab
    go_enter Try.func62, Try.ntmps62
    go_wp2_with fail
    refine (specRatioOf_b (r * (f + s) + f * s) (f + s) _ (by omega) (by omega)).mono ?_
    rintro e w1 ⟨rfl, hb1⟩
    rw [HV.out]
    have s1 := hb1.size
    simp only [World.size_alloc] at s1
    have h1 := (Hw0.out.below hb1 (by simp)).old (.cells #[.int .i64 a, .int .i64 b] 29)
    have hb := (((Below.refl w.heap.size w).alloc (Nat.le_refl _) _).trans (hb1.mono (by simp))).alloc (by omega) (.cells #[.int .i64 a, .int .i64 b] 29)
    have k0 := (TwoAt.new 29 w1 a b).c0
    have k1 := (TwoAt.new 29 w1 a b).c1
    obtain ⟨⟨c0, c1, f0, f1⟩, e0, e1⟩ := h1.all a b
    have Hs := Lib.hid (below_set hb (Nat.le_refl _) (.int .i64 a) (.int .i64 b))
    clear hb h1 hb1
    go_wp2
    exact bodyPost_ret (v := .agg #[.int .i64 a, .int .i64 b]) (by simp [results, Try.results62, go_sem, e0, e1]) rfl ⟨by rw [HE.out]; rfl, Hs.out⟩

/-! ### RatioLess -/
def lessR (t l t2 l2 : Int) : Bool := smallR t l && smallR t2 l2 && decide (t * l2 < t2 * l)
theorem lessR_no1 {t l t2 l2 : Int} (h : smallR t l = false) : lessR t l t2 l2 = false := by unfold lessR; rw [h]; rfl
theorem lessR_no2 {t l t2 l2 : Int} (h : smallR t2 l2 = false) : lessR t l t2 l2 = false := by unfold lessR; rw [h]; simp
theorem lessR_yes {t l t2 l2 : Int} (h : smallR t l = true) (h2 : smallR t2 l2 = true) : lessR t l t2 l2 = decide (t * l2 < t2 * l) := by unfold lessR; rw [h, h2]; rfl

theorem implRatioLess_b (t l t2 l2 : Int) (w : World) :
    Calls Try.prog 50 #[.agg #[.int .i64 t, .int .i64 l], .agg #[.int .i64 t2, .int .i64 l2]] w (RetB (.bool (lessR t l t2 l2)) w) := by
  obtain ⟨w0, hw0⟩ : ∃ w0, (w.alloc (.cells #[.int .i64 t, .int .i64 l] 29)).alloc (.cells #[.int .i64 t2, .int .i64 l2] 29) = w0 := ⟨_, rfl⟩
  have hr : TwoAt 29 w0 w.heap.size t l := by rw [← hw0]; exact (TwoAt.new _ w t l).old _
  have hr1 : TwoAt 29 w0 (w.heap.size + 1) t2 l2 := by rw [← hw0]; exact TwoAt.new1 _ w _ t2 l2
  have hb : Below w.heap.size w w0 := by rw [← hw0]; exact ((Below.refl _ _).alloc (Nat.le_refl _) _).alloc (by simp) _
  have hs : w0.heap.size = w.heap.size + 2 := by rw [← hw0]; simp
  have Hw0 := Lib.hid hw0
  have Hr := Lib.hid hr
  have Hr1 := Lib.hid hr1
  have Hb := Lib.hid hb
  have c0 := hr.c0
  have c1 := hr.c1
  clear hw0 hr hb hr1
  cases hp : smallR t l
  · have Hv := Lib.hid (lessR_no1 (t2 := t2) (l2 := l2) hp)
    have Hp := Lib.hid hp
    clear hp
    go_enter Try.func50, Try.ntmps50
    go_wp2_with fail
    rw [Hw0.out]
    refine (small_c t l _).mono ?_
    rintro e w1 ⟨rfl, hb1⟩
    rw [Hp.out]
    have Hb1 := Lib.hid (below_step Hb.out hb1)
    clear hb1
    go_wp2
    go_ret
    exact ⟨by rw [Hv.out]; rfl, Hb1.out⟩
  have Hp := Lib.hid hp
  clear hp
  cases hq : smallR t2 l2
  · have Hv := Lib.hid (lessR_no2 (t := t) (l := l) hq)
    have Hq := Lib.hid hq
    clear hq
    go_enter Try.func50, Try.ntmps50
    go_wp2_with fail
    rw [Hw0.out]
    refine (small_c t l _).mono ?_
    rintro e w1 ⟨rfl, hb1⟩
    rw [Hp.out]
    have Hb1 := Lib.hid (below_step Hb.out hb1)
    have k0 := (Hr1.out.below hb1 (by omega)).c0
    have k1 := (Hr1.out.below hb1 (by omega)).c1
    clear hb1
    go_wp2_with fail
    refine (small_c t2 l2 _).mono ?_
    rintro e w2 ⟨rfl, hb2⟩
    rw [Hq.out]
    have Hb2 := Lib.hid (below_step Hb1.out hb2)
    clear hb2
    go_wp2
    go_ret
    exact ⟨by rw [Hv.out]; rfl, Hb2.out⟩
  · have Hv := Lib.hid (lessR_yes Hp.out hq)
    have Hq := Lib.hid hq
    clear hq
    go_enter Try.func50, Try.ntmps50
    go_wp2_with fail
    rw [Hw0.out]
    refine (small_c t l _).mono ?_
    rintro e w1 ⟨rfl, hb1⟩
    rw [Hp.out]
    have s1 := hb1.size
    have Hb1 := Lib.hid (below_step Hb.out hb1)
    have hk := Hr.out.below hb1 (by omega)
    have hk1 := Hr1.out.below hb1 (by omega)
    have Hk := Lib.hid hk
    have Hk1 := Lib.hid hk1
    have k0 := hk1.c0
    have k1 := hk1.c1
    clear hb1 hk hk1
    go_wp2_with fail
    refine (small_c t2 l2 _).mono ?_
    rintro e w2 ⟨rfl, hb2⟩
    rw [Hq.out]
    have Hb2 := Lib.hid (below_step Hb1.out hb2)
    have m0 := (Hk.out.below hb2 (by omega)).c0
    have m1 := (Hk.out.below hb2 (by omega)).c1
    have n0 := (Hk1.out.below hb2 (by omega)).c0
    have n1 := (Hk1.out.below hb2 (by omega)).c1
    clear hb2
    go_wp2_with fail
    refine (less_c t l t2 l2 _ Hp.out Hq.out).mono ?_
    rintro e w3 ⟨rfl, hb3⟩
    have Hb3 := Lib.hid (below_step Hb2.out hb3)
    clear hb3
    go_wp2
    go_ret
    exact ⟨by rw [Hv.out]; rfl, Hb3.out⟩

theorem smallR_not {t l : Int} (h : inB t 0 1000000 = false ∨ inB l 1 1000000 = false) : smallR t l = false := by
  unfold smallR
  rcases h with h | h
  · rw [h]; rfl
  · rw [h]; simp

theorem specRatioLess_b (t l t2 l2 : Int) (w : World) :
    Calls Try.prog 51 #[.agg #[.int .i64 t, .int .i64 l], .agg #[.int .i64 t2, .int .i64 l2]] w (RetB (.bool (lessR t l t2 l2)) w) := by
  have hb : Below w.heap.size w ((w.alloc (.cells #[.int .i64 t, .int .i64 l] 29)).alloc (.cells #[.int .i64 t2, .int .i64 l2] 29)) := ((Below.refl _ _).alloc (Nat.le_refl _) _).alloc (by simp) _
  have Hb := Lib.hid hb
  clear hb
  cases h1 : inB t 0 1000000
  · have Hv := Lib.hid (lessR_no1 (t2 := t2) (l2 := l2) (smallR_not (l := l) (.inl h1)))
    have H1 := Lib.hid h1
    clear h1
    go_enter Try.func51, Try.ntmps51
    go_wp2_with fail
    refine (l6In_c _ _ _ _).mono ?_
    rintro e w1 ⟨rfl, rfl⟩
    rw [H1.out]
    go_wp2
    go_ret
    exact ⟨by rw [Hv.out]; rfl, Hb.out⟩
  have H1 := Lib.hid h1
  cases h2 : inB t2 0 1000000
  · have Hv := Lib.hid (lessR_no2 (t := t) (l := l) (smallR_not (l := l2) (.inl h2)))
    have H2 := Lib.hid h2
    clear h2 h1
    go_enter Try.func51, Try.ntmps51
    go_wp2_with fail
    refine (l6In_c _ _ _ _).mono ?_
    rintro e w1 ⟨rfl, rfl⟩
    rw [H1.out]
    go_wp2_with fail
    refine (l6In_c _ _ _ _).mono ?_
    rintro e w1 ⟨rfl, rfl⟩
    rw [H2.out]
    go_wp2
    go_ret
    exact ⟨by rw [Hv.out]; rfl, Hb.out⟩
  have H2 := Lib.hid h2
  cases h3 : inB l 1 1000000
  · have Hv := Lib.hid (lessR_no1 (t2 := t2) (l2 := l2) (smallR_not (t := t) (.inr h3)))
    have H3 := Lib.hid h3
    clear h3 h2 h1
    go_enter Try.func51, Try.ntmps51
    go_wp2_with fail
    refine (l6In_c _ _ _ _).mono ?_
    rintro e w1 ⟨rfl, rfl⟩
    rw [H1.out]
    go_wp2_with fail
    refine (l6In_c _ _ _ _).mono ?_
    rintro e w1 ⟨rfl, rfl⟩
    rw [H2.out]
    go_wp2_with fail
    refine (l6In_c _ _ _ _).mono ?_
    rintro e w1 ⟨rfl, rfl⟩
    rw [H3.out]
    go_wp2
    go_ret
    exact ⟨by rw [Hv.out]; rfl, Hb.out⟩
  have H3 := Lib.hid h3
  cases h4 : inB l2 1 1000000
  · have Hv := Lib.hid (lessR_no2 (t := t) (l := l) (smallR_not (t := t2) (.inr h4)))
    have H4 := Lib.hid h4
    clear h4 h3 h2 h1
    go_enter Try.func51, Try.ntmps51
    go_wp2_with fail
    refine (l6In_c _ _ _ _).mono ?_
    rintro e w1 ⟨rfl, rfl⟩
    rw [H1.out]
    go_wp2_with fail
    refine (l6In_c _ _ _ _).mono ?_
    rintro e w1 ⟨rfl, rfl⟩
    rw [H2.out]
    go_wp2_with fail
    refine (l6In_c _ _ _ _).mono ?_
    rintro e w1 ⟨rfl, rfl⟩
    rw [H3.out]
    go_wp2_with fail
    refine (l6In_c _ _ _ _).mono ?_
    rintro e w1 ⟨rfl, rfl⟩
    rw [H4.out]
    go_wp2
    go_ret
    exact ⟨by rw [Hv.out]; rfl, Hb.out⟩
  · have H4 := Lib.hid h4
    have s1 : smallR t l = true := by unfold smallR; rw [h1, h3]; rfl
    have s2 : smallR t2 l2 = true := by unfold smallR; rw [h2, h4]; rfl
    have Hv := Lib.hid (lessR_yes s1 s2)
    have r1 := smallR_true s1
    have r2 := smallR_true s2
    have p1 := prod_bd r1.1.1 r1.1.2 (show 0 ≤ l2 by omega) r2.2.2
    have p2 := prod_bd r2.1.1 r2.1.2 (show 0 ≤ l by omega) r1.2.2
    have q1 : IntKind.i64.wrap (t * l2) = t * l2 := IntWalk.i64_in _ (by omega)
    have q2 : IntKind.i64.wrap (t2 * l) = t2 * l := IntWalk.i64_in _ (by omega)
    clear h1 h2 h3 h4 s1 s2 r1 r2 p1 p2
    go_enter Try.func51, Try.ntmps51
    go_wp2_with fail
    refine (l6In_c _ _ _ _).mono ?_
    rintro e w1 ⟨rfl, rfl⟩
    rw [H1.out]
    go_wp2_with fail
    refine (l6In_c _ _ _ _).mono ?_
    rintro e w1 ⟨rfl, rfl⟩
    rw [H2.out]
    go_wp2_with fail
    refine (l6In_c _ _ _ _).mono ?_
    rintro e w1 ⟨rfl, rfl⟩
    rw [H3.out]
    go_wp2_with fail
    refine (l6In_c _ _ _ _).mono ?_
    rintro e w1 ⟨rfl, rfl⟩
    rw [H4.out]
    go_wp2
    go_ret
    exact ⟨by rw [Hv.out]; rfl, Hb.out⟩

end Go.Proofs.Ytgnemkflojohdaa
