/-
  What the model measures earthed; RatioLess of both.
-/
import Derived.Test.YtodboccadccpfaaRatio
namespace Go.Proofs.Ytodboccadccpfaa
open Go.RowKit

set_option maxRecDepth 100000 in
theorem l3Earthed_c (r s f : Int) (w : World) (hr : 0 ≤ r) (hr2 : r ≤ 8000) (hs : 0 ≤ s) (hs2 : s ≤ 8000) (hf : 0 ≤ f) (hf2 : f ≤ 1000) :
    Calls Try.prog 113 #[.int .i64 r, .int .i64 s, .int .i64 f] w (RetB (earR r s f).v w) := by
  by_cases h0 : f + s = 0
  · rw [earR_zero h0]
    go_enter Try.func113, Try.ntmps113
    go_wp2
    exact bodyPost_ret (v := .agg #[.int .i64 r, .int .i64 1]) (by simp [results, Try.results113, go_sem]) rfl ⟨rfl, (Below.refl _ _).alloc (Nat.le_refl _) _⟩
  · have hm := prod_bd hf hf2 hs hs2
    have hm2 := prod_bd hr hr2 (show 0 ≤ f + s by omega) (show f + s ≤ 9000 by omega)
    have hp : posR (r * (f + s) + f * s) (f + s) = true := by unfold posR; simp; omega
    obtain ⟨⟨a, b⟩, hab⟩ : ∃ ab, lowR (r * (f + s) + f * s) (f + s) = ab := ⟨_, rfl⟩
    have HE := Lib.hid (show earR r s f = ⟨a, b⟩ by rw [earR_low hr hs hf h0, hab])
    have HV := Lib.hid (show ratioV (r * (f + s) + f * s) (f + s) = .tuple #[.agg #[.int .i64 a, .int .i64 b], .bool true] by rw [ratioV_yes hp, hab]; rfl)
    have b0 : ((f + s) == 0) = false := by simpa using h0
    have q1 : IntKind.i64.wrap (f * s) = f * s := IntWalk.i64_in _ (by omega)
    have q2 : IntKind.i64.wrap (r * (f + s)) = r * (f + s) := IntWalk.i64_in _ (by omega)
    have q3 : IntKind.i64.wrap (r * (f + s) + f * s) = r * (f + s) + f * s := IntWalk.i64_in _ (by omega)
    have Hw0 := Lib.hid (TwoAt.new 30 w 0 0)
    clear hp hab
    go_enter Try.func113, Try.ntmps113
    go_wp2_with fail
    refine (specRatioOf_b (r * (f + s) + f * s) (f + s) _ (by omega) (by omega)).mono ?_
    rintro e w1 ⟨rfl, hb1⟩
    rw [HV.out]
    have s1 := hb1.size
    simp only [World.size_alloc] at s1
    have h1 := (Hw0.out.below hb1 (by simp)).old (.cells #[.int .i64 a, .int .i64 b] 30)
    have hb := (((Below.refl w.heap.size w).alloc (Nat.le_refl _) _).trans (hb1.mono (by simp))).alloc (by omega) (.cells #[.int .i64 a, .int .i64 b] 30)
    have k0 := (TwoAt.new 30 w1 a b).c0
    have k1 := (TwoAt.new 30 w1 a b).c1
    obtain ⟨⟨c0, c1, f0, f1⟩, e0, e1⟩ := h1.all a b
    have Hs := Lib.hid (below_set hb (Nat.le_refl _) (.int .i64 a) (.int .i64 b))
    clear hb h1 hb1
    go_wp2
    exact bodyPost_ret (v := .agg #[.int .i64 a, .int .i64 b]) (by simp [results, Try.results113, go_sem, e0, e1]) rfl ⟨by rw [HE.out]; rfl, Hs.out⟩

/-! ### RatioLess -/
def lessR (t l t2 l2 : Int) : Bool := smallR t l && smallR t2 l2 && decide (t * l2 < t2 * l)
theorem lessR_no1 {t l t2 l2 : Int} (h : smallR t l = false) : lessR t l t2 l2 = false := by unfold lessR; rw [h]; rfl
theorem lessR_no2 {t l t2 l2 : Int} (h : smallR t2 l2 = false) : lessR t l t2 l2 = false := by unfold lessR; rw [h]; simp
theorem lessR_yes {t l t2 l2 : Int} (h : smallR t l = true) (h2 : smallR t2 l2 = true) : lessR t l t2 l2 = decide (t * l2 < t2 * l) := by unfold lessR; rw [h, h2]; rfl

theorem smallR_not {t l : Int} (h : inB t 0 1000000 = false ∨ inB l 1 1000000 = false) : smallR t l = false := by
  unfold smallR
  rcases h with h | h
  · rw [h]; rfl
  · rw [h]; simp

end Go.Proofs.Ytodboccadccpfaa
