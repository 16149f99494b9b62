/-
  Plain mathematics: a cable counted from its other end.
-/
import Derived.Test.YtodboccadccpfaaFltP
import Derived.Test.YtodboccadccpfaaEach
namespace Go.Proofs.Ytodboccadccpfaa

theorem milesL_reverse (ss : List Sec) : milesL ss.reverse = milesL ss := by
  induction ss with
  | nil => rfl
  | cons s r ih => rw [List.reverse_cons, milesL_snoc, ih, milesL_cons]; omega
theorem ohmsL_reverse (ss : List Sec) : ohmsL ss.reverse = ohmsL ss := by
  induction ss with
  | nil => rfl
  | cons s r ih => rw [List.reverse_cons, ohmsL_snoc, ih, ohmsL_cons]; omega
theorem small_reverse {B : Int} {ss : List Sec} (h : small B ss) : small B ss.reverse := fun s hs => h s (List.mem_reverse.1 hs)
theorem ohmsTo_reverse {ss : List Sec} (h : small 50 ss) : ∀ m, 0 ≤ m → m ≤ milesL ss → ohmsTo ss.reverse (milesL ss - m) = ohmsL ss - ohmsTo ss m := by
  induction ss with
  | nil => intro m _ _; rfl
  | cons s r ih =>
    intro m h0 h1
    have hs := h.head
    have hr := small_reverse h.tail
    have hm := milesL_bd h.tail
    have hall : small 50 (r.reverse ++ [s]) := by rw [← List.reverse_cons]; exact small_reverse h
    rw [milesL_cons] at h1 ⊢
    rw [List.reverse_cons, ohmsTo_snoc hall (by omega), ohmsL_cons, ohmsTo]
    unfold restTo
    rw [milesL_reverse]
    by_cases hc : m ≤ s.m
    · rw [ohmsTo_ge hr _ (by rw [milesL_reverse]; omega), ohmsL_reverse, show min m s.m = m by omega, show m - m = 0 by omega, ohmsTo_zero r h.tail,
        show min (max 0 (s.m + milesL r - m - milesL r)) s.m = s.m - m by omega, Int.sub_mul]
      omega
    · have := ih h.tail (m - s.m) (by omega) (by omega)
      rw [show milesL r - (m - s.m) = s.m + milesL r - m by omega] at this
      rw [this, show min m s.m = s.m by omega, show min (max 0 (s.m + milesL r - m - milesL r)) s.m = 0 by omega]
      omega
/-- the fault as it is counted from the other end -/
def bk (ss : List Sec) (f : Flt) : Flt := ⟨milesL ss - f.m, f.o⟩
theorem cab_reverse (ss : List Sec) : cabB ss.reverse = cabB ss := by
  unfold cabB allOk
  rw [List.length_reverse, List.all_reverse]
theorem bk_valid {ss : List Sec} {f : Flt} (h : faultB ss f = true) : faultB ss.reverse (bk ss f) = true := by
  obtain ⟨hc, hm, ho⟩ := faultB_true h
  refine faultB_yes (inB_true.2 ?_) (inB_true.2 ho)
  rw [milesI_yes (by rw [cab_reverse]; exact hc), milesL_reverse]
  unfold bk
  dsimp only
  omega
theorem bk_sides {ss : List Sec} {f : Flt} (h : faultB ss f = true) : upL ss.reverse (bk ss f) = restL ss f ∧ restL ss.reverse (bk ss f) = upL ss f := by
  obtain ⟨hc, hm, ho⟩ := faultB_true h
  have h1 := ohmsTo_reverse (cab_small hc) f.m hm.1 hm.2
  unfold upL restL bk
  dsimp only
  rw [ohmsL_reverse, h1]
  omega
theorem bk_bk {ss : List Sec} (f : Flt) : bk ss.reverse (bk ss f) = f := by
  unfold bk
  rw [milesL_reverse]
  apply Flt.ext_
  · dsimp only; omega
  · rfl

end Go.Proofs.Ytodboccadccpfaa
