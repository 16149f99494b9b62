/-
  Plain mathematics: the miles of a break's range are those between its ends; a wider end resistance gives a wider range.
-/
import Derived.Test.YtgnemkflojohdaaFltN
namespace Go.Proofs.Ytgnemkflojohdaa

theorem rgTo_ends {r : Nat → Int} {a e : Int} : ∀ {n : Nat} {x : Nat × Nat}, rgTo r a e n = some x → inB (a - r x.1) 0 e = true ∧ inB (a - r x.2) 0 e = true := by
  intro n
  induction n with
  | zero => intro x h; cases h
  | succ n ih =>
    intro x h
    cases hin : inB (a - r n) 0 e
    · rw [rgTo_no hin] at h
      exact ih h
    · rw [rgTo_yes hin] at h
      cases ho : rgTo r a e n with
      | none => rw [ho] at h; cases h; exact ⟨hin, hin⟩
      | some y => rw [ho] at h; cases h; exact ⟨(ih ho).1, hin⟩

theorem rg_iff {ss : List Sec} (hc : cabB ss = true) {a e : Int} {x : Nat × Nat} (h : rgTo (rN ss) a e (mN ss + 1) = some x) {k : Nat} (hk : k ≤ mN ss) :
    inB (a - rN ss k) 0 e = true ↔ x.1 ≤ k ∧ k ≤ x.2 := by
  constructor
  · intro hi
    obtain ⟨y, hy, h1, h2⟩ := rgTo_mem hi (mN ss + 1) (by omega)
    rw [h] at hy
    cases hy
    exact ⟨h1, h2⟩
  · rintro ⟨h1, h2⟩
    have he := rgTo_ends h
    have hb := rgTo_bd h
    have e1 := inB_true.1 he.1
    have e2 := inB_true.1 he.2
    have m1 := rN_mono hc h1 hk
    have m2 := rN_mono hc h2 (by omega)
    exact inB_true.2 (by omega)

theorem rg_wider {r : Nat → Int} {a e : Int} {n : Nat} {x : Nat × Nat} (h : rgTo r a e n = some x) :
    ∃ y, rgTo r a (e + 1) n = some y ∧ y.1 ≤ x.1 ∧ x.2 ≤ y.2 := by
  have he := rgTo_ends h
  have hb := rgTo_bd h
  have e1 := inB_true.1 he.1
  have e2 := inB_true.1 he.2
  obtain ⟨y, hy, h1, _⟩ := rgTo_mem (r := r) (a := a) (e := e + 1) (k := x.1) (inB_true.2 (by omega)) n hb.1
  obtain ⟨z, hz, _, h2⟩ := rgTo_mem (r := r) (a := a) (e := e + 1) (k := x.2) (inB_true.2 (by omega)) n hb.2
  rw [hy] at hz
  cases hz
  exact ⟨y, hy, h1, h2⟩

end Go.Proofs.Ytgnemkflojohdaa
