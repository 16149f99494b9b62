/-
  Plain mathematics: a balance has one fault; breaks; lesser faults.
-/
import Derived.Test.YtodboccadccpfaaRevM
import Derived.Test.YtodboccadccpfaaFltF
import Derived.Test.YtodboccadccpfaaBreakM
import Derived.Test.YtodboccadccpfaaFindM
namespace Go.Proofs.Ytodboccadccpfaa

theorem rN_strict {ss : List Sec} (hc : cabB ss = true) {j k : Nat} (hjk : j < k) (hk : k ≤ mN ss) : rN ss j < rN ss k := by
  have h8 := (mN_bd hc 0).2.2
  have h1 := ohmsTo_step (cabB_true.1 hc).2 (j : Int) (by omega) (by omega)
  have h2 := rN_mono hc (show j + 1 ≤ k by omega) hk
  unfold rN at h2 ⊢
  rw [show ((j + 1 : Nat) : Int) = (j : Int) + 1 by omega] at h2
  omega
theorem rN_inj {ss : List Sec} (hc : cabB ss = true) {j k : Nat} (hj : j ≤ mN ss) (hk : k ≤ mN ss) (h : rN ss j = rN ss k) : j = k := by
  rcases Nat.lt_trichotomy j k with h1 | h1 | h1
  · have := rN_strict hc h1 hk
    omega
  · exact h1
  · have := rN_strict hc h1 hj
    omega
/-- the balance of a fault finds it -/
theorem find_of_open {ss : List Sec} {f : Flt} (h : faultB ss f = true) : findO ss (upL ss f + f.o) (restL ss f + f.o) = some f := by
  obtain ⟨hc, hm, ho⟩ := faultB_true h
  have hs := sides_bd h
  have h8 := (mN_bd hc 0).2.2
  obtain ⟨m, hme⟩ := Int.eq_ofNat_of_zero_le hm.1
  have hmN : m ≤ mN ss := by omega
  have eu : upL ss f = rN ss m := by unfold upL rN; rw [hme]
  have er : restL ss f = ohmsL ss - rN ss m := by unfold restL rN; rw [hme]
  have h0 : cab0 ss (upL ss f + f.o) = true := by unfold cab0; rw [hc]; simp; omega
  have hmem : f ∈ findsL ss (upL ss f + f.o) (balP ss (upL ss f + f.o) (restL ss f + f.o)) := by
    rw [findsL_yes _ h0]
    unfold fltL
    rw [List.mem_map]
    refine ⟨m, ?_, ?_⟩
    · rw [List.mem_filter, List.mem_range, Bool.and_eq_true]
      refine ⟨by omega, inB_true.2 (by rw [eu]; omega), ?_⟩
      unfold balP
      rw [eu, er]
      simp
      omega
    · apply Flt.ext_
      · dsimp only; omega
      · dsimp only; omega
  cases hg : findO ss (upL ss f + f.o) (restL ss f + f.o) with
  | none =>
    unfold findO at hg
    rw [List.head?_eq_none_iff] at hg
    rw [hg] at hmem
    simp at hmem
  | some g =>
    obtain ⟨_, k, hk, rfl, _, hb⟩ := findO_some hg
    have hkm : k = m := rN_inj hc hk hmN (by rw [eu, er] at hb; omega)
    subst hkm
    congr 1
    apply Flt.ext_
    · dsimp only; omega
    · dsimp only; omega
theorem bk_open {ss : List Sec} {f : Flt} (h : faultB ss f = true) : openV ss.reverse (bk ss f) = .tuple #[.int .i64 (restL ss f + f.o), .int .i64 (upL ss f + f.o), .bool true] := by
  rw [openV_yes (bk_valid h), (bk_sides h).1, (bk_sides h).2]
  rfl
theorem sides_sum (ss : List Sec) (f : Flt) : upL ss f + restL ss f = ohmsL ss := by unfold upL restL; omega

/-! ### lesser faults -/
theorem fless_true {ss : List Sec} {f g : Flt} (h : fless ss f g = true) : faultB ss f = true ∧ faultB ss g = true ∧ upL ss f + f.o < upL ss g + g.o ∧ restL ss f + f.o < restL ss g + g.o := by
  unfold fless at h
  simp only [Bool.and_eq_true, decide_eq_true_eq] at h
  exact ⟨h.1.1.1, h.1.1.2, h.1.2, h.2⟩
theorem fless_ohms {ss : List Sec} {f g : Flt} (h : fless ss f g = true) : f.o < g.o := by
  have h1 := fless_true h
  have h2 := sides_sum ss f
  have h3 := sides_sum ss g
  omega
theorem fless_not {ss : List Sec} {f g : Flt} (h : fless ss f g = true) : fless ss g f = false := by
  have h1 := fless_true h
  cases h2 : fless ss g f
  · rfl
  · have := fless_true h2
    omega
theorem fless_back {ss : List Sec} {f g : Flt} (h : fless ss f g = true) : fless ss.reverse (bk ss f) (bk ss g) = true := by
  obtain ⟨h1, h2, h3, h4⟩ := fless_true h
  unfold fless
  rw [bk_valid h1, bk_valid h2, (bk_sides h1).1, (bk_sides h1).2, (bk_sides h2).1, (bk_sides h2).2]
  have e1 : (bk ss f).o = f.o := rfl
  have e2 : (bk ss g).o = g.o := rfl
  rw [e1, e2]
  simp
  omega

/-! ### breaks -/
theorem rgTo_mem {r : Nat → Int} {a e : Int} {k : Nat} (h : inB (a - r k) 0 e = true) : ∀ n, k < n → ∃ x, rgTo r a e n = some x ∧ x.1 ≤ k ∧ k ≤ x.2 := by
  intro n
  induction n with
  | zero => intro hk; omega
  | succ n ih =>
    intro hk
    by_cases hkn : k = n
    · subst hkn
      refine ⟨_, rgTo_yes h, ?_, Nat.le_refl _⟩
      cases ho : rgTo r a e k with
      | none => simp
      | some y =>
        have := rgTo_bd ho
        simp
        omega
    · obtain ⟨x, hx, h1, h2⟩ := ih (by omega)
      cases hn : inB (a - r n) 0 e
      · exact ⟨x, by rw [rgTo_no hn, hx], h1, h2⟩
      · refine ⟨_, rgTo_yes hn, ?_, ?_⟩
        · rw [hx]
          exact h1
        · dsimp only
          omega
theorem rgTo_one {r : Nat → Int} {a e : Int} {k n : Nat} (h : inB (a - r k) 0 e = true) (hk : k < n) (h1 : ∀ j, j < n → inB (a - r j) 0 e = true → j = k) : rgTo r a e n = some (k, k) := by
  obtain ⟨x, hx, h2, h3⟩ := rgTo_mem h n hk
  have h4 : ∀ m, m ≤ n → ∀ y, rgTo r a e m = some y → y = (k, k) := by
    intro m
    induction m with
    | zero => intro _ y hy; cases hy
    | succ m ih =>
      intro hm y hy
      cases hn : inB (a - r m) 0 e
      · rw [rgTo_no hn] at hy
        exact ih (by omega) y hy
      · have := h1 m (by omega) hn
        subst this
        rw [rgTo_yes hn] at hy
        cases ho : rgTo r a e m with
        | none => rw [ho] at hy; cases hy; rfl
        | some z =>
          have hz := ih (by omega) z ho
          have := rgTo_bd ho
          subst hz
          dsimp only at this
          omega
  rw [hx, h4 n (Nat.le_refl _) x hx]

end Go.Proofs.Ytodboccadccpfaa
