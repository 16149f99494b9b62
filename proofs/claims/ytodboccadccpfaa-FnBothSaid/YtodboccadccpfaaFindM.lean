/-
  Plain mathematics: what is found is measured.
-/
import Derived.Test.YtodboccadccpfaaFltF
import Derived.Test.YtodboccadccpfaaFltO
namespace Go.Proofs.Ytodboccadccpfaa
open Go.RowKit

/-! ### what is found is measured -/
theorem findO_some {ss : List Sec} {a b : Int} {f : Flt} (h : findO ss a b = some f) :
    cab0 ss a = true ∧ ∃ k, k ≤ mN ss ∧ f = ⟨k, a - rN ss k⟩ ∧ inB (a - rN ss k) 0 1000 = true ∧ ohmsL ss - rN ss k + (a - rN ss k) = b := by
  unfold findO at h
  have hm := List.mem_of_mem_head? h
  cases h0 : cab0 ss a
  · rw [findsL_no _ h0] at hm
    simp at hm
  · rw [findsL_yes _ h0] at hm
    unfold fltL at hm
    rw [List.mem_map] at hm
    obtain ⟨k, hk, rfl⟩ := hm
    rw [List.mem_filter, List.mem_range, Bool.and_eq_true] at hk
    refine ⟨rfl, k, by omega, rfl, hk.2.1, ?_⟩
    have := hk.2.2
    unfold balP at this
    simpa using this
theorem find_open {ss : List Sec} {a b : Int} {f : Flt} (h : findO ss a b = some f) : openV ss f = .tuple #[.int .i64 a, .int .i64 b, .bool true] := by
  obtain ⟨h0, k, hk, rfl, hin, hb⟩ := findO_some h
  obtain ⟨hc, ha⟩ := cab0_true h0
  have h8 := (mN_bd hc 0).2.2
  have hv : faultB ss ⟨k, a - rN ss k⟩ = true := faultB_yes (inB_true.2 (by rw [milesI_yes hc]; dsimp only; omega)) hin
  rw [openV_yes hv]
  have e1 : upL ss ⟨k, a - rN ss k⟩ = rN ss k := rfl
  have e2 : restL ss ⟨k, a - rN ss k⟩ = ohmsL ss - rN ss k := rfl
  rw [e1, e2]
  dsimp only
  rw [hb, show rN ss k + (a - rN ss k) = a by omega]
theorem rN_mono {ss : List Sec} (hc : cabB ss = true) {j k : Nat} (hjk : j ≤ k) (hk : k ≤ mN ss) : rN ss j ≤ rN ss k := by
  have h8 := (mN_bd hc 0).2.2
  have := ohmsTo_mono (cabB_true.1 hc).2 (k - j) (j : Int) (by omega) (by omega)
  unfold rN
  rwa [show (j : Int) + ((k - j : Nat) : Int) = (k : Int) by omega] at this
theorem find_more {ss : List Sec} {a b : Int} {f g : Flt} (h : findO ss a b = some f) (h2 : findO ss (a + 2) b = some g) : f.m < g.m := by
  obtain ⟨h0, k, hk, rfl, _, hb⟩ := findO_some h
  obtain ⟨_, j, hj, rfl, _, hb2⟩ := findO_some h2
  obtain ⟨hc, _⟩ := cab0_true h0
  dsimp only
  rcases Nat.lt_or_ge k j with hlt | hge
  · omega
  · have := rN_mono hc hge hk
    omega
theorem findV_none {ss : List Sec} {a b : Int} (h : findO ss a b = none) : findV ss a b = .tuple #[.agg #[.int .i64 0, .int .i64 0], .bool false] := by unfold findV; rw [h]; rfl
theorem findV_some {ss : List Sec} {a b : Int} {f : Flt} (h : findO ss a b = some f) : findV ss a b = .tuple #[.agg #[.int .i64 f.m, .int .i64 f.o], .bool true] := by unfold findV; rw [h]; rfl

end Go.Proofs.Ytodboccadccpfaa
