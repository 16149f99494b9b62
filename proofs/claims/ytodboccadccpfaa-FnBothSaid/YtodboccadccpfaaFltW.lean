/-
  Mathematics of the law FnBoth: at most two faults are measured as given, open and earthed.
-/
import Derived.Test.YtodboccadccpfaaFltQ
import Derived.Test.YtodboccadccpfaaRatM
namespace Go.Proofs.Ytodboccadccpfaa

theorem two_roots {l t c r1 r2 : Int} (h1 : l * (r1 * r1) - 2 * t * r1 + c = 0) (h2 : l * (r2 * r2) - 2 * t * r2 + c = 0) (hlt : r1 < r2) : l * (r1 + r2) = 2 * t := by
  have e : (r2 - r1) * (l * (r1 + r2)) = (r2 - r1) * (2 * t) := by
    have e1 : (r2 - r1) * (l * (r1 + r2)) = l * (r2 * r2) - l * (r1 * r1) := by
      rw [Int.sub_mul, Int.mul_left_comm r2 l, Int.mul_left_comm r1 l, Int.mul_add r2, Int.mul_add r1, Int.mul_add l, Int.mul_add l, Int.mul_comm r2 r1]
      omega
    have e2 : (r2 - r1) * (2 * t) = 2 * t * r2 - 2 * t * r1 := by rw [Int.sub_mul, Int.mul_comm r2, Int.mul_comm r1]
    rw [e1, e2]
    omega
  exact Int.eq_of_mul_eq_mul_left (by omega) e
theorem three_roots {l t c r1 r2 r3 : Int} (hl : 1 ≤ l) (h1 : l * (r1 * r1) - 2 * t * r1 + c = 0) (h2 : l * (r2 * r2) - 2 * t * r2 + c = 0) (h3 : l * (r3 * r3) - 2 * t * r3 + c = 0) (a : r1 < r2) (b : r2 < r3) : False := by
  have e1 := two_roots h1 h2 a
  have e2 := two_roots h2 h3 b
  have e3 : l * (r1 + r2) = l * (r2 + r3) := by omega
  have := Int.eq_of_mul_eq_mul_left (by omega) e3
  omega
/-- what is measured earthed tells a square -/
theorem ear_root {a T r : Int} {e : Rat2} (hr : 0 ≤ r) (hs : 0 ≤ T - r) (hf : 0 ≤ a - r) (h : earR r (T - r) (a - r) = e) : 1 ≤ e.l ∧ e.l * (r * r) - 2 * e.t * r + (e.t * (a + T) - e.l * (a * T)) = 0 := by
  by_cases h0 : a - r + (T - r) = 0
  · rw [earR_zero h0] at h
    subst h
    have e1 : a = r := by omega
    have e2 : T = r := by omega
    subst e1
    subst e2
    refine ⟨Int.le_refl _, ?_⟩
    dsimp only
    rw [Int.one_mul, Int.mul_add, Int.mul_assoc 2]
    omega
  · rw [earR_low hr hs hf h0] at h
    have hp : 0 ≤ r * (a - r + (T - r)) + (a - r) * (T - r) := by
      have := Int.mul_nonneg hr (show 0 ≤ a - r + (T - r) by omega)
      have := Int.mul_nonneg hf hs
      omega
    have hc := lowR_cross hp (show 1 ≤ a - r + (T - r) by omega)
    have hb := (lowR_bd hp (show 1 ≤ a - r + (T - r) by omega)).2.2.1
    rw [h] at hc hb
    refine ⟨hb, ?_⟩
    have e1 : r * (a - r + (T - r)) + (a - r) * (T - r) = a * T - r * r := by
      simp only [Int.mul_add, Int.mul_sub, Int.sub_mul]
      rw [Int.mul_comm r a, Int.mul_comm r T]
      omega
    rw [e1] at hc
    simp only [Int.mul_add, Int.mul_sub, Int.sub_mul] at hc ⊢
    rw [Int.mul_comm (a * T) e.l, Int.mul_comm (r * r) e.l] at hc
    rw [Int.mul_assoc 2]
    omega
theorem both_list {ss : List Sec} {a : Int} (e : Rat2) (h : cab0 ss a = true) : ∃ ms : List Nat, ms.Pairwise (· < ·) ∧ (∀ m ∈ ms, m ≤ mN ss ∧ inB (a - rN ss m) 0 1000 = true ∧ earR (rN ss m) (ohmsL ss - rN ss m) (a - rN ss m) = e) ∧ findsL ss a (bothP ss a e) = ms.map fun m : Nat => (⟨(m : Int), a - rN ss m⟩ : Flt) := by
  refine ⟨_, filter_sorted (fun m => inB (a - rN ss m) 0 1000 && bothP ss a e m) (mN ss + 1), fun m hm => ?_, findsL_yes _ h⟩
  obtain ⟨h1, h2⟩ := List.mem_filter.1 hm
  rw [List.mem_range] at h1
  rw [Bool.and_eq_true] at h2
  exact ⟨by omega, h2.1, of_decide_eq_true h2.2⟩
theorem both_two {ss : List Sec} {a : Int} (e : Rat2) (h : cab0 ss a = true) : (findsL ss a (bothP ss a e)).length ≤ 2 := by
  obtain ⟨hc, ha⟩ := cab0_true h
  obtain ⟨ms, hs, hm, he⟩ := both_list e h
  rw [he, List.length_map]
  rcases Nat.lt_or_ge ms.length 3 with h3 | h3
  · omega
  · have root : ∀ i (hi : i < ms.length), 1 ≤ e.l ∧ e.l * (rN ss ms[i] * rN ss ms[i]) - 2 * e.t * rN ss ms[i] + (e.t * (a + ohmsL ss) - e.l * (a * ohmsL ss)) = 0 := fun i hi => by
      obtain ⟨m1, m2, m3⟩ := hm _ (List.getElem_mem hi)
      have m2 := inB_true.1 m2
      have hsd := sides_bd (finds_valid (p := bothP ss a e) (show (⟨(ms[i] : Int), a - rN ss ms[i]⟩ : Flt) ∈ findsL ss a (bothP ss a e) by rw [he]; exact List.mem_map.2 ⟨ms[i], List.getElem_mem hi, rfl⟩))
      unfold upL restL at hsd
      unfold rN at m2 m3 ⊢
      dsimp only at hsd
      exact ear_root (by omega) (by omega) (by omega) m3
    have lt := fun i j (hij : i < j) (hj : j < ms.length) => rN_strict hc (List.pairwise_iff_getElem.1 hs i j (by omega) hj hij) (hm _ (List.getElem_mem hj)).1
    exact (three_roots (root 0 (by omega)).1 (root 0 (by omega)).2 (root 1 (by omega)).2 (root 2 (by omega)).2 (lt 0 1 (by omega) (by omega)) (lt 1 2 (by omega) (by omega))).elim
theorem both_facts {ss : List Sec} {a : Int} (e : Rat2) (h : cab0 ss a = true) :
    (findsL ss a (bothP ss a e)).length ≤ 2 ∧ (findsL ss a (bothP ss a e)).length ≤ (findsL ss a yesP).length ∧
    ∀ i, i < (findsL ss a yesP).length → ∃ x : Rat2, earthV ss (fltAt (findsL ss a yesP) i) = .tuple #[.agg #[.int .i64 x.t, .int .i64 x.l], .bool true] ∧ decide (fltAt (findsL ss a yesP) i ∈ findsL ss a (bothP ss a e)) = decide (x = e) := by
  refine ⟨both_two e h, by rw [← both_filter]; exact List.length_filter_le _ _, fun i hi => ?_⟩
  have hm : fltAt (findsL ss a yesP) i ∈ findsL ss a yesP := by rw [fltAt_lt hi]; exact List.getElem_mem hi
  have hv := finds_valid hm
  refine ⟨_, earthV_yes hv, decide_eq_decide.2 ?_⟩
  rw [← both_filter, List.mem_filter]
  unfold earP
  simp [hm]
end Go.Proofs.Ytodboccadccpfaa
