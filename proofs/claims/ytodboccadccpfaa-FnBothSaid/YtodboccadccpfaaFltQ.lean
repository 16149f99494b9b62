/-
  Mathematics of the law FnOne: the faults that one end measures, in their order.
-/
import Derived.Test.YtodboccadccpfaaFltN
import Derived.Test.YtodboccadccpfaaFltFS
import Derived.Test.YtodboccadccpfaaFltBS
namespace Go.Proofs.Ytodboccadccpfaa

theorem filter_sorted (q : Nat → Bool) (n : Nat) : ((List.range n).filter q).Pairwise (· < ·) := List.pairwise_lt_range.filter q
theorem one_list {ss : List Sec} {a : Int} (h : cab0 ss a = true) : ∃ ms : List Nat, ms.Pairwise (· < ·) ∧ (∀ m ∈ ms, m ≤ mN ss) ∧ ms.length ≤ mN ss + 1 ∧ findsL ss a yesP = ms.map fun m : Nat => (⟨(m : Int), a - rN ss m⟩ : Flt) := by
  refine ⟨_, filter_sorted (fun m => inB (a - rN ss m) 0 1000 && yesP m) (mN ss + 1), fun m hm => ?_, ?_, findsL_yes _ h⟩
  · have := (List.mem_filter.1 hm).1
    rw [List.mem_range] at this
    omega
  · have := List.length_filter_le (fun m => inB (a - rN ss m) 0 1000 && yesP m) (List.range (mN ss + 1))
    rw [List.length_range] at this
    exact this
theorem one_facts {ss : List Sec} {a : Int} (h : cab0 ss a = true) :
    ((findsL ss a yesP).length : Int) ≤ milesI ss + 1 ∧
    (∀ i, i < (findsL ss a yesP).length → faultB ss (fltAt (findsL ss a yesP) i) = true ∧ upL ss (fltAt (findsL ss a yesP) i) + (fltAt (findsL ss a yesP) i).o = a) ∧
    (∀ i, i + 1 < (findsL ss a yesP).length → (fltAt (findsL ss a yesP) i).m < (fltAt (findsL ss a yesP) (i + 1)).m ∧ (fltAt (findsL ss a yesP) (i + 1)).o < (fltAt (findsL ss a yesP) i).o) := by
  obtain ⟨hc, ha⟩ := cab0_true h
  obtain ⟨ms, hs, hm, hl, e⟩ := one_list h
  have hmi := milesI_yes hc
  have hmn := (mN_bd hc 0).2.2
  have hat : ∀ i (hi : i < ms.length), fltAt (ms.map fun m : Nat => (⟨(m : Int), a - rN ss m⟩ : Flt)) i = ⟨(ms[i] : Int), a - rN ss ms[i]⟩ := fun i hi => by
    rw [fltAt_lt (by rw [List.length_map]; exact hi)]
    simp
  refine ⟨by rw [e, List.length_map]; omega, fun i hi => ?_, fun i hi => ?_⟩
  · have hv := finds_valid (p := yesP) (show fltAt (findsL ss a yesP) i ∈ findsL ss a yesP by rw [fltAt_lt hi]; exact List.getElem_mem hi)
    refine ⟨hv, ?_⟩
    rw [e, List.length_map] at hi
    rw [e, hat i hi]
    unfold upL rN
    dsimp only
    omega
  · rw [e, List.length_map] at hi
    have h1 := hm _ (List.getElem_mem hi)
    have h2 := List.pairwise_iff_getElem.1 hs i (i + 1) (by omega) hi (by omega)
    rw [e, hat i (by omega), hat (i + 1) hi]
    have h3 := rN_strict hc h2 h1
    dsimp only
    omega
theorem one_find {ss : List Sec} {a : Int} {f : Flt} (h : faultB ss f = true) (e : upL ss f + f.o = a) : openV ss f = .tuple #[.int .i64 a, .int .i64 (restL ss f + f.o), .bool true] ∧ findV ss a (restL ss f + f.o) = .tuple #[.agg #[.int .i64 f.m, .int .i64 f.o], .bool true] := by
  have hf := find_of_open h
  rw [e] at hf
  refine ⟨by rw [openV_yes h, e], ?_⟩
  unfold findV
  rw [hf]
  rfl
end Go.Proofs.Ytodboccadccpfaa
