/-
  Parts of a forecast; the drawn forecast of FnForecast.
-/
import Derived.Test.YtodboccadccpfaaFcA
import Derived.Test.YtodboccadccpfaaWDraw
import Derived.Test.YtodboccadccpfaaL6Many
namespace Go.Proofs.Ytodboccadccpfaa
open Go.RowKit

theorem byL_ext (s : ByteArray) (a b : Nat) : byL (s.extract a b) = ((byL s).take b).drop a := by
  unfold byL
  rw [ByteArray.data_extract, Array.toList_extract, List.extract_eq_take_drop, List.drop_take]
theorem ext_size (s : ByteArray) (a b : Nat) : (s.extract a b).size ≤ s.size := by
  rw [← byL_len, ← byL_len s, byL_ext, List.length_drop, List.length_take]
  omega
theorem fc_true {L : List UInt8} : fcB L = true ↔ (∀ b ∈ L, isOX b = true) ∧ L.length ≤ 30 := by
  unfold fcB
  rw [Bool.and_eq_true, List.all_eq_true, decide_eq_true_eq]
theorem fc_take {L : List UInt8} (h : fcB L = true) (k : Nat) : fcB (L.take k) = true := by
  obtain ⟨h1, h2⟩ := fc_true.1 h
  exact fc_true.2 ⟨fun b hb => h1 b (List.mem_of_mem_take hb), by rw [List.length_take]; omega⟩
theorem fc_drop {L : List UInt8} (h : fcB L = true) (k : Nat) : fcB (L.drop k) = true := by
  obtain ⟨h1, h2⟩ := fc_true.1 h
  exact fc_true.2 ⟨fun b hb => h1 b (List.mem_of_mem_drop hb), by rw [List.length_drop]; omega⟩
theorem opV_all {L : List UInt8} (h : fcB L = true) {d : Int} (hd : d = (L.length : Int)) : opV L d = ((L.filter isO).length : Int) := by
  subst hd
  rw [opV_yes h (inB_true.2 (by omega))]
  unfold opT
  rw [Int.toNat_natCast, List.take_length]
theorem fc_parts {s : ByteArray} (h : fcB (byL s) = true) {k : Nat} (hk : k ≤ s.size) :
    fcB (byL (s.extract 0 k)) = true ∧ fcB (byL (s.extract k s.size)) = true ∧ opV (byL (s.extract 0 k)) (k : Int) + opV (byL (s.extract k s.size)) ((s.size : Int) - (k : Int)) = opV (byL s) (s.size : Int) ∧ 0 ≤ opV (byL (s.extract 0 k)) (k : Int) ∧ 0 ≤ opV (byL (s.extract k s.size)) ((s.size : Int) - (k : Int)) ∧ opV (byL s) (s.size : Int) ≤ 30 := by
  have hl := byL_len s
  have e1 : byL (s.extract 0 k) = (byL s).take k := by rw [byL_ext, List.drop_zero]
  have e2 : byL (s.extract k s.size) = (byL s).drop k := by rw [byL_ext, ← hl, List.take_length]
  have f1 := fc_take h k
  have f2 := fc_drop h k
  rw [e1, e2, opV_all f1 (by rw [List.length_take]; omega), opV_all f2 (by rw [List.length_drop]; omega), opV_all h (by omega)]
  have h3 := (fc_true.1 h).2
  have h4 := List.length_filter_le isO (byL s)
  refine ⟨f1, f2, ?_, by omega, by omega, by omega⟩
  rw [← Int.natCast_add, ← List.length_append, ← List.filter_append, List.take_append_drop]

/-- what a drawn text is -/
def RetTx (m : Nat) (w : World) (e : Ending) (w' : World) : Prop := ∃ s : ByteArray, e = .returned (.string s) ∧ s.size ≤ m ∧ Below w.heap.size w w'
set_option maxRecDepth 100000 in
theorem DrawForecastValid_c (A : Option Addr) (n c : Nat) (w : World) (hn : n ≤ 9223372036854775807) (hnc : n ≤ c) (hb : Bytes w.heap.size w A n) :
    Calls Try.prog 11 #[.slice A n c] w (RetTx 80 w) := by
  have Hb := Lib.hid hb
  clear hb
  go_enter Try.func11, Try.ntmps11
  go_wp2_with fail
  refine (l6Open_c A n c _ hn hnc Hb.out).mono ?_
  rintro e w1 ⟨n', c', rfl, hr1, hb1, hlt1⟩
  have Hr1 := Lib.hid hr1
  have Hb1 := Lib.hid hb1
  clear hr1 hb1
  go_wp2_with fail
  refine (l92Forecast_c _ A n' c' 0 12 _ Hr1.out hlt1 (by omega) (by omega)).mono ?_
  rintro e w2 ⟨s, q, rfl, hs, hr2, hq, hg2⟩
  have Hr2 := Lib.hid hr2
  have Hb2 := Lib.hid (Hb1.out.grown hg2 Hb1.out.size (fun r e => by injection e with e; omega))
  clear hr2 hg2
  go_wp2_with fail
  refine (pick_c _ A n' c' q 12 _ Hr2.out (by omega) (by omega) (by omega)).mono ?_
  rintro e w3 ⟨k, rfl, hk0, hk1, hr3, hg3⟩
  have Hb3 := Lib.hid (Hb2.out.grown hg3 Hb2.out.size (fun r e => by injection e with e; omega))
  clear hr3 hg3
  obtain rfl | hk := Classical.em (k = 0)
  · go_wp2_with fail
    refine (many_any 28 (by omega) (by omega) _).mono ?_
    rintro e w4 ⟨⟨t, rfl, ht⟩, rfl⟩
    go_wp2
    go_ret
    exact ⟨_, rfl, by rw [ByteArray.size_append]; omega, Hb3.out⟩
  · have b0 : (k == 0) = false := by simpa using hk
    go_wp2
    go_ret
    exact ⟨s, rfl, by omega, Hb3.out⟩
end Go.Proofs.Ytodboccadccpfaa
