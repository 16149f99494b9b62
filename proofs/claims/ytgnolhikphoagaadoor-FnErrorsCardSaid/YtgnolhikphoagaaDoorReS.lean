/-
  l8Cut, l8Letter and SignalRead of the model.
-/
import Derived.Test.YtgnolhikphoagaaDoorCoS
import Derived.Test.YtgnolhikphoagaaDoorVaS
import Derived.Test.YtgnolhikphoagaaDoorStr
import Derived.Test.YtgnolhikphoagaaDoorStkA
import Derived.Test.YtgnolhikphoagaaDoorCnv
import Derived.Test.YtgnolhikphoagaaDoorSgR
namespace Go.Proofs.YtgnolhikphoagaaDoor
open Go.RowKit

/-- a new slice of texts, at least one -/
def RetX (X : List (List UInt8)) (w : World) (e : Ending) (w' : World) : Prop :=
  ∃ g cap, e = .returned (.slice (some ⟨g, 0, none⟩) X.length cap) ∧ (∀ j x, X[j]? = some x → w'.cell? ⟨g, j, none⟩ = some (.string (str x))) ∧ g < w'.heap.size ∧ Below w.heap.size w w'
theorem byL_mid {s : ByteArray} {f k : Nat} : byL (s.extract f k) = ((byL s).take k).drop f := byL_extract s f k
theorem take_drop_snoc {s : ByteArray} {f k : Nat} (hf : f ≤ k) (hk : k < s.size) : ((byL s).take (k + 1)).drop f = ((byL s).take k).drop f ++ [s[k]] := by
  rw [byL_take s k hk, List.drop_append_of_le_length (by rw [List.length_take, byL_len]; omega)]

set_option maxHeartbeats 2000000 in
theorem l8Cut_b (s : ByteArray) (w : World) (hs : s.size ≤ 1048576) : Calls Tryd.prog 80 #[.string s, .int .u8 48] w (RetX (splitL (byL s)) w) := by
  obtain ⟨i0, hi, hz0, hz1, hz2⟩ := info_parts str_info
  have Hi := Lib.hid (And.intro hi (And.intro hz0 (And.intro hz1 hz2)))
  clear hi hz0 hz1 hz2
  go_enter Tryd.func80, Tryd.ntmps80
  go_wp2
  go_loopw [5, 6, 7] (fun o fr i wr => ∃ (k f : Nat) (v : Value) (X : List (List UInt8)), k ≤ s.size ∧ f ≤ k ∧ i = .int .i64 k ∧ fr = .int .i64 f ∧ v = o ∧ wr.ownsRow w.heap.size 9 1 v X.length (txCells X) ∧ splitL ((byL s).take k) = X ++ [((byL s).take k).drop f] ∧ Below w.heap.size w wr) (fun _ _ i _ => s.size - (intOf i).toNat)
  case atStart => exact ⟨0, 0, _, [], Nat.zero_le _, Nat.le_refl _, rfl, rfl, rfl, World.ownsRow_made w #[] 0 (Nat.le_refl _) (by simp) rfl, rfl, (Below.refl _ _).alloc (Nat.le_refl _) _⟩
  case round =>
    obtain ⟨k, f, v, X, hk, hf, rfl, rfl, rfl, hok, hsp, hbk⟩ := hrel
    have hbs := hbk.size
    have hxl : X.length ≤ k := by
      have h1 := splitL_len ((byL s).take k)
      have h2 := List.length_take_le k (byL s)
      rw [hsp] at h1
      simp at h1
      omega
    have Hok := Lib.hid hok
    have Hbk := Lib.hid hbk
    have Hsp := Lib.hid hsp
    clear hok hbk hsp
    by_cases hlt : k < s.size
    · have ht := byL_take s k hlt
      have htd := take_drop_snoc hf hlt
      have hm := byL_mid (s := s) (f := f) (k := k)
      obtain ⟨b, hb⟩ : ∃ b : UInt8, s[k] = b := ⟨_, rfl⟩
      rw [hb] at ht htd
      have g1 : (k : Int) < (s.size : Int) := by omega
      by_cases e : b = 48
      · have f1 : ((b.toNat : Int) == 48) = true := by rw [e]; rfl
        have hsp2 : splitL ((byL s).take (k + 1)) = (X ++ [((byL s).take k).drop f]) ++ [((byL s).take (k + 1)).drop (k + 1)] := by
          have hn : ((byL s).take k ++ [48]).drop (k + 1) = [] := List.drop_eq_nil_of_le (by
            have := List.length_take_le k (byL s)
            rw [List.length_append, List.length_singleton]
            omega)
          rw [ht, e, splitL_gap, Hsp.out, hn]
        obtain ⟨x, hx⟩ : ∃ x, s.extract f k = x := ⟨_, rfl⟩
        rw [hx] at hm
        have hxs : x = str (((byL s).take k).drop f) := by rw [← hm, str_by]
        have Hxs := Lib.hid hxs
        have Hsp2 := Lib.hid hsp2
        have q1 : (0 : Int) ≤ (f : Int) := by omega
        have q2 : (f : Int) ≤ (k : Int) := by omega
        have q3 : (k : Int) ≤ (s.size : Int) := by omega
        obtain ⟨hi, hz0, hz1, hz2⟩ := Hi.out
        have hok := Hok.out
        clear ht htd hm hxs hsp2 e hf
        go_wp2_with (at_builtin; refine wpList_append_own _ rfl _ _ 39 rfl w.heap.size 9 i0 (.string ByteArray.empty) 1 16 Tryd.underlying39 hi hz0 hz1 hz2 rfl (by decide) v X.length _ rfl (hok.alloc _) ⟨wr.heap.size, 0, none⟩ 1 1 [.string x] rfl rfl (one_str _ _ _) (by simp [Value.oneCell']) (by unfold maxLen; omega) (by omega) (by simp; omega) ?_; intro v' w3 hown3 hg3 _)
        have hb3 : Below w.heap.size w w3 := (Hbk.out.alloc hbs _).grown hg3 (by simp; omega) (fun r e => (hok.lt r e).1)
        have Hb3 := Lib.hid hb3
        have Hown3 := Lib.hid hown3
        clear hb3 hown3 hg3 hok hi hz0 hz1 hz2
        go_roundw
        case rel => exact ⟨k + 1, k + 1, v', X ++ [((byL s).take k).drop f], by omega, Nat.le_refl _, by go_num, by go_num, rfl, by rw [txCells_snoc, List.length_append, ← Hxs.out]; exact Hown3.out, Hsp2.out, Hb3.out⟩
        case measure => simp [intOf]; omega
      · have f1 : ((b.toNat : Int) == 48) = false := beq_eq_false_iff_ne.2 (fun h => e (UInt8.toNat_inj.1 (by show b.toNat = 48; omega)))
        have hsp2 : splitL ((byL s).take (k + 1)) = X ++ [((byL s).take (k + 1)).drop f] := by
          rw [htd, ht, splitL_snoc e, Hsp.out, appL_snoc]
        have Hsp2 := Lib.hid hsp2
        clear ht htd hm hsp2 e
        go_wp2
        go_roundw
        case rel => exact ⟨k + 1, f, v, X, by omega, by omega, by go_num, rfl, rfl, Hok.out, Hsp2.out, Hbk.out⟩
        case measure => simp [intOf]; omega
    · obtain rfl : k = s.size := by omega
      have hm := byL_mid (s := s) (f := f) (k := s.size)
      have hta : (byL s).take s.size = byL s := List.take_of_length_le (by rw [byL_len]; omega)
      have hsp := Hsp.out
      rw [hta] at hsp hm
      obtain ⟨x, hx⟩ : ∃ x, s.extract f s.size = x := ⟨_, rfl⟩
      rw [hx] at hm
      have hxs : x = str ((byL s).drop f) := by rw [← hm, str_by]
      have Hxs := Lib.hid hxs
      have Hsp2 := Lib.hid hsp
      have q1 : (0 : Int) ≤ (f : Int) := by omega
      have q2 : (f : Int) ≤ (s.size : Int) := by omega
      obtain ⟨hi, hz0, hz1, hz2⟩ := Hi.out
      have hok := Hok.out
      clear hm hxs hsp hta Hsp
      go_wp2_with (at_builtin; refine wpList_append_own _ rfl _ _ 39 rfl w.heap.size 9 i0 (.string ByteArray.empty) 1 16 Tryd.underlying39 hi hz0 hz1 hz2 rfl (by decide) v X.length _ rfl (hok.alloc _) ⟨wr.heap.size, 0, none⟩ 1 1 [.string x] rfl rfl (one_str _ _ _) (by simp [Value.oneCell']) (by unfold maxLen; omega) (by omega) (by simp; omega) ?_; intro v' w3 hown3 hg3 _)
      have hb3 : Below w.heap.size w w3 := (Hbk.out.alloc hbs _).grown hg3 (by simp; omega) (fun r e => (hok.lt r e).1)
      have Hb3 := Lib.hid hb3
      have hown4 : w3.ownsRow w.heap.size 9 1 v' (splitL (byL s)).length (txCells (splitL (byL s))) := by
        rw [Hsp2.out, txCells_snoc, List.length_append, ← Hxs.out]; exact hown3
      have Hown4 := Lib.hid hown4
      clear hb3 hown3 hown4 hg3 hok hi hz0 hz1 hz2
      go_ret
      rcases ownT_form Hown4.out rfl with ⟨_, h0⟩ | ⟨g, cap, rfl, _, hg2, _, _, hcell⟩
      · exact absurd h0 (splitL_ne _)
      · exact ⟨g, cap, rfl, hcell, hg2, Hb3.out⟩

set_option maxHeartbeats 2000000 in
theorem l8Letter_b (s : ByteArray) (w : World) (hpm : ∀ c ∈ byL s, c = 45 ∨ c = 43) : Calls Tryd.prog 81 #[.string s] w (RetB (.string (str (lt5 (byL s)))) w) := by
  have Hpm := Lib.hid hpm
  clear hpm
  go_enter Tryd.func81, Tryd.ntmps81
  go_wp2
  go_loopw [3] (fun i wr => ∃ k : Nat, k ≤ 26 ∧ i = .int .i64 k ∧ (∀ j, j < k → codeV [UInt8.ofNat (97 + j)] ≠ byL s) ∧ Below w.heap.size w wr) (fun i _ => 26 - (intOf i).toNat)
  case atStart => exact ⟨0, Nat.zero_le _, rfl, fun j hj => absurd hj (by omega), Below.refl _ _⟩
  case round =>
    obtain ⟨k, hk, rfl, hno, hbk⟩ := hrel
    have Hno := Lib.hid hno
    have Hbk := Lib.hid hbk
    have hbs := hbk.size
    clear hno hbk
    by_cases hlt : k < 26
    · have g1 : (k : Int) < 26 := by omega
      have u1 : IntKind.u8.wrap (97 + (k : Int)) = 97 + (k : Int) := IntWalk.u8_in _ (by omega)
      have hcv := conv_new wr (97 + (k : Int)) (by omega) (by omega)
      have e1 : (97 + (k : Int)).toNat = 97 + k := by omega
      rw [e1] at hcv
      have hl5 := lt5_code k hlt
      obtain ⟨l, hl⟩ : ∃ l, str [UInt8.ofNat (97 + k)] = l := ⟨_, rfl⟩
      rw [hl] at hcv
      have hc := fun w => specSignalCode_c l w (by rw [← hl, str_size]; simp)
      have hbl : byL l = [UInt8.ofNat (97 + k)] := by rw [← hl, by_str]
      rw [hbl] at hc
      obtain ⟨d, hd⟩ : ∃ d, str (codeV [UInt8.ofNat (97 + k)]) = d := ⟨_, rfl⟩
      rw [hd] at hc
      have HC := Lib.hid hc
      have Hl := Lib.hid hl
      by_cases he : codeV [UInt8.ofNat (97 + k)] = byL s
      · have f1 : (d.toList == s.toList) = true := by rw [← hd, he, str_by]; exact beq_self_eq_true _
        have HV := Lib.hid (show lt5 (byL s) = [UInt8.ofNat (97 + k)] by rw [← he]; exact hl5)
        clear e1 hl5 hl hc hbl hd he
        go_wp2_with fail
        refine (HC.out _).mono ?_
        rintro e w' ⟨rfl, rfl⟩
        go_wp2
        go_ret
        exact ⟨by rw [HV.out, Hl.out]; rfl, Hbk.out.alloc hbs _⟩
      · have f1 : (d.toList == s.toList) = false := by
          rw [beq_eq_false_iff_ne, ← hd, str_list, toList_by]
          exact he
        have He := Lib.hid he
        clear e1 hl5 hl hc hbl hd he
        go_wp2_with fail
        refine (HC.out _).mono ?_
        rintro e w' ⟨rfl, rfl⟩
        go_wp2
        go_roundw
        case rel =>
          refine ⟨k + 1, by omega, by go_num, ?_, Hbk.out.alloc hbs _⟩
          intro j hj
          rcases Nat.lt_or_ge j k with h | h
          · exact Hno.out j h
          · obtain rfl : j = k := by omega
            exact He.out
        case measure => simp [intOf]; omega
    · obtain rfl : k = 26 := by omega
      have HV := Lib.hid (lt5_none Hpm.out Hno.out)
      go_wp2
      go_ret
      exact ⟨by rw [HV.out]; rfl, Hbk.out⟩

end Go.Proofs.YtgnolhikphoagaaDoor
