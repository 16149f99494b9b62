/-
  SignalOf of the model.
-/
import Derived.Test.YtgnolhikphoagaaDoorCoS
import Derived.Test.YtgnolhikphoagaaDoorStr
namespace Go.Proofs.YtgnolhikphoagaaDoor
open Go.RowKit

theorem sgT_zero (t : List UInt8) : sgT (t.take 0) = [] := rfl

set_option maxHeartbeats 1000000 in
theorem specSignalOf_c (s : ByteArray) (w : World) (hs : s.size ≤ 1048576) : Calls Tryd.prog 70 #[.string s] w fun e w' => e = .returned (.tuple #[.string (str (ofV (byL s))), .bool (ofOk (byL s))]) ∧ w = w' := by
  go_enter Tryd.func70, Tryd.ntmps70
  go_wp2
  go_loop [4, 5] (fun o i => ∃ k : Nat, k ≤ s.size ∧ i = .int .i64 k ∧ o = .string (str (sgT ((byL s).take k))) ∧ ltT (byL s) k) (fun _ i => s.size - (intOf i).toNat)
  case atStart => exact ⟨0, Nat.zero_le _, rfl, rfl, ltT_zero _⟩
  case round =>
    obtain ⟨k, hk, rfl, rfl, ho⟩ := hrel
    have Ho := Lib.hid ho
    clear ho
    by_cases hlt : k < s.size
    · have hz := sgT_len ((byL s).take k)
      have hz2 : ((byL s).take k).length ≤ k := List.length_take_le _ _
      have h1 := byL_one s k hlt
      have ht := byL_take s k hlt
      have hsu := fun hx => ltT_succ Ho.out hlt hx
      have hno := fun hx => ofOk_not hlt hx
      have hkn := byL_ne s k hlt
      obtain ⟨b, hb⟩ : ∃ b : UInt8, s[k] = b := ⟨_, rfl⟩
      rw [hb] at h1 ht hsu hno
      obtain ⟨acc, hacc⟩ : ∃ acc, str (sgT ((byL s).take k)) = acc := ⟨_, rfl⟩
      have za : acc.size ≤ 5 * 1048576 := by rw [← hacc, str_size]; omega
      rw [hacc]
      have hcl := codeV_len [b]
      have hcn := code_nil b
      have g1 : (k : Int) < (s.size : Int) := by omega
      have g2 : (k : Int) + 1 ≤ (s.size : Int) := by omega
      obtain ⟨x, hx⟩ : ∃ x, s.extract k (k + 1) = x := ⟨_, rfl⟩
      have zx : x.size ≤ 9223372036854775807 := by rw [← hx, ByteArray.size_extract]; omega
      have hc := fun w => specSignalCode_c x w zx
      rw [hx] at h1
      rw [h1] at hc
      have HC := Lib.hid hc
      have q1 : (0 : Int) ≤ (k : Int) := by omega
      have q2 : (k : Int) ≤ (k : Int) + 1 := by omega
      have q3 : ((k : Int) + 1).toNat = k + 1 := by omega
      have q4 : (0 : Int) ≤ (k : Int) + 1 := by omega
      have Hacc := Lib.hid hacc
      have Ht := Lib.hid ht
      cases hlet : isLet b
      · have hd : codeV [b] = [] := hcn.2 hlet
        have he : (str (codeV [b])).toList.isEmpty = true := by rw [hd]; exact str_empty
        have hn := hno hlet
        have Hn := Lib.hid (And.intro hn (ofV_no hn))
        obtain ⟨d, hdd⟩ : ∃ d, str (codeV [b]) = d := ⟨_, rfl⟩
        rw [hdd] at he HC
        clear hc hacc ht hno hsu hkn hcn hd hn hdd hlet h1 hz hz2 hb hcl
        go_wp2_with fail
        refine (HC.out _).mono ?_
        rintro e w' ⟨rfl, rfl⟩
        go_wp2
        go_ret2
        exact ⟨by rw [Hn.out.1, Hn.out.2]; rfl, rfl⟩
      · have hd : codeV [b] ≠ [] := fun e => by have := hcn.1 e; rw [hlet] at this; cases this
        have he : (str (codeV [b])).toList.isEmpty = false := str_full hd
        have Hs := Lib.hid (hsu hlet)
        have hkk := fun h => sgT_snoc b (hkn h)
        have Hkk := Lib.hid hkk
        obtain ⟨d, hdd⟩ : ∃ d, str (codeV [b]) = d := ⟨_, rfl⟩
        have zd : d.size ≤ 4 := by rw [← hdd, str_size]; exact hcl
        rw [hdd] at he HC
        have Hdd := Lib.hid hdd
        clear hc hacc ht hno hsu hkn hcn hd hkk hdd hlet h1 hz hz2 hb hcl
        by_cases hk0 : k = 0
        · subst hk0
          have hx0 : s.extract 0 1 = x := hx
          have q5 : (1 : Int) ≤ (s.size : Int) := by omega
          clear hx q1 q2 q3 q4 g2
          go_wp2_with fail
          refine (HC.out _).mono ?_
          rintro e w' ⟨rfl, rfl⟩
          have zs : (9223372036854775807 < acc.size + d.size) = False := by rw [eq_iff_iff, iff_false]; omega
          go_wp2
          go_round
          case rel => exact ⟨1, by omega, by go_num, by rw [← Hacc.out, sgT_zero, ← Hdd.out, str_append, Ht.out]; exact congrArg Value.string (congrArg str (sgT_one b).symm), Hs.out⟩
          case measure => simp [intOf]; omega
        · have gk : (0 : Int) < (k : Int) := by omega
          have zs0 : (9223372036854775807 < acc.size + 1) = False := by rw [eq_iff_iff, iff_false]; omega
          have zs : (9223372036854775807 < acc.size + 1 + d.size) = False := by rw [eq_iff_iff, iff_false]; omega
          have Hk0 := Lib.hid hk0
          clear hk0
          go_wp2_with fail
          refine (HC.out _).mono ?_
          rintro e w' ⟨rfl, rfl⟩
          go_wp2
          go_round
          case rel =>
            refine ⟨k + 1, by omega, by go_num, ?_, Hs.out⟩
            rw [Ht.out, Hkk.out Hk0.out, ← str_append, ← str_append, ← Hacc.out, ← Hdd.out]
            rfl
          case measure => simp [intOf]; omega
    · obtain rfl : k = s.size := by omega
      have hv := ofOk_all Ho.out
      have hz := sgT_len (byL s)
      rw [byL_len] at hz
      rw [show (byL s).take s.size = byL s from List.take_of_length_le (by rw [byL_len]; omega)]
      by_cases h12 : s.size ≤ 12
      · rw [decide_eq_true h12] at hv
        have Hv := Lib.hid (And.intro hv (ofV_yes hv))
        obtain ⟨acc, hacc⟩ : ∃ acc, str (sgT (byL s)) = acc := ⟨_, rfl⟩
        have za : acc.size ≤ 60 := by rw [← hacc, str_size]; omega
        rw [hacc]
        have Hacc := Lib.hid hacc
        have g1 : decide ((12 : Int) < (s.size : Int)) = false := by simp; omega
        have g2 : decide ((80 : Int) < (acc.size : Int)) = false := by simp; omega
        clear hacc hv hz
        go_wp2
        go_ret2
        exact ⟨by rw [Hv.out.1, Hv.out.2, Hacc.out]; rfl, rfl⟩
      · rw [decide_eq_false h12] at hv
        have Hv := Lib.hid (And.intro hv (ofV_no hv))
        have g1 : decide ((12 : Int) < (s.size : Int)) = true := by simp; omega
        clear hv hz
        go_wp2
        go_ret2
        exact ⟨by rw [Hv.out.1, Hv.out.2]; rfl, rfl⟩

theorem specSignalOf_b (s : ByteArray) (w : World) (hs : s.size ≤ 1048576) : Calls Tryd.prog 70 #[.string s] w (RetB (.tuple #[.string (str (ofV (byL s))), .bool (ofOk (byL s))]) w) :=
  (specSignalOf_c s w hs).mono fun _ _ h => RetB.same h

end Go.Proofs.YtgnolhikphoagaaDoor
