/-
  SignalOf of the program.
-/
import Derived.Test.YtgnolhikphoagaaDoorCoI
import Derived.Test.YtgnolhikphoagaaDoorStr
import Derived.Test.YtgnolhikphoagaaDoorShelf
namespace Go.Proofs.YtgnolhikphoagaaDoor
open Go.RowKit

/-- what a function that hands back a text and a bool, and may lay new blocks, leaves -/
theorem ofV_long {s : ByteArray} (h : 12 < s.size) : ofOk (byL s) = false := ofOk_long (by rw [byL_len]; exact h)

set_option maxHeartbeats 2000000 in
theorem implSignalOf_b (s : ByteArray) (w : World) : Calls Tryd.prog 36 #[.string s] w (RetB (.tuple #[.string (str (ofV (byL s))), .bool (ofOk (byL s))]) w) := by
  obtain ⟨i0, hi, hz0, hz1, hz2⟩ := info_parts str_info
  by_cases h12 : 12 < s.size
  · have hv := ofV_long h12
    have Hv := Lib.hid (And.intro hv (ofV_no hv))
    have g1 : (12 : Int) < (s.size : Int) := by omega
    clear hv
    go_enter Tryd.func36, Tryd.ntmps36
    go_wp2
    go_ret2
    exact ⟨by rw [Hv.out.1, Hv.out.2]; rfl, Below.refl _ _⟩
  have g1 : ¬ (12 : Int) < (s.size : Int) := by omega
  go_enter Tryd.func36, Tryd.ntmps36
  go_wp2_with (at_make; refine wpList_make_own _ rfl _ _ 39 rfl w.heap.size 9 i0 (.string ByteArray.empty) 1 Tryd.underlying39 hi hz0 hz1 .i64 .i64 _ s.size rfl rfl rfl (by rw [hz2]; omega) (by unfold maxLen; omega) (Nat.le_refl _) ?_; intro w0 hown0 hgrow0)
  have Hi := Lib.hid (And.intro hi (And.intro hz0 (And.intro hz1 hz2)))
  clear hi hz0 hz1 hz2
  go_loopw [4, 15] (fun o i wr => ∃ (k : Nat) (v : Value), k ≤ s.size ∧ i = .int .i64 k ∧ v = o ∧ wr.ownsRow w.heap.size 9 1 v k (txCells (codes ((byL s).take k))) ∧ Below w.heap.size w wr ∧ ltT (byL s) k) (fun _ i _ => s.size - (intOf i).toNat)
  case atStart => exact ⟨0, _, Nat.zero_le _, rfl, rfl, hown0, (Below.refl _ _).grown hgrow0 (Nat.le_refl _) (fun k h => by cases h), ltT_zero _⟩
  case round =>
    obtain ⟨k, v, hk, rfl, rfl, hown, hbk, ho⟩ := hrel
    have Ho := Lib.hid ho
    have How := Lib.hid hown
    have Hbk := Lib.hid hbk
    have hbs := hbk.size
    clear ho hown hbk hown0 hgrow0
    by_cases hlt : k < s.size
    · have h1 := byL_one s k hlt
      have ht := byL_take s k hlt
      have hsu := fun hx => ltT_succ Ho.out hlt hx
      have hno := fun hx => ofOk_not hlt hx
      obtain ⟨b, hb⟩ : ∃ b : UInt8, s[k] = b := ⟨_, rfl⟩
      rw [hb] at h1 ht hsu hno
      have hcl := codeV_len [b]
      have hcn := code_nil b
      have g1 : (k : Int) < (s.size : Int) := by omega
      have g2 : (k : Int) + 1 ≤ (s.size : Int) := by omega
      obtain ⟨x, hx⟩ : ∃ x, s.extract k (k + 1) = x := ⟨_, rfl⟩
      have hc := fun w => implSignalCode_b x w
      rw [hx] at h1
      rw [h1] at hc
      have HC := Lib.hid hc
      have Ht := Lib.hid ht
      have q1 : (0 : Int) ≤ (k : Int) := by omega
      have q2 : (k : Int) ≤ (k : Int) + 1 := by omega
      have q3 : ((k : Int) + 1).toNat = k + 1 := by omega
      have q4 : (0 : Int) ≤ (k : Int) + 1 := by omega
      cases hlet : isLet b
      · have hd : codeV [b] = [] := hcn.2 hlet
        have he : (str (codeV [b])).toList.isEmpty = true := by rw [hd]; exact str_empty
        have hn := hno hlet
        have Hn := Lib.hid (And.intro hn (ofV_no hn))
        obtain ⟨d, hdd⟩ : ∃ d, str (codeV [b]) = d := ⟨_, rfl⟩
        rw [hdd] at he HC
        clear hc ht hno hsu hcn hd hn hdd hlet h1 hb hcl
        go_wp2_with fail
        refine (HC.out _).mono ?_
        rintro e w' ⟨rfl, hb'⟩
        have Hb' := Lib.hid hb'
        clear hb'
        go_wp2
        go_ret2
        exact ⟨by rw [Hn.out.1, Hn.out.2]; rfl, Hbk.out.trans (Hb'.out.mono hbs)⟩
      · have hd : codeV [b] ≠ [] := fun e => by have := hcn.1 e; rw [hlet] at this; cases this
        have he : (str (codeV [b])).toList.isEmpty = false := str_full hd
        have Hs := Lib.hid (hsu hlet)
        obtain ⟨d, hdd⟩ : ∃ d, str (codeV [b]) = d := ⟨_, rfl⟩
        rw [hdd] at he HC
        have Hdd := Lib.hid hdd
        clear hc ht hno hsu hcn hd hdd hlet h1 hb hcl
        go_wp2_with fail
        refine (HC.out _).mono ?_
        rintro e w' ⟨rfl, hb'⟩
        have Hb' := Lib.hid hb'
        have hbs' := hb'.size
        have hok := own_below How.out hb'
        clear hb'
        obtain ⟨hi, hz0, hz1, hz2⟩ := Hi.out
        go_wp2_with (at_builtin; refine wpList_append_own _ rfl _ _ 39 rfl w.heap.size 9 i0 (.string ByteArray.empty) 1 16 Tryd.underlying39 hi hz0 hz1 hz2 rfl (by decide) v k _ rfl (hok.alloc _) ⟨w'.heap.size, 0, none⟩ 1 1 [.string d] rfl rfl (one_str _ _ _) (by simp [Value.oneCell']) (by unfold maxLen; omega) (by omega) (by simp; omega) ?_; intro v' w3 hown3 hg3 _)
        have hb3 : Below w.heap.size w w3 := (((Hbk.out.trans (Hb'.out.mono hbs)).alloc (Nat.le_trans hbs hbs') _)).grown hg3 (by simp; omega) (fun r e => (hok.lt r e).1)
        have Hb3 := Lib.hid hb3
        have Hown3 := Lib.hid hown3
        clear hb3 hown3 hg3 hok hi hz0 hz1 hz2
        go_roundw
        case rel => exact ⟨k + 1, v', by omega, by go_num, rfl, by rw [Ht.out, codes_snoc, txCells_snoc, Hdd.out]; exact Hown3.out, Hb3.out, Hs.out⟩
        case measure => simp [intOf]; omega
    · obtain rfl : k = s.size := by omega
      have hv := ofOk_all Ho.out
      rw [decide_eq_true (show s.size ≤ 12 by omega)] at hv
      have Hv := Lib.hid (And.intro hv (ofV_yes hv))
      have how := How.out
      rw [show (byL s).take s.size = byL s from List.take_of_length_le (by rw [byL_len]; omega)] at how
      have hlen : (codes (byL s)).length = s.size := by rw [codes_len, byL_len]
      have hsl := sgT_len (byL s)
      rw [byL_len] at hsl
      rcases ownT_form how hlen.symm with ⟨rfl, h0⟩ | ⟨g, cap, rfl, hg1, hg2, hc1, hc2, hcell⟩
      · have hsg : sgT (byL s) = [] := by unfold sgT; rw [h0]; exact Lib.join_nil _
        have Hsg := Lib.hid hsg
        clear hv how hlen hsl h0 hsg How
        go_wp2_with fail
        refine (Tryd.strings_Join_none _ _ _ _).mono ?_
        rintro e w' ⟨rfl, rfl⟩
        go_wp2
        go_ret2
        exact ⟨by rw [Hv.out.1, Hv.out.2, Hsg.out]; rfl, Hbk.out⟩
      · have hj := fun w' (h1 : ∀ (j : Nat) x, ((codes (byL s)).map str)[j]? = some x → w'.cell? ⟨g, 0 + j, none⟩ = some (.string x)) (h2 : g < w'.heap.size) => Tryd.strings_Join g 0 cap ((codes (byL s)).map str) ⟨#[48]⟩ w' h1 h2 (by rw [List.length_map, hlen]; omega) (by rw [List.length_map]; exact hc1) (by rw [str_data]; show (sgT (byL s)).length ≤ _; omega)
        rw [str_data, List.length_map] at hj
        have HJ := Lib.hid (hj wr (fun j x hx => by
          rw [List.getElem?_map] at hx
          rw [Nat.zero_add]
          cases hc : (codes (byL s))[j]? with
          | none => rw [hc] at hx; cases hx
          | some c =>
            rw [hc] at hx
            cases hx
            exact hcell j c hc) hg2)
        have HL := Lib.hid hlen
        clear hj hv how hlen hsl hcell How
        obtain ⟨N, hN⟩ : ∃ N, (codes (byL s)).length = N := ⟨_, rfl⟩
        rw [hN] at HJ ⊢
        clear hN
        go_wp2_with fail
        refine HJ.out.mono ?_
        rintro e w' ⟨rfl, hb'⟩
        have Hb' := Lib.hid hb'
        clear hb'
        go_wp2
        go_ret2
        exact ⟨by rw [Hv.out.1, Hv.out.2]; rfl, Hbk.out.trans (Hb'.out.mono hbs)⟩

end Go.Proofs.YtgnolhikphoagaaDoor
