/-
  codeOf and SignalCode of the program.
-/
import Derived.Test.YtgnolhikphoagaaDoorTre
import Derived.Laws.Concat
namespace Go.Proofs.YtgnolhikphoagaaDoor
open Go.RowKit

/-- what codeOf answers -/
def RetF (r : Option (List UInt8)) (w : World) (e : Ending) (w' : World) : Prop := e = .returned (.tuple #[.string (str (r.getD [])), .bool r.isSome]) ∧ w = w'
theorem retF_none {w w' : World} {e : Ending} (h : RetF none w e w') : e = .returned (.tuple #[.string ⟨#[]⟩, .bool false]) ∧ w = w' := h
theorem retF_some {c : List UInt8} {w w' : World} {e : Ending} (h : RetF (some c) w e w') : e = .returned (.tuple #[.string (str c), .bool true]) ∧ w = w' := h

set_option maxHeartbeats 2000000 in
theorem codeOf_c (w : World) (s : ByteArray) (f n : Nat) (A : Option Addr) (h : Tree w f n A) : f ≤ 100 →
    Calls Tryd.prog 44 #[.pointer A, .string s] w (RetF (fnd f n (byL s)) w) := by
  induction h with
  | leaf f n h =>
    intro _
    have hr : fnd f n (byL s) = none := by cases f <;> simp [fnd, h]
    rw [hr]
    clear hr
    go_enter Tryd.func44, Tryd.ntmps44
    go_wp2
    go_ret2
    exact ⟨rfl, rfl⟩
  | node f n b m p h hb c0 c1 c2 _ _ im ip =>
    intro hf
    have im := im (by omega)
    have ip := ip (by omega)
    have hl := fun c => fnd_len (l := byL s) (c := c) f (2 * n)
    have hl2 := fun c => fnd_len (l := byL s) (c := c) f (2 * n + 1)
    have hm := fun c => fnd_minus (f := f) (n := n) (l := byL s) (c := c) h
    have hp := fnd_plus (f := f) (n := n) (l := byL s) h
    obtain ⟨r2, hr2⟩ : ∃ r, fnd f (2 * n) (byL s) = r := ⟨_, rfl⟩
    obtain ⟨r3, hr3⟩ : ∃ r, fnd f (2 * n + 1) (byL s) = r := ⟨_, rfl⟩
    rw [hr2] at im hp
    rw [hr3] at ip hp
    simp only [hr2] at hl hm
    simp only [hr3] at hl2
    have IM := Lib.hid im
    have IP := Lib.hid ip
    obtain ⟨x, hx⟩ : ∃ x, str (letL n) = x := ⟨_, rfl⟩
    rw [hx] at c0
    by_cases he : x.toList = s.toList
    · have hr' : fnd (f + 1) n (byL s) = some [] := fnd_hit h (by rw [← by_str (letL n), hx, ← toList_by, ← toList_by]; exact he)
      have HR := Lib.hid hr'
      clear im ip hr' hl hl2 hr2 hr3 hx hm hp
      go_enter Tryd.func44, Tryd.ntmps44
      go_wp2
      go_ret2
      exact ⟨by rw [HR.out]; rfl, rfl⟩
    · have hne : letL n ≠ byL s := fun h2 => he (by rw [← hx, str_list, toList_by]; exact h2)
      have heb : (x.toList == s.toList) = false := beq_eq_false_iff_ne.2 he
      cases r2 with
      | some c =>
        have hr' := hm c hne rfl
        have zc : (str c).size ≤ 100 := by rw [str_size]; have := hl c rfl; omega
        have z1 : (9223372036854775807 < 1 + (str c).size) = False := by rw [eq_iff_iff, iff_false]; omega
        have HR := Lib.hid hr'
        clear im ip hr' hl hl2 hr2 hr3 hx hm hp hne
        go_enter Tryd.func44, Tryd.ntmps44
        go_wp2_with fail
        refine (IM.out).mono ?_
        rintro e w' ⟨rfl, rfl⟩
        dsimp only [Option.getD, Option.isSome]
        go_wp2
        go_ret2
        exact ⟨by rw [HR.out]; rfl, rfl⟩
      | none =>
        cases r3 with
        | some c =>
          have hr' := hp hne rfl
          have zc : (str c).size ≤ 100 := by rw [str_size]; have := hl2 c rfl; omega
          have z1 : (9223372036854775807 < 1 + (str c).size) = False := by rw [eq_iff_iff, iff_false]; omega
          have HR := Lib.hid hr'
          clear im ip hr' hl hl2 hr2 hr3 hx hm hp hne
          go_enter Tryd.func44, Tryd.ntmps44
          go_wp2_with fail
          refine (IM.out).mono ?_
          rintro e w' ⟨rfl, rfl⟩
          dsimp only [Option.getD, Option.isSome]
          go_wp2_with fail
          refine (IP.out).mono ?_
          rintro e w' ⟨rfl, rfl⟩
          dsimp only [Option.getD, Option.isSome]
          go_wp2
          go_ret2
          exact ⟨by rw [HR.out]; rfl, rfl⟩
        | none =>
          have hr' := hp hne rfl
          have HR := Lib.hid hr'
          clear im ip hr' hl hl2 hr2 hr3 hx hm hp hne
          go_enter Tryd.func44, Tryd.ntmps44
          go_wp2_with fail
          refine (IM.out).mono ?_
          rintro e w' ⟨rfl, rfl⟩
          dsimp only [Option.getD, Option.isSome]
          go_wp2_with fail
          refine (IP.out).mono ?_
          rintro e w' ⟨rfl, rfl⟩
          dsimp only [Option.getD, Option.isSome]
          go_wp2
          go_ret2
          exact ⟨by rw [HR.out]; rfl, rfl⟩

set_option maxHeartbeats 1000000 in
theorem implSignalCode_b (s : ByteArray) (w : World) : Calls Tryd.prog 12 #[.string s] w (RetB (.string (str (codeV (byL s)))) w) := by
  have HV := Lib.hid (fnd_code (byL s))
  go_enter Tryd.func12, Tryd.ntmps12
  go_wp2_with fail
  refine (codeTree_c _).mono ?_
  rintro e w2 ⟨A, rfl, ht, hb⟩
  have HT := Lib.hid ht
  have HB := Lib.hid hb
  clear ht hb
  go_wp2_with fail
  refine (codeOf_c _ s _ _ _ HT.out (by decide)).mono ?_
  rintro e w' ⟨rfl, rfl⟩
  go_wp2
  go_ret
  exact ⟨by show Ending.returned (.string (str ((fnd 5 1 (byL s)).getD []))) = _; rw [HV.out], HB.out⟩

end Go.Proofs.YtgnolhikphoagaaDoor
