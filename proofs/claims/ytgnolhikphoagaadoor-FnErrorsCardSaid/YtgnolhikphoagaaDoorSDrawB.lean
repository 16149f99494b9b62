/-
  The draws of the other laws of chapter 8.
-/
import Derived.Test.YtgnolhikphoagaaDoorSDraw
import Derived.Test.YtgnolhikphoagaaDoorSDrawW
import Derived.Test.YtgnolhikphoagaaDoorLeS
import Derived.Test.YtgnolhikphoagaaDoorCnv
namespace Go.Proofs.YtgnolhikphoagaaDoor
open Go.RowKit

theorem DrawSignalBack_c (A : Option Addr) (n c : Nat) (w : World) (hn : n ≤ 9223372036854775807) (hnc : n ≤ c) (hb : Bytes w.heap.size w A n) :
    Calls Tryd.prog 27 #[.slice A n c] w (RetDT 80 w) := by
  have Hb := Lib.hid hb
  clear hb
  go_enter Tryd.func27, Tryd.ntmps27
  go_wp2_with fail
  refine (l6Open_c A n c _ hn hnc Hb.out).mono ?_
  rintro e w1 ⟨n', c', rfl, hr1, hb1, hlt1⟩
  have Hr1 := Lib.hid hr1
  have Hb1 := Lib.hid hb1
  clear hr1 hb1
  go_wp2_with fail
  refine (l92Signal_c _ A n' c' 0 _ Hr1.out hlt1 (by omega)).mono ?_
  rintro e w2 ⟨s, q, rfl, hs, hr2, hq, hg2⟩
  have Hb2 := Lib.hid (Hb1.out.grown hg2 Hb1.out.size (fun r e => by injection e with e; omega))
  clear hr2 hg2
  go_wp2
  go_ret
  exact ⟨s, rfl, by omega, Hb2.out⟩

theorem DrawSignalWide_c (A : Option Addr) (n c : Nat) (w : World) (hn : n ≤ 9223372036854775807) (hnc : n ≤ c) (hb : Bytes w.heap.size w A n) :
    Calls Tryd.prog 24 #[.slice A n c] w (RetDT 80 w) := by
  have Hb := Lib.hid hb
  clear hb
  go_enter Tryd.func24, Tryd.ntmps24
  go_wp2_with fail
  refine (l6Open_c A n c _ hn hnc Hb.out).mono ?_
  rintro e w1 ⟨n', c', rfl, hr1, hb1, hlt1⟩
  have Hr1 := Lib.hid hr1
  have Hb1 := Lib.hid hb1
  clear hr1 hb1
  go_wp2_with fail
  refine (l92Signal_c _ A n' c' 0 _ Hr1.out hlt1 (by omega)).mono ?_
  rintro e w2 ⟨s, q, rfl, hs, hr2, hq, hg2⟩
  have Hb2 := Lib.hid (Hb1.out.grown hg2 Hb1.out.size (fun r e => by injection e with e; omega))
  clear hr2 hg2
  go_wp2
  go_ret
  exact ⟨s, rfl, by omega, Hb2.out⟩

theorem DrawSignalDrift_c (A : Option Addr) (n c : Nat) (w : World) (hn : n ≤ 9223372036854775807) (hnc : n ≤ c) (hb : Bytes w.heap.size w A n) :
    Calls Tryd.prog 20 #[.slice A n c] w (RetDT 80 w) := by
  have Hb := Lib.hid hb
  clear hb
  go_enter Tryd.func20, Tryd.ntmps20
  go_wp2_with fail
  refine (l6Open_c A n c _ hn hnc Hb.out).mono ?_
  rintro e w1 ⟨n', c', rfl, hr1, hb1, hlt1⟩
  have Hr1 := Lib.hid hr1
  have Hb1 := Lib.hid hb1
  clear hr1 hb1
  go_wp2_with fail
  refine (l92Signal_c _ A n' c' 0 _ Hr1.out hlt1 (by omega)).mono ?_
  rintro e w2 ⟨s, q, rfl, hs, hr2, hq, hg2⟩
  have Hb2 := Lib.hid (Hb1.out.grown hg2 Hb1.out.size (fun r e => by injection e with e; omega))
  clear hr2 hg2
  go_wp2
  go_ret
  exact ⟨s, rfl, by omega, Hb2.out⟩

theorem DrawSignalErrors_c (A : Option Addr) (n c : Nat) (w : World) (hn : n ≤ 9223372036854775807) (hnc : n ≤ c) (hb : Bytes w.heap.size w A n) :
    Calls Tryd.prog 32 #[.slice A n c] w (RetDT 80 w) := by
  have Hb := Lib.hid hb
  clear hb
  go_enter Tryd.func32, Tryd.ntmps32
  go_wp2_with fail
  refine (l6Open_c A n c _ hn hnc Hb.out).mono ?_
  rintro e w1 ⟨n', c', rfl, hr1, hb1, hlt1⟩
  have Hr1 := Lib.hid hr1
  have Hb1 := Lib.hid hb1
  clear hr1 hb1
  go_wp2_with fail
  refine (l92Signal_c _ A n' c' 0 _ Hr1.out hlt1 (by omega)).mono ?_
  rintro e w2 ⟨s, q, rfl, hs, hr2, hq, hg2⟩
  have Hr2 := Lib.hid hr2
  have hl2 := Nat.lt_of_lt_of_le hlt1 hg2.size
  have Hb2 := Lib.hid (Hb1.out.grown hg2 Hb1.out.size (fun r e => by injection e with e; omega))
  clear hr2 hg2
  go_wp2_with fail
  refine (l92Wrong_c _ A n' c' q s _ Hr2.out hl2 (by omega) hs).mono ?_
  rintro e w3 ⟨t, q3, rfl, ht, hr3, hq3, hg3⟩
  have Hb3 := Lib.hid (Hb2.out.grown hg3 Hb2.out.size (fun r e => by injection e with e; omega))
  clear hr3 hg3
  go_wp2
  go_ret
  exact ⟨t, rfl, ht, Hb3.out⟩

theorem DrawSignalValid_c (A : Option Addr) (n c : Nat) (w : World) (hn : n ≤ 9223372036854775807) (hnc : n ≤ c) (hb : Bytes w.heap.size w A n) :
    Calls Tryd.prog 17 #[.slice A n c] w (RetDT 160 w) := by
  have Hb := Lib.hid hb
  clear hb
  go_enter Tryd.func17, Tryd.ntmps17
  go_wp2_with fail
  refine (l6Open_c A n c _ hn hnc Hb.out).mono ?_
  rintro e w1 ⟨n', c', rfl, hr1, hb1, hlt1⟩
  have Hr1 := Lib.hid hr1
  have Hb1 := Lib.hid hb1
  clear hr1 hb1
  go_wp2_with fail
  refine (l92Signal_c _ A n' c' 0 _ Hr1.out hlt1 (by omega)).mono ?_
  rintro e w2 ⟨s, q, rfl, hs, hr2, hq, hg2⟩
  have Hr2 := Lib.hid hr2
  have hl2 := Nat.lt_of_lt_of_le hlt1 hg2.size
  have Hb2 := Lib.hid (Hb1.out.grown hg2 Hb1.out.size (fun r e => by injection e with e; omega))
  clear hr2 hg2
  go_wp2_with fail
  refine (pick_c _ A n' c' q 12 _ Hr2.out (by omega) (by omega) (by omega)).mono ?_
  rintro e w3 ⟨x, rfl, hx0, hx1, hr3, hg3⟩
  have Hr3 := Lib.hid hr3
  have hl3 := Nat.lt_of_lt_of_le hl2 hg3.size
  have Hb3 := Lib.hid (Hb2.out.grown hg3 Hb2.out.size (fun r e => by injection e with e; omega))
  clear hr3 hg3
  by_cases hx : x = 0
  · subst hx
    have hm := fun W => l6Many_cs 43 76 W (by omega)
    have hz : (str (List.replicate (76 : Int).toNat 43)).size = 76 := by rw [str_size]; rfl
    obtain ⟨T, hT⟩ : ∃ T, str (List.replicate (76 : Int).toNat 43) = T := ⟨_, rfl⟩
    simp only [hT] at hm
    rw [hT] at hz
    have Hm := Lib.hid hm
    have c1 : (s.size : Int) ≤ 8388608 := by omega
    have c2 : (T.size : Int) ≤ 8388608 := by omega
    have c3 : ¬ 9223372036854775807 < s.size + T.size := by omega
    have hsz : (s ++ T).size ≤ 160 := by rw [ByteArray.size_append]; omega
    clear hm hT
    go_wp2_with fail
    refine (Hm.out _).mono ?_
    rintro e w4 ⟨rfl, rfl⟩
    go_wp2
    go_ret
    exact ⟨s ++ T, rfl, hsz, Hb3.out⟩
  · have g2 : (x == 0) = false := by simp [hx]
    go_wp2
    go_ret
    exact ⟨s, rfl, by omega, Hb3.out⟩

theorem DrawSignalLevel_c (A : Option Addr) (n c : Nat) (w : World) (hn : n ≤ 9223372036854775807) (hnc : n ≤ c) (hb : Bytes w.heap.size w A n) :
    Calls Tryd.prog 37 #[.slice A n c] w (RetDT 80 w) := by
  have Hb := Lib.hid hb
  clear hb
  go_enter Tryd.func37, Tryd.ntmps37
  go_wp2_with fail
  refine (l6Open_c A n c _ hn hnc Hb.out).mono ?_
  rintro e w1 ⟨n', c', rfl, hr1, hb1, hlt1⟩
  have Hr1 := Lib.hid hr1
  have Hb1 := Lib.hid hb1
  clear hr1 hb1
  go_wp2_with fail
  refine (pick_c _ A n' c' 0 16 _ Hr1.out (by omega) (by omega) (by omega)).mono ?_
  rintro e w3 ⟨x, rfl, hx0, hx1, hr3, hg3⟩
  have Hr3 := Lib.hid hr3
  have hl3 := Nat.lt_of_lt_of_le hlt1 hg3.size
  have Hb3 := Lib.hid (Hb1.out.grown hg3 Hb1.out.size (fun r e => by injection e with e; omega))
  clear hr3 hg3
  by_cases hx : x = 0
  · subst hx
    go_wp2_with fail
    refine (pick_c _ A n' c' 1 4 _ Hr3.out (by omega) (by omega) (by omega)).mono ?_
    rintro e w4 ⟨y, rfl, hy0, hy1, hr4, hg4⟩
    have Hb4 := Lib.hid (Hb3.out.grown hg4 Hb3.out.size (fun r e => by injection e with e; omega))
    clear hr4 hg4
    have q1 : IntKind.i64.wrap (38 + y) = 38 + y := IntWalk.i64_in _ (by omega)
    have hm := fun W => l6Many_cs 43 (38 + y) W (by omega)
    have hz : (str (List.replicate (38 + y).toNat 43)).size ≤ 80 := by rw [str_size, List.length_replicate]; omega
    obtain ⟨T, hT⟩ : ∃ T, str (List.replicate (38 + y).toNat 43) = T := ⟨_, rfl⟩
    simp only [hT] at hm
    rw [hT] at hz
    have Hm := Lib.hid hm
    clear hm hT
    go_wp2_with fail
    refine (Hm.out _).mono ?_
    rintro e w5 ⟨rfl, rfl⟩
    go_wp2
    go_ret
    exact ⟨T, rfl, hz, Hb4.out⟩
  · have g2 : (x == 0) = false := by simp [hx]
    go_wp2_with fail
    refine (l92Signal_c _ A n' c' 1 _ Hr3.out hl3 (by omega)).mono ?_
    rintro e w4 ⟨s, q, rfl, hs, hr4, hq, hg4⟩
    have Hb4 := Lib.hid (Hb3.out.grown hg4 Hb3.out.size (fun r e => by injection e with e; omega))
    clear hr4 hg4
    go_wp2
    go_ret
    exact ⟨s, rfl, by omega, Hb4.out⟩

theorem DrawSignalFar_c (A : Option Addr) (n c : Nat) (w : World) (hn : n ≤ 9223372036854775807) (hnc : n ≤ c) (hb : Bytes w.heap.size w A n) :
    Calls Tryd.prog 30 #[.slice A n c] w (fun e w' => ∃ s t : ByteArray, e = .returned (.tuple #[.string s, .string t]) ∧ s.size ≤ 80 ∧ t.size ≤ 80 ∧ Below w.heap.size w w') := by
  have Hb := Lib.hid hb
  clear hb
  go_enter Tryd.func30, Tryd.ntmps30
  go_wp2_with fail
  refine (l6Open_c A n c _ hn hnc Hb.out).mono ?_
  rintro e w1 ⟨n', c', rfl, hr1, hb1, hlt1⟩
  have Hr1 := Lib.hid hr1
  have Hb1 := Lib.hid hb1
  clear hr1 hb1
  go_wp2_with fail
  refine (l92Signal_c _ A n' c' 0 _ Hr1.out hlt1 (by omega)).mono ?_
  rintro e w2 ⟨s, q, rfl, hs, hr2, hq, hg2⟩
  have Hr2 := Lib.hid hr2
  have hl2 := Nat.lt_of_lt_of_le hlt1 hg2.size
  have Hb2 := Lib.hid (Hb1.out.grown hg2 Hb1.out.size (fun r e => by injection e with e; omega))
  clear hr2 hg2
  go_wp2_with fail
  refine (pick_c _ A n' c' q 8 _ Hr2.out (by omega) (by omega) (by omega)).mono ?_
  rintro e w3 ⟨x, rfl, hx0, hx1, hr3, hg3⟩
  have Hr3 := Lib.hid hr3
  have hl3 := Nat.lt_of_lt_of_le hl2 hg3.size
  have Hb3 := Lib.hid (Hb2.out.grown hg3 Hb2.out.size (fun r e => by injection e with e; omega))
  clear hr3 hg3
  by_cases hx : x = 0
  · subst hx
    go_wp2_with fail
    refine (l92Signal_c _ A n' c' (q + 1) _ Hr3.out hl3 (by omega)).mono ?_
    rintro e w4 ⟨t, q4, rfl, ht, hr4, hq4, hg4⟩
    have Hb4 := Lib.hid (Hb3.out.grown hg4 Hb3.out.size (fun r e => by injection e with e; omega))
    clear hr4 hg4
    go_wp2
    go_ret2
    exact ⟨s, t, rfl, hs, ht, Hb4.out⟩
  · have g2 : (x == 0) = false := by simp [hx]
    go_wp2_with fail
    refine (l92Wrong_c _ A n' c' (q + 1) s _ Hr3.out hl3 (by omega) hs).mono ?_
    rintro e w4 ⟨t4, q4, rfl, ht4, hr4, hq4, hg4⟩
    have Hr4 := Lib.hid hr4
    have hl4 := Nat.lt_of_lt_of_le hl3 hg4.size
    have Hb4 := Lib.hid (Hb3.out.grown hg4 Hb3.out.size (fun r e => by injection e with e; omega))
    clear hr4 hg4
    go_wp2_with fail
    refine (l92Wrong_c _ A n' c' q4 t4 _ Hr4.out hl4 (by omega) ht4).mono ?_
    rintro e w5 ⟨t5, q5, rfl, ht5, hr5, hq5, hg5⟩
    have Hb5 := Lib.hid (Hb4.out.grown hg5 Hb4.out.size (fun r e => by injection e with e; omega))
    clear hr5 hg5
    go_wp2
    go_ret2
    exact ⟨s, t5, rfl, hs, ht5, Hb5.out⟩

end Go.Proofs.YtgnolhikphoagaaDoor
