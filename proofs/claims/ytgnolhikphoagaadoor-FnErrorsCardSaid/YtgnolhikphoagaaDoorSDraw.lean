/-
  Drawn messages and signals: they are short.
-/
import Derived.Test.YtgnolhikphoagaaDoorOpen
import Derived.Test.YtgnolhikphoagaaDoorSoS
import Derived.Lib.Hide
import Derived.Laws.Concat
import Derived.Deep.RegionWith
import Derived.OwnWalk
namespace Go.Proofs.YtgnolhikphoagaaDoor
open Go.RowKit

theorem grown_thenS {a b c : World} {row : Option Nat} (h : a.grownBy b row) (k : b.grownBy c row) : a.grownBy c row :=
  ⟨k.os.trans h.os, k.tape.trans h.tape, k.output.trans h.output, Nat.le_trans h.size k.size, fun i hi hne => (k.block i (Nat.lt_of_lt_of_le hi h.size) hne).trans (h.block i hi hne)⟩
/-- a list of short texts -/
def isTx (m N : Nat) (X : Array Value) : Bool := X.size == N && X.toList.all fun v => match v with | .string s => decide (s.size ≤ m) | _ => false
theorem isTx_at {m N : Nat} {X : Array Value} (h : isTx m N X = true) {k : Nat} (hk : k < N) : ∃ s : ByteArray, X[k]? = some (.string s) ∧ s.size ≤ m := by
  unfold isTx at h
  rw [Bool.and_eq_true, beq_iff_eq, List.all_eq_true] at h
  obtain ⟨h1, h2⟩ := h
  have hx : X[k]? = some (X[k]'(by omega)) := Array.getElem?_eq_getElem (by omega)
  have h3 := h2 (X[k]'(by omega)) (by simp)
  revert h3 hx
  generalize X[k]'(by omega) = v
  intro hx h3
  cases v <;> first | exact ⟨_, hx, by simpa using h3⟩ | exact absurd h3 (by simp)
/-- what a drawn text is: short; the reader has turned by no more than d places -/
def RetTS (R : Nat) (A : Option Addr) (n c p m d : Nat) (w : World) (e : Ending) (w' : World) : Prop :=
  ∃ (s : ByteArray) (q : Nat), e = .returned (.string s) ∧ s.size ≤ m ∧ Reader w' R A n c q ∧ q ≤ p + d ∧ w.grownBy w' (some R)
theorem ofS_c (R : Nat) (A : Option Addr) (n c p b N m : Nat) (X : Array Value) (w : World) (h : Reader w R A n c p) (hp : p ≤ 50000) (hb : w.heap[b]? = some (.cells X 9 (0, 0))) (hbR : R < b)
    (hX : isTx m N X = true) (hN : 0 < N) (hN2 : N ≤ 100) :
    Calls Tryd.prog 42 #[.pointer (some ⟨R, 0, none⟩), .slice (some ⟨b, 0, none⟩) N N] w (RetTS R A n c p m 1 w) := by
  have H := Lib.hid h
  have Hb := Lib.hid hb
  have HX := Lib.hid hX
  have hlt := (Array.getElem?_eq_some_iff.1 hb).1
  clear h hb hX
  go_enter Tryd.func42, Tryd.ntmps42
  go_wp2_with fail
  refine (pick_c R A n c p (N : Int) _ H.out (by omega) (by omega) (by omega)).mono ?_
  rintro e w1 ⟨k, rfl, hk0, hk1, hr1, hg1⟩
  obtain ⟨k, rfl⟩ := Int.eq_ofNat_of_zero_le hk0
  have hb1 : w1.heap[b]? = some (.cells X 9 (0, 0)) := (hg1.block b hlt (by simp; omega)).trans Hb.out
  obtain ⟨s, hs, hsm⟩ := isTx_at HX.out (show k < N by omega)
  have e0 : w1.cell? ⟨b, k, none⟩ = some (.string s) := (cell_of_row w1 b k _ _ _ hb1).trans hs
  have Hr1 := Lib.hid hr1
  have Hg1 := Lib.hid hg1
  have Hsm := Lib.hid hsm
  clear hr1 hg1 hb1 hs hsm
  go_wp2
  go_ret
  exact ⟨s, p + 1, rfl, Hsm.out, Hr1.out, Nat.le_refl _, Hg1.out⟩

/-- a list of texts that is laid, and one of it drawn -/
theorem ofS_new (R : Nat) (A : Option Addr) (n c p : Nat) (wr : World) (h : Reader wr R A n c p) (hp : p ≤ 50000) (hR : R < wr.heap.size) (m N : Nat) (X : Array Value) (hX : isTx m N X = true) (hN : 0 < N) (hN2 : N ≤ 100) :
    Calls Tryd.prog 42 #[.pointer (some ⟨R, 0, none⟩), .slice (some ⟨wr.heap.size, 0, none⟩) N N] (wr.alloc (.cells X 9)) (RetTS R A n c p m 1 wr) :=
  (ofS_c R A n c p wr.heap.size N m X _ (h.kept (grown_alloc (World.grownBy.refl wr none) _) (by simp)) hp (heap_alloc_new wr _) hR hX hN hN2).mono fun _ _ ⟨s, q, e, h1, h2, h3, h4⟩ => ⟨s, q, e, h1, h2, h3, grown_thenS (grown_alloc (World.grownBy.refl wr (some R)) _) h4⟩

set_option maxHeartbeats 2000000 in
theorem l92Message_c (R : Nat) (A : Option Addr) (n c p most : Nat) (w : World) (h : Reader w R A n c p) (hRw : R < w.heap.size) (hp : p ≤ 20000) (hm : most ≤ 20) :
    Calls Tryd.prog 71 #[.pointer (some ⟨R, 0, none⟩), .int .i64 most] w (RetTS R A n c p (most + 13) (most + 3) w) := by
  have H := Lib.hid h
  have q0 : IntKind.i64.wrap ((most : Int) + 1) = (most : Int) + 1 := IntWalk.i64_in _ (by omega)
  clear h
  go_enter Tryd.func71, Tryd.ntmps71
  go_wp2_with fail
  refine (pick_c R A n c p ((most : Int) + 1) _ H.out (by omega) (by omega) (by omega)).mono ?_
  rintro e w1 ⟨N, rfl, hN0, hN1, hr1, hg1⟩
  obtain ⟨N, rfl⟩ := Int.eq_ofNat_of_zero_le hN0
  have H1 := Lib.hid hr1
  have Hg1 := Lib.hid hg1
  clear hr1 hg1 q0
  have hN : N ≤ most := by omega
  go_wp2
  go_loopw [5, 7] (fun sv i wr => ∃ (k q : Nat) (s : ByteArray), k ≤ N ∧ i = .int .i64 k ∧ sv = .string s ∧ s.size ≤ k ∧ q ≤ p + 1 + k ∧ Reader wr R A n c q ∧ w.grownBy wr (some R)) (fun _ i _ => N - (intOf i).toNat)
  case atStart => exact ⟨0, p + 1, ⟨#[]⟩, by omega, rfl, rfl, by decide, by omega, H1.out, Hg1.out⟩
  case round =>
    obtain ⟨k, q, s, hk, rfl, rfl, hsz, hq, hrd, hgk⟩ := hrel
    have Hrd := Lib.hid hrd
    have Hgk := Lib.hid hgk
    have Hsz := Lib.hid hsz
    have hRk := Nat.lt_of_lt_of_le hRw hgk.size
    have Hof := Lib.hid (ofS_new R A n c q wr Hrd.out (by omega) hRk)
    clear hrd hgk hsz
    obtain hlt | hge := Nat.lt_or_ge k N
    · have g1 : (k : Int) < (N : Int) := by omega
      go_wp2_with fail
      refine (Hof.out 1 8 _ (by rfl) (by omega) (by omega)).mono ?_
      rintro e w2 ⟨t, q2, rfl, ht, hr2, hq2, hg2⟩
      have Hr2 := Lib.hid hr2
      have Hg2 := Lib.hid (grown_thenS Hgk.out hg2)
      have Ht := Lib.hid (show (s ++ t).size ≤ k + 1 by rw [ByteArray.size_append]; have := Hsz.out; omega)
      have c1 : (s.size : Int) ≤ 8388608 := by have := Hsz.out; omega
      have c2 : (t.size : Int) ≤ 8388608 := by omega
      have c3 : ¬ 9223372036854775807 < s.size + t.size := by omega
      clear hr2 hg2 ht Hof
      go_wp2
      go_roundw
      case rel => exact ⟨k + 1, q2, s ++ t, by omega, by go_num, rfl, Ht.out, by omega, Hr2.out, Hg2.out⟩
      case measure => simp [intOf]; omega
    · obtain rfl : k = N := by omega
      have g1 : ¬ (k : Int) < (k : Int) := by omega
      clear Hof
      go_wp2_with fail
      refine (pick_c R A n c q 30 _ Hrd.out (by omega) (by omega) (by omega)).mono ?_
      rintro e w2 ⟨x, rfl, hx0, hx1, hr2, hg2⟩
      have Hr2 := Lib.hid hr2
      have Hg2 := Lib.hid (grown_thenS Hgk.out hg2)
      have hR2 := Nat.lt_of_lt_of_le hRk hg2.size
      clear hr2 hg2
      by_cases hx : x = 0
      · subst hx
        have Hof := Lib.hid (ofS_new R A n c (q + 1) w2 Hr2.out (by omega) hR2)
        go_wp2_with fail
        refine (Hof.out 13 3 _ (by rfl) (by omega) (by omega)).mono ?_
        rintro e w3 ⟨t, q3, rfl, ht, hr3, hq3, hg3⟩
        have Hr3 := Lib.hid hr3
        have Hg3 := Lib.hid (grown_thenS Hg2.out hg3)
        have Ht := Lib.hid (show (s ++ t).size ≤ k + 13 by rw [ByteArray.size_append]; have := Hsz.out; omega)
        have c1 : (s.size : Int) ≤ 8388608 := by have := Hsz.out; omega
        have c2 : (t.size : Int) ≤ 8388608 := by omega
        have c3 : ¬ 9223372036854775807 < s.size + t.size := by omega
        clear hr3 hg3 ht Hof
        go_wp2
        go_ret
        exact ⟨s ++ t, q3, rfl, by have := Ht.out; omega, Hr3.out, by omega, Hg3.out⟩
      · have g2 : (x == 0) = false := by simp [hx]
        go_wp2
        go_ret
        exact ⟨s, _, rfl, by have := Hsz.out; omega, Hr2.out, by omega, Hg2.out⟩

theorem ofV_len (t : List UInt8) : (ofV t).length ≤ 60 := by
  cases h : ofOk t
  · rw [ofV_no h]; simp
  · rw [ofV_yes h]
    have h1 := sgT_len t
    have h2 : t.length ≤ 12 := by
      unfold ofOk at h
      rw [Bool.and_eq_true, decide_eq_true_eq] at h
      exact h.1
    omega

set_option maxHeartbeats 4000000 in
theorem l92Signal_c (R : Nat) (A : Option Addr) (n c p : Nat) (w : World) (h : Reader w R A n c p) (hRw : R < w.heap.size) (hp : p ≤ 10000) :
    Calls Tryd.prog 48 #[.pointer (some ⟨R, 0, none⟩)] w (RetTS R A n c p 80 30 w) := by
  have H := Lib.hid h
  clear h
  go_enter Tryd.func48, Tryd.ntmps48
  go_wp2_with fail
  refine (l92Message_c R A n c p 5 _ H.out hRw (by omega) (by omega)).mono ?_
  rintro e w1 ⟨t, q, rfl, ht, hr1, hq, hg1⟩
  have H1 := Lib.hid hr1
  have Hg1 := Lib.hid hg1
  have hR1 := Nat.lt_of_lt_of_le hRw hg1.size
  have HS := Lib.hid (fun w => specSignalOf_c t w (by omega))
  have Hln := Lib.hid (show (str (ofV (byL t))).size ≤ 60 by rw [str_size]; exact ofV_len _)
  obtain ⟨U, hU⟩ : ∃ x, str (ofV (byL t)) = x := ⟨_, rfl⟩
  obtain ⟨o, ho⟩ : ∃ x, ofOk (byL t) = x := ⟨_, rfl⟩
  rw [hU] at Hln HS
  rw [ho] at HS
  clear hr1 hg1 hU ho
  go_wp2_with fail
  refine (HS.out _).mono ?_
  rintro e w2 ⟨rfl, rfl⟩
  clear HS
  cases o
  · clear Hln
    go_wp2_with fail
    refine (pick_c R A n c q 9 _ H1.out (by omega) (by omega) (by omega)).mono ?_
    rintro e v1 ⟨N, rfl, hN0, hN1, ir1, ig1⟩
    obtain ⟨N, rfl⟩ := Int.eq_ofNat_of_zero_le hN0
    have I1 := Lib.hid ir1
    have J1 := Lib.hid (grown_thenS Hg1.out ig1)
    clear ir1 ig1
    have hN : N ≤ 8 := by omega
    go_wp2
    go_loopw [3, 6] (fun sv i wr => ∃ (k q : Nat) (s : ByteArray), k ≤ N ∧ i = .int .i64 k ∧ sv = .string s ∧ s.size ≤ k ∧ q ≤ p + 12 + k ∧ Reader wr R A n c q ∧ w.grownBy wr (some R)) (fun _ i _ => N - (intOf i).toNat)
    case atStart => exact ⟨0, _, ⟨#[]⟩, by omega, rfl, rfl, by decide, by omega, I1.out, J1.out⟩
    case round =>
      obtain ⟨k, q, s, hk, rfl, rfl, hsz, hq, hrd, hgk⟩ := hrel
      have Hrd := Lib.hid hrd
      have Hgk := Lib.hid hgk
      have Hsz := Lib.hid hsz
      have hRk := Nat.lt_of_lt_of_le hRw hgk.size
      have Hof := Lib.hid (ofS_new R A n c q wr Hrd.out (by omega) hRk)
      clear hrd hgk hsz
      obtain hlt | hge := Nat.lt_or_ge k N
      · have g1 : (k : Int) < (N : Int) := by omega
        go_wp2_with fail
        refine (Hof.out 1 4 _ (by rfl) (by omega) (by omega)).mono ?_
        rintro e w2 ⟨t, q2, rfl, ht, hr2, hq2, hg2⟩
        have Hr2 := Lib.hid hr2
        have Hg2 := Lib.hid (grown_thenS Hgk.out hg2)
        have Ht := Lib.hid (show (s ++ t).size ≤ k + 1 by rw [ByteArray.size_append]; have := Hsz.out; omega)
        have c1 : (s.size : Int) ≤ 8388608 := by have := Hsz.out; omega
        have c2 : (t.size : Int) ≤ 8388608 := by omega
        have c3 : ¬ 9223372036854775807 < s.size + t.size := by omega
        clear hr2 hg2 ht Hof
        go_wp2
        go_roundw
        case rel => exact ⟨k + 1, q2, s ++ t, by omega, by go_num, rfl, Ht.out, by omega, Hr2.out, Hg2.out⟩
        case measure => simp [intOf]; omega
      · obtain rfl : k = N := by omega
        have g1 : ¬ (k : Int) < (k : Int) := by omega
        clear Hof
        go_wp2_with fail
        refine (pick_c R A n c q 20 _ Hrd.out (by omega) (by omega) (by omega)).mono ?_
        rintro e w2 ⟨x, rfl, hx0, hx1, hr2, hg2⟩
        have Hr2 := Lib.hid hr2
        have Hg2 := Lib.hid (grown_thenS Hgk.out hg2)
        have hR2 := Nat.lt_of_lt_of_le hRk hg2.size
        clear hr2 hg2
        by_cases hx : x = 0
        · subst hx
          have Hof := Lib.hid (ofS_new R A n c (q + 1) w2 Hr2.out (by omega) hR2)
          go_wp2_with fail
          refine (Hof.out 1 2 _ (by rfl) (by omega) (by omega)).mono ?_
          rintro e w3 ⟨t, q3, rfl, ht, hr3, hq3, hg3⟩
          have Hr3 := Lib.hid hr3
          have Hg3 := Lib.hid (grown_thenS Hg2.out hg3)
          have Ht := Lib.hid (show (s ++ t).size ≤ k + 1 by rw [ByteArray.size_append]; have := Hsz.out; omega)
          have c1 : (s.size : Int) ≤ 8388608 := by have := Hsz.out; omega
          have c2 : (t.size : Int) ≤ 8388608 := by omega
          have c3 : ¬ 9223372036854775807 < s.size + t.size := by omega
          clear hr3 hg3 ht Hof
          go_wp2
          go_ret
          exact ⟨s ++ t, q3, rfl, by have := Ht.out; omega, Hr3.out, by omega, Hg3.out⟩
        · have g2 : (x == 0) = false := by simp [hx]
          go_wp2
          go_ret
          exact ⟨s, _, rfl, by have := Hsz.out; omega, Hr2.out, by omega, Hg2.out⟩
  · go_wp2_with fail
    refine (pick_c R A n c q 3 _ H1.out (by omega) (by omega) (by omega)).mono ?_
    rintro e w2 ⟨x, rfl, hx0, hx1, hr2, hg2⟩
    have H2 := Lib.hid hr2
    have Hg2 := Lib.hid (grown_thenS Hg1.out hg2)
    have hR2 := Nat.lt_of_lt_of_le hR1 hg2.size
    clear hr2 hg2
    by_cases hx : 0 < x
    · have g2 : decide (x > 0) = true := decide_eq_true hx
      go_wp2
      go_ret
      exact ⟨U, _, rfl, by have := Hln.out; omega, H2.out, by omega, Hg2.out⟩
    · obtain rfl : x = 0 := by omega
      clear Hln
      go_wp2_with fail
      refine (pick_c R A n c (q + 1) 9 _ H2.out (by omega) (by omega) (by omega)).mono ?_
      rintro e v1 ⟨N, rfl, hN0, hN1, ir1, ig1⟩
      obtain ⟨N, rfl⟩ := Int.eq_ofNat_of_zero_le hN0
      have I1 := Lib.hid ir1
      have J1 := Lib.hid (grown_thenS Hg2.out ig1)
      clear ir1 ig1
      have hN : N ≤ 8 := by omega
      go_wp2
      go_loopw [3, 6] (fun sv i wr => ∃ (k q : Nat) (s : ByteArray), k ≤ N ∧ i = .int .i64 k ∧ sv = .string s ∧ s.size ≤ k ∧ q ≤ p + 12 + k ∧ Reader wr R A n c q ∧ w.grownBy wr (some R)) (fun _ i _ => N - (intOf i).toNat)
      case atStart => exact ⟨0, _, ⟨#[]⟩, by omega, rfl, rfl, by decide, by omega, I1.out, J1.out⟩
      case round =>
        obtain ⟨k, q, s, hk, rfl, rfl, hsz, hq, hrd, hgk⟩ := hrel
        have Hrd := Lib.hid hrd
        have Hgk := Lib.hid hgk
        have Hsz := Lib.hid hsz
        have hRk := Nat.lt_of_lt_of_le hRw hgk.size
        have Hof := Lib.hid (ofS_new R A n c q wr Hrd.out (by omega) hRk)
        clear hrd hgk hsz
        obtain hlt | hge := Nat.lt_or_ge k N
        · have g1 : (k : Int) < (N : Int) := by omega
          go_wp2_with fail
          refine (Hof.out 1 4 _ (by rfl) (by omega) (by omega)).mono ?_
          rintro e w2 ⟨t, q2, rfl, ht, hr2, hq2, hg2⟩
          have Hr2 := Lib.hid hr2
          have Hg2 := Lib.hid (grown_thenS Hgk.out hg2)
          have Ht := Lib.hid (show (s ++ t).size ≤ k + 1 by rw [ByteArray.size_append]; have := Hsz.out; omega)
          have c1 : (s.size : Int) ≤ 8388608 := by have := Hsz.out; omega
          have c2 : (t.size : Int) ≤ 8388608 := by omega
          have c3 : ¬ 9223372036854775807 < s.size + t.size := by omega
          clear hr2 hg2 ht Hof
          go_wp2
          go_roundw
          case rel => exact ⟨k + 1, q2, s ++ t, by omega, by go_num, rfl, Ht.out, by omega, Hr2.out, Hg2.out⟩
          case measure => simp [intOf]; omega
        · obtain rfl : k = N := by omega
          have g1 : ¬ (k : Int) < (k : Int) := by omega
          clear Hof
          go_wp2_with fail
          refine (pick_c R A n c q 20 _ Hrd.out (by omega) (by omega) (by omega)).mono ?_
          rintro e w2 ⟨x, rfl, hx0, hx1, hr2, hg2⟩
          have Hr2 := Lib.hid hr2
          have Hg2 := Lib.hid (grown_thenS Hgk.out hg2)
          have hR2 := Nat.lt_of_lt_of_le hRk hg2.size
          clear hr2 hg2
          by_cases hx : x = 0
          · subst hx
            have Hof := Lib.hid (ofS_new R A n c (q + 1) w2 Hr2.out (by omega) hR2)
            go_wp2_with fail
            refine (Hof.out 1 2 _ (by rfl) (by omega) (by omega)).mono ?_
            rintro e w3 ⟨t, q3, rfl, ht, hr3, hq3, hg3⟩
            have Hr3 := Lib.hid hr3
            have Hg3 := Lib.hid (grown_thenS Hg2.out hg3)
            have Ht := Lib.hid (show (s ++ t).size ≤ k + 1 by rw [ByteArray.size_append]; have := Hsz.out; omega)
            have c1 : (s.size : Int) ≤ 8388608 := by have := Hsz.out; omega
            have c2 : (t.size : Int) ≤ 8388608 := by omega
            have c3 : ¬ 9223372036854775807 < s.size + t.size := by omega
            clear hr3 hg3 ht Hof
            go_wp2
            go_ret
            exact ⟨s ++ t, q3, rfl, by have := Ht.out; omega, Hr3.out, by omega, Hg3.out⟩
          · have g2 : (x == 0) = false := by simp [hx]
            go_wp2
            go_ret
            exact ⟨s, _, rfl, by have := Hsz.out; omega, Hr2.out, by omega, Hg2.out⟩

/-- a drawn text, for the laws -/
def RetDT (m : Nat) (w : World) (e : Ending) (w' : World) : Prop := ∃ s : ByteArray, e = .returned (.string s) ∧ s.size ≤ m ∧ Below w.heap.size w w'
end Go.Proofs.YtgnolhikphoagaaDoor
