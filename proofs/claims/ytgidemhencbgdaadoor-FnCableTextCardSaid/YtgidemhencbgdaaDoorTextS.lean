/-
  CableText of the model.
-/
import Derived.Test.YtgidemhencbgdaaDoorTextI
import Derived.Deep.RegionHeld3
namespace Go.Proofs.YtgidemhencbgdaaDoor
open Go.RowKit

/-- what every world behind a call keeps -/
def KT (w : World) (A : Option Addr) (c : Nat) (ss : List Sec) (w' : World) : Prop := Below w.heap.size w w' ∧ ArgC w' A c ss
theorem KT.go {w a b : World} {A : Option Addr} {c : Nat} {ss : List Sec} (h : KT w A c ss a) (hb : Below a.heap.size a b) : KT w A c ss b := ⟨h.1.trans (hb.mono h.1.size), h.2.go hb⟩
theorem KT.drew {w a : World} {A : Option Addr} {c : Nat} {ss : List Sec} (h : KT w A c ss a) : KT w A c ss a.drew := h.go (Below.refl _ _).drew
theorem KT.cells {w a : World} {b off c : Nat} {ss : List Sec} (h : KT w (some ⟨b, off, none⟩) c ss a) {k : Nat} (hk : k < ss.length) {s : Sec} (hs : secAt ss k = s) :
    a.cell? ⟨b, off + k * 3, none⟩ = some (.int .i64 s.m) ∧ a.cell? ⟨b, off + k * 3 + 1, none⟩ = some (.int .i64 s.k) ∧ a.cell? ⟨b, off + k * 3 + 2, none⟩ = some (.int .i64 s.o) := by
  obtain ⟨b', off', e, _, _, hc⟩ := h.2.rd.at_ hk
  injection e with e
  injection e with e1 e2 _
  subst e1
  subst e2
  rw [hs] at hc
  exact hc
theorem txt_take_len {ss : List Sec} (h : cabB ss = true) (k : Nat) : (txtL (ss.take k)).length ≤ 80 := by
  have hok := cabB_true.1 h
  have ht : (ss.take k).length ≤ 8 := by have := List.length_take_le k ss; have := List.length_take_le' k ss; omega
  cases hx : ss.take k with
  | nil => simp [txtL]
  | cons y r =>
    have := (txtL_facts (s := y) (r := r) (fun z hz => hok.2 z (List.mem_of_mem_take (by rw [hx]; exact hz)))).2.1
    rw [hx] at ht
    omega

theorem more_str (a : List UInt8) (s : Sec) : str a ++ ⟨#[43]⟩ ++ str (decT s.m) ++ ⟨#[109]⟩ ++ str (decT s.k) ++ ⟨#[107]⟩ ++ str (decT s.o) ++ ⟨#[111]⟩ = str (a ++ 43 :: secT s) := by
  show str a ++ str [43] ++ str (decT s.m) ++ str [109] ++ str (decT s.k) ++ str [107] ++ str (decT s.o) ++ str [111] = str (a ++ 43 :: secT s)
  simp only [str_append]
  unfold secT
  simp
theorem first_str (s : Sec) : str [] ++ str (decT s.m) ++ ⟨#[109]⟩ ++ str (decT s.k) ++ ⟨#[107]⟩ ++ str (decT s.o) ++ ⟨#[111]⟩ = str (secT s) := by
  show str [] ++ str (decT s.m) ++ str [109] ++ str (decT s.k) ++ str [107] ++ str (decT s.o) ++ str [111] = str (secT s)
  simp only [str_append]
  rfl

set_option maxHeartbeats 4000000 in
theorem specCableText_b (A : Option Addr) (c : Nat) (ss : List Sec) (w : World) (ha : ArgC w A c ss) :
    Calls Tryd.prog 7 #[.slice A ss.length c] w (RetB (.string (str (textL ss))) w) := by
  obtain ⟨N, hN⟩ : ∃ N, N = if cabB ss then ss.length else 0 := ⟨_, rfl⟩
  have hl := ha.len
  have HA := Lib.hid ha
  have HN := Lib.hid hN
  have hNl : N ≤ ss.length := by rw [hN]; split <;> omega
  clear ha hN
  go_enter Tryd.func7, Tryd.ntmps7
  go_wp2
  go_loopw [3, 4] (fun o i wr => ∃ k : Nat, k ≤ N ∧ i = .int .i64 k ∧ o = .string (str (txtL (ss.take k))) ∧ Below w.heap.size w wr) (fun _ i _ => ss.length - (intOf i).toNat)
  case atStart => exact ⟨0, Nat.zero_le _, rfl, rfl, Below.refl _ _⟩
  case round =>
    obtain ⟨k, hk, rfl, rfl, hbk⟩ := hrel
    have Ha := Lib.hid (HA.out.go hbk)
    have Hbk := Lib.hid hbk
    clear hbk
    by_cases hlt : k < N
    · have hv : cabB ss = true := by
        have := HN.out
        cases h : cabB ss
        · rw [h] at this; simp at this; omega
        · rfl
      have Hv := Lib.hid hv
      have h16 := (cabB_true.1 hv).1.2
      have hkl : k < ss.length := by omega
      have g2 : (k : Int) < (ss.length : Int) := by omega
      obtain ⟨s, hs⟩ : ∃ s, secAt ss k = s := ⟨_, rfl⟩
      have hok : secOk s = true := by rw [← hs, secAt_lt hkl]; exact (cabB_true.1 hv).2 _ (List.getElem_mem hkl)
      obtain ⟨⟨m1, m2⟩, ⟨k1, k2⟩, ⟨o1, o2⟩⟩ := secOk_true.1 hok
      have htk : ss.take (k + 1) = ss.take k ++ [s] := by rw [take_snoc ss hkl, ← hs, secAt_lt hkl]
      have h80 := txt_take_len hv k
      have Htk := Lib.hid htk
      have Hs := Lib.hid hs
      clear hv hok hs htk
      have zm : (str (decT s.m)).size ≤ 2 := by rw [str_size]; exact (decT_len (by omega) (by omega)).2
      have zk : (str (decT s.k)).size ≤ 2 := by rw [str_size]; exact (decT_len (by omega) (by omega)).2
      have zo : (str (decT s.o)).size ≤ 2 := by rw [str_size]; exact (decT_len (by omega) (by omega)).2
      go_wp2_with fail
      refine (specCableValid_c _ c ss _ Ha.out).mono ?_
      rintro e w2 ⟨rfl, hb2⟩
      rw [Hv.out]
      have HK := Lib.hid (show KT w A c ss w2 from ⟨Hbk.out.trans (hb2.mono Hbk.out.size), Ha.out.go hb2⟩)
      obtain ⟨b, off, rfl, _, _, _⟩ := Ha.out.rd.at_ hkl
      clear hb2 Hbk Ha
      obtain ⟨hc0, hc1, hc2⟩ := HK.out.drew.cells hkl Hs.out
      have hC := fun (n : Int) (h0 : 0 ≤ n) (h1 : n ≤ 100) W' (h : KT w (some ⟨b, off, none⟩) c ss W') => (l6Dec_c n W' h0 (by omega)).mono (R' := fun e w'' => e = .returned (.string (str (decT n))) ∧ w''.cell? ⟨b, off + k * 3, none⟩ = some (.int .i64 s.m) ∧ w''.cell? ⟨b, off + k * 3 + 1, none⟩ = some (.int .i64 s.k) ∧ w''.cell? ⟨b, off + k * 3 + 2, none⟩ = some (.int .i64 s.o) ∧ KT w (some ⟨b, off, none⟩) c ss w'')
        fun e w'' ⟨he, hb⟩ => ⟨he, ((h.go hb).cells hkl Hs.out).1, ((h.go hb).cells hkl Hs.out).2.1, ((h.go hb).cells hkl Hs.out).2.2, h.go hb⟩
      have CC := Lib.hid hC
      have HKd := Lib.hid HK.out.drew
      clear hC HK
      by_cases hk0 : k = 0
      · subst hk0
        have CZ := Lib.hid (fun (n : Int) (h0 : 0 ≤ n) (h1 : n ≤ 100) W' (h : KT w (some ⟨b, off, none⟩) c ss W') => (CC.out n h0 h1 W' h).mono (R' := fun e w'' => e = .returned (.string (str (decT n))) ∧ w''.cell? ⟨b, off, none⟩ = some (.int .i64 s.m) ∧ w''.cell? ⟨b, off + 1, none⟩ = some (.int .i64 s.k) ∧ w''.cell? ⟨b, off + 2, none⟩ = some (.int .i64 s.o) ∧ KT w (some ⟨b, off, none⟩) c ss w'')
          fun e w'' ⟨he, a0, a1, a2, hk⟩ => ⟨he, by simpa using a0, by simpa using a1, by simpa using a2, hk⟩)
        simp only [Nat.zero_mul, Nat.add_zero] at hc0 hc1 hc2
        clear CC
        obtain ⟨acc, hacc⟩ : ∃ acc, str (txtL (ss.take 0)) = acc := ⟨_, rfl⟩
        rw [hacc]
        have za : acc.size ≤ 80 := by rw [← hacc, str_size]; exact h80
        have Hacc := Lib.hid hacc
        clear hacc h80
        have z1 : (9223372036854775807 < acc.size + (str (decT s.m)).size) = False := by rw [eq_iff_iff, iff_false]; omega
        have z2 : (9223372036854775807 < acc.size + (str (decT s.m)).size + 1) = False := by rw [eq_iff_iff, iff_false]; omega
        have z3 : (9223372036854775807 < acc.size + (str (decT s.m)).size + 1 + (str (decT s.k)).size) = False := by rw [eq_iff_iff, iff_false]; omega
        have z4 : (9223372036854775807 < acc.size + (str (decT s.m)).size + 1 + (str (decT s.k)).size + 1) = False := by rw [eq_iff_iff, iff_false]; omega
        have z5 : (9223372036854775807 < acc.size + (str (decT s.m)).size + 1 + (str (decT s.k)).size + 1 + (str (decT s.o)).size) = False := by rw [eq_iff_iff, iff_false]; omega
        have z6 : (9223372036854775807 < acc.size + (str (decT s.m)).size + 1 + (str (decT s.k)).size + 1 + (str (decT s.o)).size + 1) = False := by rw [eq_iff_iff, iff_false]; omega
        go_wp2
        go_region_held3 (fun w' => w'.cell? ⟨b, off, none⟩ = some (.int .i64 s.m) ∧ w'.cell? ⟨b, off + 1, none⟩ = some (.int .i64 s.k) ∧ w'.cell? ⟨b, off + 2, none⟩ = some (.int .i64 s.o) ∧ Hid (KT w (some ⟨b, off, none⟩) c ss w')) (first | exact ⟨hc0, hc1, hc2, HKd⟩ | exact ⟨i0, i1, i2, i3⟩ | go_keep)
          (first | (go_at_call 20; refine (CZ.out _ (by omega) (by omega) _ ?_).mono ?_; (first | exact Hid.out (by assumption) | (simp [*])); rintro e w9 ⟨rfl, i0, i1, i2, i3⟩; replace i3 := Lib.hid i3))
        all_goals
          have hKT := (Hid.out (by assumption : Hid (KT w (some ⟨b, off, none⟩) c ss _))).1
          have HKT := Lib.hid hKT
          clear hKT
          go_wp2
          go_roundw
          case rel => exact ⟨1, by omega, rfl, by rw [Htk.out, show ss.take 0 ++ [s] = [s] from rfl, txtL_one, ← first_str, ← Hacc.out]; rfl, HKT.out⟩
          case measure => simp [intOf]; omega
      · have gk : (0 : Int) < (k : Int) := by omega
        obtain ⟨acc, hacc⟩ : ∃ acc, str (txtL (ss.take k)) = acc := ⟨_, rfl⟩
        rw [hacc]
        have za : acc.size ≤ 80 := by rw [← hacc, str_size]; exact h80
        have zb : (9223372036854775807 < acc.size + 1) = False := by rw [eq_iff_iff, iff_false]; omega
        have Hacc := Lib.hid hacc
        clear hacc h80
        have z1 : (9223372036854775807 < acc.size + 1 + (str (decT s.m)).size) = False := by rw [eq_iff_iff, iff_false]; omega
        have z2 : (9223372036854775807 < acc.size + 1 + (str (decT s.m)).size + 1) = False := by rw [eq_iff_iff, iff_false]; omega
        have z3 : (9223372036854775807 < acc.size + 1 + (str (decT s.m)).size + 1 + (str (decT s.k)).size) = False := by rw [eq_iff_iff, iff_false]; omega
        have z4 : (9223372036854775807 < acc.size + 1 + (str (decT s.m)).size + 1 + (str (decT s.k)).size + 1) = False := by rw [eq_iff_iff, iff_false]; omega
        have z5 : (9223372036854775807 < acc.size + 1 + (str (decT s.m)).size + 1 + (str (decT s.k)).size + 1 + (str (decT s.o)).size) = False := by rw [eq_iff_iff, iff_false]; omega
        have z6 : (9223372036854775807 < acc.size + 1 + (str (decT s.m)).size + 1 + (str (decT s.k)).size + 1 + (str (decT s.o)).size + 1) = False := by rw [eq_iff_iff, iff_false]; omega
        go_wp2
        go_region_held3 (fun w' => w'.cell? ⟨b, off + k * 3, none⟩ = some (.int .i64 s.m) ∧ w'.cell? ⟨b, off + k * 3 + 1, none⟩ = some (.int .i64 s.k) ∧ w'.cell? ⟨b, off + k * 3 + 2, none⟩ = some (.int .i64 s.o) ∧ Hid (KT w (some ⟨b, off, none⟩) c ss w')) (first | exact ⟨hc0, hc1, hc2, HKd⟩ | exact ⟨i0, i1, i2, i3⟩ | go_keep)
          (first | (go_at_call 20; refine (CC.out _ (by omega) (by omega) _ ?_).mono ?_; (first | exact Hid.out (by assumption) | (simp [*])); rintro e w9 ⟨rfl, i0, i1, i2, i3⟩; replace i3 := Lib.hid i3))
        all_goals
          have hKT := (Hid.out (by assumption : Hid (KT w (some ⟨b, off, none⟩) c ss _))).1
          have HKT := Lib.hid hKT
          clear hKT
          go_wp2
          go_roundw
          case rel => exact ⟨k + 1, by omega, by go_num, by rw [Htk.out, txtL_snoc _ (by intro e; have := congrArg List.length e; rw [List.length_take, List.length_nil] at this; omega), ← more_str, Hacc.out], HKT.out⟩
          case measure => simp [intOf]; omega
    · obtain rfl : k = N := by omega
      cases hv : cabB ss
      · have hk0 : k = 0 := by
          have := HN.out
          rw [hv] at this
          simpa using this
        subst hk0
        have Ht := Lib.hid (textL_no hv)
        have Hv := Lib.hid hv
        clear hv
        by_cases h1 : 0 < ss.length
        · have g1 : (0 : Int) < (ss.length : Int) := by omega
          go_wp2_with fail
          refine (specCableValid_c A c ss _ Ha.out).mono ?_
          rintro e w2 ⟨rfl, hb2⟩
          rw [Hv.out]
          have Hb2 := Lib.hid (Hbk.out.trans (hb2.mono Hbk.out.size))
          clear hb2
          go_wp2
          go_ret
          exact ⟨by rw [Ht.out]; rfl, Hb2.out⟩
        · have g1 : ¬ ((0 : Int) < (ss.length : Int)) := by omega
          go_wp2
          go_ret
          exact ⟨by rw [Ht.out]; rfl, Hbk.out⟩
      · have hk0 : k = ss.length := by
          have := HN.out
          rw [hv] at this
          simpa using this
        subst hk0
        have Ht := Lib.hid (textL_yes hv)
        clear hv
        have g1 : ¬ ((ss.length : Int) < (ss.length : Int)) := by omega
        go_wp2
        go_ret
        exact ⟨by rw [Ht.out]; rfl, Hbk.out⟩

end Go.Proofs.YtgidemhencbgdaaDoor
