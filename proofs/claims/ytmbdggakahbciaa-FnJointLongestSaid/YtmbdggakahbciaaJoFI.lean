/-
  JointFewest of the program.
-/
import Derived.Test.YtmbdggakahbciaaSpSI
import Derived.Test.YtmbdggakahbciaaKeep
namespace Go.Proofs.Ytmbdggakahbciaa
open Go.RowKit

def fewV (L : List Spr) (kind miles : Int) : Int := if sprB 10 L = true ∧ 1 ≤ miles ∧ miles ≤ 500 then fewG L kind miles else -1
theorem fewV_no1 {L : List Spr} (h : sprB 10 L = false) (kind miles : Int) : fewV L kind miles = -1 := by unfold fewV; rw [if_neg (by rw [h]; simp)]
theorem fewV_no2 {L : List Spr} {miles : Int} (h : inB miles 1 500 = false) (kind : Int) : fewV L kind miles = -1 := by
  unfold fewV
  rw [if_neg]
  rintro ⟨_, h1, h2⟩
  rw [inB_true.2 ⟨h1, h2⟩] at h
  cases h
theorem fewV_yes {L : List Spr} (h : sprB 10 L = true) {miles : Int} (h2 : inB miles 1 500 = true) (kind : Int) : fewV L kind miles = grG kind 0 miles (sortZ L) := by
  unfold fewV
  rw [if_pos ⟨h, (inB_true.1 h2).1, (inB_true.1 h2).2⟩]
  rfl
theorem grG_other {S : List Spr} {i : Nat} (h : i < S.length) {kind : Int} (h1 : ¬ (sprAt S i).k = kind) (c m : Int) : grG kind c m (S.drop i) = grG kind c m (S.drop (i + 1)) := by
  rw [List.drop_eq_getElem_cons h, grG, if_neg (by rw [← sprAt_lt h]; exact h1)]
theorem grG_end {S : List Spr} {i : Nat} (h : i < S.length) {kind : Int} (h1 : (sprAt S i).k = kind) {c m : Int} (h2 : m - (sprAt S i).m ≤ 0) : grG kind c m (S.drop i) = c := by
  rw [List.drop_eq_getElem_cons h, grG, if_pos (by rw [← sprAt_lt h]; exact h1), if_pos (by rw [← sprAt_lt h]; exact h2)]
theorem grG_on {S : List Spr} {i : Nat} (h : i < S.length) {kind : Int} (h1 : (sprAt S i).k = kind) {c m : Int} (h2 : ¬ m - (sprAt S i).m ≤ 0) : grG kind c m (S.drop i) = grG kind (c + 1) (m - (sprAt S i).m) (S.drop (i + 1)) := by
  rw [List.drop_eq_getElem_cons h, grG, if_pos (by rw [← sprAt_lt h]; exact h1), if_neg (by rw [← sprAt_lt h]; exact h2), sprAt_lt h]

set_option maxRecDepth 100000 in
set_option maxHeartbeats 2000000 in
theorem implJointFewest_b (A : Option Addr) (c : Nat) (L : List Spr) (kind miles : Int) (w : World) (ha : ArgZ w A c L) :
    Calls Try.prog 33 #[.slice A L.length c, .int .i64 kind, .int .i64 miles] w (RetB (.int .i64 (fewV L kind miles)) w) := by
  have HA := Lib.hid ha
  clear ha
  go_enter Try.func33, Try.ntmps33
  go_wp2_with fail
  refine (implSparesSort_b A c L _ HA.out).mono ?_
  rintro e w1 ⟨B1, d1, rfl, ra1, ro1, rb1⟩
  dsimp only
  have Hb1 := Lib.hid rb1
  have Hr1 := Lib.hid ra1
  clear ra1 ro1 rb1
  cases hv : sprB 10 L
  · have Hv := Lib.hid hv
    clear hv
    go_wp2
    go_ret
    exact ⟨by rw [fewV_no1 Hv.out]; rfl, Hb1.out⟩
  have Hv := Lib.hid hv
  have hr := Hr1.out
  rw [sortR_yes hv] at hr ⊢
  replace Hr1 := Lib.hid hr
  have hok := sortZ_ok hv
  obtain ⟨S, hS⟩ : ∃ S, sortZ L = S := ⟨_, rfl⟩
  rw [hS] at hok Hr1 ⊢
  have hl10 := (sprB_true.1 hok).1
  have Hok := Lib.hid hok
  have HS := Lib.hid hS
  clear hv hr hok hS
  go_wp2_with fail
  refine (inRange_c _ _ _ _).mono ?_
  rintro e w2 ⟨rfl, rfl⟩
  cases hm : inB miles 1 500
  · have Hm := Lib.hid hm
    clear hm
    go_wp2
    go_ret
    exact ⟨by rw [fewV_no2 Hm.out]; rfl, Hb1.out⟩
  have Hm := Lib.hid hm
  obtain ⟨hm1, hm2⟩ := inB_true.1 hm
  have Hf := Lib.hid (show fewV L kind miles = grG kind 0 miles (S.drop 0) by rw [fewV_yes Hv.out hm, HS.out, List.drop_zero])
  clear hm
  go_wp2
  go_loopw [2, 9, 26] (fun mv cv iv wr => ∃ (i c : Nat) (m : Int), i ≤ S.length ∧ c ≤ i ∧ 1 ≤ m ∧ m ≤ 500 ∧ iv = .int .i64 i ∧ cv = .int .i64 c ∧ mv = .int .i64 m ∧ fewV L kind miles = grG kind c m (S.drop i) ∧ Below w1.heap.size w1 wr) (fun _ _ iv _ => S.length - (intOf iv).toNat)
  case atStart => exact ⟨0, 0, miles, Nat.zero_le _, Nat.le_refl _, hm1, hm2, rfl, rfl, rfl, Hf.out, Below.refl _ _⟩
  case round =>
    obtain ⟨i, c, m, hi, hci, m1, m2, rfl, rfl, rfl, hf, hb⟩ := hrel
    have Hff := Lib.hid hf
    have Hb := Lib.hid hb
    clear hf hb
    by_cases hlt : i < S.length
    · obtain ⟨b, off, rfl, _, hbw, hc0, hc1⟩ := (Hr1.out.go Hb.out).rd.at_ hlt
      have hbd := (sprB_at Hok.out hlt).1
      have Ho := Lib.hid (fun h1 => grG_other (S := S) (kind := kind) hlt h1 c m)
      have He := Lib.hid (fun h1 h2 => grG_end (S := S) (kind := kind) (c := c) (m := m) hlt h1 h2)
      have Hn := Lib.hid (fun h1 h2 => grG_on (S := S) (kind := kind) (c := c) (m := m) hlt h1 h2)
      obtain ⟨s, hs⟩ : ∃ s, sprAt S i = s := ⟨_, rfl⟩
      rw [hs] at hc0 hc1 hbd Ho He Hn
      obtain ⟨hbd1, hbd2⟩ := hbd
      have g1 : (i : Int) < (S.length : Int) := by omega
      clear hs
      by_cases hk2 : s.k = kind
      · have q1 : IntKind.i64.wrap (m - s.m) = m - s.m := IntWalk.i64_in _ (by omega)
        have hkb : (s.k != kind) = false := by simp [hk2]
        by_cases hle : m - s.m ≤ 0
        · have Hx := Lib.hid (Hff.out.trans (He.out hk2 hle))
          clear hk2
          go_wp2
          go_ret
          exact ⟨by rw [Hx.out]; go_num, below_step Hb1.out (Hb.out.alloc Hb.out.size _)⟩
        · have Hx := Lib.hid (Hff.out.trans (Hn.out hk2 hle))
          clear hk2
          go_wp2
          go_roundw
          case rel => exact ⟨i + 1, c + 1, m - s.m, by omega, by omega, by omega, by omega, by go_num, by go_num, rfl, by rw [Hx.out]; congr 1, Hb.out.alloc Hb.out.size _⟩
          case measure => simp [intOf]; omega
      · have Hx := Lib.hid (Hff.out.trans (Ho.out hk2))
        have hkb : (s.k != kind) = true := by simp [hk2]
        clear hk2
        go_wp2
        go_roundw
        case rel => exact ⟨i + 1, c, m, by omega, by omega, m1, m2, by go_num, rfl, rfl, Hx.out, Hb.out.alloc Hb.out.size _⟩
        case measure => simp [intOf]; omega
    · obtain rfl : i = S.length := by omega
      have Hx := Lib.hid (show fewV L kind miles = -1 by rw [Hff.out, List.drop_length]; rfl)
      go_wp2
      go_ret
      exact ⟨by rw [Hx.out]; rfl, below_step Hb1.out Hb.out⟩

end Go.Proofs.Ytmbdggakahbciaa
