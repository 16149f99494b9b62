/-
  Free lines and what goes out of a station, of the model; enoughChannels of the program. (Written by a program of mine, gen7f.py.)
-/
import Derived.Test.YtnekjhpocfdpnaaTfV
import Derived.BigQuiet
namespace Go.Proofs.Ytnekjhpocfdpnaa
open Go.RowKit

theorem and_f1 {p q r : Bool} (h : p = false) : ((p && q) && r) = false := by rw [h]; rfl
theorem and_f2 {p q r : Bool} (h : q = false) : ((p && q) && r) = false := by rw [h, Bool.and_false]; rfl
theorem and_f3 {p q r : Bool} (h : r = false) : ((p && q) && r) = false := by rw [h, Bool.and_false]
theorem and_t {p q r : Bool} (h1 : p = true) (h2 : q = true) (h3 : r = true) : ((p && q) && r) = true := by rw [h1, h2, h3]; rfl
theorem beq_d {x y : Int} {v : Bool} (h : (x == y) = v) : decide (x = y) = v := by
  subst h
  by_cases h : x = y <;> simp [h]
/-- which way the free line goes: 1 forth, -1 back, 0 none -/
def sgI (N : List Lin) (L : List Int) (a b : Int) : Int := if frI N L a b < 0 then 0 else if forthB N L a b (frI N L a b).toNat then 1 else -1
theorem sgI_none {N : List Lin} {L : List Int} {a b : Int} (h : frI N L a b = -1) : sgI N L a b = 0 := by unfold sgI; rw [h]; rfl
theorem sgI_some {N : List Lin} {L : List Int} {a b : Int} {k : Nat} (h : frI N L a b = (k : Int)) (v : Bool) (hv : forthB N L a b k = v) : sgI N L a b = if v then 1 else -1 := by
  unfold sgI
  rw [h, if_neg (by omega), Int.toNat_natCast, hv]
theorem bump_sg {n : Int} {N : List Lin} {L : List Int} {a b : Int} {k : Nat} (hn : netB n N = true) (hk : k < N.length) (h : frI N L a b = (k : Int)) (hf : frAt N L a b k = true) : bumpV N L a k = ldAt L k + sgI N L a b := by
  have h1 := netB_at hn hk
  unfold bumpV
  cases hv : forthB N L a b k
  · rw [sgI_some h false hv]
    rcases frAt_true.1 hf with ⟨h2, h3, h4⟩ | ⟨h2, h3, h4⟩
    · have : forthB N L a b k = true := by
        unfold forthB
        rw [decide_eq_true h2, decide_eq_true h3, decide_eq_true h4]; rfl
      rw [this] at hv; cases hv
    · have h5 : ¬ (linAt N k).a = a := by omega
      rw [if_neg h5]; simp; omega
  · rw [sgI_some h true hv]
    unfold forthB at hv
    simp only [Bool.and_eq_true, decide_eq_true_eq] at hv
    rw [if_pos hv.1.1]; simp

set_option maxRecDepth 100000 in
set_option maxHeartbeats 4000000 in
theorem l7Free_c (n : Int) (A B : Option Addr) (c d : Nat) (ss : List Lin) (L : List Int) (a b : Int) (w : World) (ha : ArgL w A c ss) (hb : Arg w B d L) (hn : netB n ss = true) (hc : chB ss L = true) :
    Calls Try.prog 53 #[.slice A ss.length c, .slice B L.length d, .int .i64 a, .int .i64 b] w (RetQ (.tuple #[.int .i64 (frI ss L a b), .int .i64 (sgI ss L a b)]) w) := by
  have hl := ha.len
  have hll := (chB_true.1 hc).1
  have hbd : ∀ k, k < ss.length → (1 ≤ (linAt ss k).c ∧ (linAt ss k).c ≤ 9) ∧ -(linAt ss k).c ≤ ldAt L k ∧ ldAt L k ≤ (linAt ss k).c := fun k hk => ⟨(netB_at hn hk).2, (chB_true.1 hc).2 k hk⟩
  have Hbd := Lib.hid hbd
  have Hll := Lib.hid hll
  have HA := Lib.hid ha
  have HB := Lib.hid hb
  clear ha hb hbd hll hc hn
  go_enter Try.func53, Try.ntmps53
  go_wp2
  go_loopw [10] (fun i wr => ∃ k m : Nat, k ≤ ss.length ∧ frNo ss L a b k ∧ i = .int .i64 k ∧ wr = w.drewN m) (fun i _ => ss.length - (intOf i).toNat)
  case atStart => exact ⟨0, 0, Nat.zero_le _, frNo_zero _ _ _ _, rfl, rfl⟩
  case round =>
    obtain ⟨k, m, hk, ho, rfl, rfl⟩ := hrel
    have Ho := Lib.hid ho
    clear ho
    by_cases hlt : k < ss.length
    · have hlt2 : k < L.length := by have := Hll.out; omega
      obtain ⟨b1, off1, rfl, _, hb1, hc0, hc1, hc2⟩ := HA.out.rd.at_ hlt
      obtain ⟨b2, off2, rfl, _, hb2, hd⟩ := HB.out.rd.at_ hlt2
      have hyes := fun h => frNo_succ Ho.out h
      have hsome := fun h => frI_some hlt Ho.out h
      have hsg := fun h v hv => sgI_some (hsome h) v hv
      have hF : frAt ss L a b k = (forthB ss L a b k || backB ss L a b k) := rfl
      have hF1 : forthB ss L a b k = ((decide ((linAt ss k).a = a) && decide ((linAt ss k).b = b)) && decide (ldAt L k < (linAt ss k).c)) := rfl
      have hF2 : backB ss L a b k = ((decide ((linAt ss k).a = b) && decide ((linAt ss k).b = a)) && decide (-ldAt L k < (linAt ss k).c)) := rfl
      have hbk := Hbd.out k hlt
      rw [show L[k]?.getD 0 = ldAt L k from rfl] at hd
      obtain ⟨s, hs⟩ : ∃ s, linAt ss k = s := ⟨_, rfl⟩
      obtain ⟨l, hlk⟩ : ∃ l, ldAt L k = l := ⟨_, rfl⟩
      rw [hs] at hc0 hc1 hc2 hF1 hF2 hbk
      rw [hlk] at hd hF1 hF2 hbk
      have Hyes := Lib.hid hyes
      have Hsome := Lib.hid hsome
      have Hsg := Lib.hid hsg
      have HF := Lib.hid hF
      have HF1 := Lib.hid hF1
      have HF2 := Lib.hid hF2
      obtain ⟨⟨bk1, bk2⟩, bk3, bk4⟩ := hbk
      clear hs hlk hyes hsome hsg hF hF1 hF2
      have g3 : (k : Int) < (ss.length : Int) := by omega
      have g4 : (k : Int) < (L.length : Int) := by omega
      cases x1 : (s.a == a)
      · have X1 := Lib.hid (beq_d x1)
        have N1 := Lib.hid (HF1.out.trans (and_f1 X1.out))
        cases y1 : (s.b == a)
        · have Y1 := Lib.hid (beq_d y1)
          have N2 := Lib.hid (HF2.out.trans (and_f2 Y1.out))
          have N := Lib.hid (Hyes.out (by rw [HF.out, N1.out, N2.out]; rfl))
          go_wp2
          go_quiet (fail)
          go_wp2
          go_quiet (fail)
          go_wp2
          go_roundw
          case rel => exact ⟨k + 1, _, by omega, N.out, by go_num, by first | exact World.drewN_drewN _ _ _ | (rw [World.drewN_drewN]; exact World.drewN_drewN _ _ _) | rfl⟩
          case measure => simp [intOf]; omega
        have Y1 := Lib.hid (beq_d y1)
        cases y2 : (s.a == b)
        · have Y2 := Lib.hid (beq_d y2)
          have N2 := Lib.hid (HF2.out.trans (and_f1 Y2.out))
          have N := Lib.hid (Hyes.out (by rw [HF.out, N1.out, N2.out]; rfl))
          go_wp2
          go_quiet (fail)
          go_wp2
          go_quiet (fail)
          go_wp2
          go_roundw
          case rel => exact ⟨k + 1, _, by omega, N.out, by go_num, by first | exact World.drewN_drewN _ _ _ | (rw [World.drewN_drewN]; exact World.drewN_drewN _ _ _) | rfl⟩
          case measure => simp [intOf]; omega
        have Y2 := Lib.hid (beq_d y2)
        by_cases y3 : 0 - s.c < l
        · have Y3 := Lib.hid (decide_eq_true (by omega : -l < s.c))
          have y4 : decide (0 - s.c < l) = true := decide_eq_true y3
          have y5 : decide (-s.c < l) = true := decide_eq_true (by omega)
          clear y3
          have N2 := Lib.hid (HF2.out.trans (and_t Y2.out Y1.out Y3.out))
          have N := Lib.hid (Hsome.out (by rw [HF.out, N1.out, N2.out]; rfl))
          have M := Lib.hid (Hsg.out (by rw [HF.out, N1.out, N2.out]; rfl) false N1.out)
          go_wp2
          go_quiet (fail)
          go_wp2
          go_quiet (fail)
          go_wp2
          go_ret2
          refine ⟨?_, _, by first | exact World.drewN_drewN _ _ _ | (rw [World.drewN_drewN]; exact World.drewN_drewN _ _ _) | rfl⟩
          rw [N.out, M.out] <;> rfl
        · have Y3 := Lib.hid (decide_eq_false (by omega : ¬ -l < s.c))
          have y4 : decide (0 - s.c < l) = false := decide_eq_false y3
          have y5 : decide (-s.c < l) = false := decide_eq_false (by omega)
          clear y3
          have N2 := Lib.hid (HF2.out.trans (and_f3 Y3.out))
          have N := Lib.hid (Hyes.out (by rw [HF.out, N1.out, N2.out]; rfl))
          go_wp2
          go_quiet (fail)
          go_wp2
          go_quiet (fail)
          go_wp2
          go_roundw
          case rel => exact ⟨k + 1, _, by omega, N.out, by go_num, by first | exact World.drewN_drewN _ _ _ | (rw [World.drewN_drewN]; exact World.drewN_drewN _ _ _) | rfl⟩
          case measure => simp [intOf]; omega
      have X1 := Lib.hid (beq_d x1)
      cases x2 : (s.b == b)
      · have X2 := Lib.hid (beq_d x2)
        have N1 := Lib.hid (HF1.out.trans (and_f2 X2.out))
        cases y1 : (s.b == a)
        · have Y1 := Lib.hid (beq_d y1)
          have N2 := Lib.hid (HF2.out.trans (and_f2 Y1.out))
          have N := Lib.hid (Hyes.out (by rw [HF.out, N1.out, N2.out]; rfl))
          go_wp2
          go_quiet (fail)
          go_wp2
          go_quiet (fail)
          go_wp2
          go_roundw
          case rel => exact ⟨k + 1, _, by omega, N.out, by go_num, by first | exact World.drewN_drewN _ _ _ | (rw [World.drewN_drewN]; exact World.drewN_drewN _ _ _) | rfl⟩
          case measure => simp [intOf]; omega
        have Y1 := Lib.hid (beq_d y1)
        cases y2 : (s.a == b)
        · have Y2 := Lib.hid (beq_d y2)
          have N2 := Lib.hid (HF2.out.trans (and_f1 Y2.out))
          have N := Lib.hid (Hyes.out (by rw [HF.out, N1.out, N2.out]; rfl))
          go_wp2
          go_quiet (fail)
          go_wp2
          go_quiet (fail)
          go_wp2
          go_roundw
          case rel => exact ⟨k + 1, _, by omega, N.out, by go_num, by first | exact World.drewN_drewN _ _ _ | (rw [World.drewN_drewN]; exact World.drewN_drewN _ _ _) | rfl⟩
          case measure => simp [intOf]; omega
        have Y2 := Lib.hid (beq_d y2)
        by_cases y3 : 0 - s.c < l
        · have Y3 := Lib.hid (decide_eq_true (by omega : -l < s.c))
          have y4 : decide (0 - s.c < l) = true := decide_eq_true y3
          have y5 : decide (-s.c < l) = true := decide_eq_true (by omega)
          clear y3
          have N2 := Lib.hid (HF2.out.trans (and_t Y2.out Y1.out Y3.out))
          have N := Lib.hid (Hsome.out (by rw [HF.out, N1.out, N2.out]; rfl))
          have M := Lib.hid (Hsg.out (by rw [HF.out, N1.out, N2.out]; rfl) false N1.out)
          go_wp2
          go_quiet (fail)
          go_wp2
          go_quiet (fail)
          go_wp2
          go_ret2
          refine ⟨?_, _, by first | exact World.drewN_drewN _ _ _ | (rw [World.drewN_drewN]; exact World.drewN_drewN _ _ _) | rfl⟩
          rw [N.out, M.out] <;> rfl
        · have Y3 := Lib.hid (decide_eq_false (by omega : ¬ -l < s.c))
          have y4 : decide (0 - s.c < l) = false := decide_eq_false y3
          have y5 : decide (-s.c < l) = false := decide_eq_false (by omega)
          clear y3
          have N2 := Lib.hid (HF2.out.trans (and_f3 Y3.out))
          have N := Lib.hid (Hyes.out (by rw [HF.out, N1.out, N2.out]; rfl))
          go_wp2
          go_quiet (fail)
          go_wp2
          go_quiet (fail)
          go_wp2
          go_roundw
          case rel => exact ⟨k + 1, _, by omega, N.out, by go_num, by first | exact World.drewN_drewN _ _ _ | (rw [World.drewN_drewN]; exact World.drewN_drewN _ _ _) | rfl⟩
          case measure => simp [intOf]; omega
      have X2 := Lib.hid (beq_d x2)
      by_cases x3 : l < s.c
      · have X3 := Lib.hid (decide_eq_true x3)
        have x4 : decide (l < s.c) = true := decide_eq_true x3
        clear x3
        have N1 := Lib.hid (HF1.out.trans (and_t X1.out X2.out X3.out))
        have N := Lib.hid (Hsome.out (by rw [HF.out, N1.out]; rfl))
        have M := Lib.hid (Hsg.out (by rw [HF.out, N1.out]; rfl) true N1.out)
        go_wp2
        go_quiet (fail)
        go_wp2
        go_ret2
        refine ⟨?_, _, by first | exact World.drewN_drewN _ _ _ | rfl⟩
        rw [N.out, M.out] <;> rfl
      · have X3 := Lib.hid (decide_eq_false x3)
        have x4 : decide (l < s.c) = false := decide_eq_false x3
        clear x3
        have N1 := Lib.hid (HF1.out.trans (and_f3 X3.out))
        cases y1 : (s.b == a)
        · have Y1 := Lib.hid (beq_d y1)
          have N2 := Lib.hid (HF2.out.trans (and_f2 Y1.out))
          have N := Lib.hid (Hyes.out (by rw [HF.out, N1.out, N2.out]; rfl))
          go_wp2
          go_quiet (fail)
          go_wp2
          go_quiet (fail)
          go_wp2
          go_roundw
          case rel => exact ⟨k + 1, _, by omega, N.out, by go_num, by first | exact World.drewN_drewN _ _ _ | (rw [World.drewN_drewN]; exact World.drewN_drewN _ _ _) | rfl⟩
          case measure => simp [intOf]; omega
        have Y1 := Lib.hid (beq_d y1)
        cases y2 : (s.a == b)
        · have Y2 := Lib.hid (beq_d y2)
          have N2 := Lib.hid (HF2.out.trans (and_f1 Y2.out))
          have N := Lib.hid (Hyes.out (by rw [HF.out, N1.out, N2.out]; rfl))
          go_wp2
          go_quiet (fail)
          go_wp2
          go_quiet (fail)
          go_wp2
          go_roundw
          case rel => exact ⟨k + 1, _, by omega, N.out, by go_num, by first | exact World.drewN_drewN _ _ _ | (rw [World.drewN_drewN]; exact World.drewN_drewN _ _ _) | rfl⟩
          case measure => simp [intOf]; omega
        have Y2 := Lib.hid (beq_d y2)
        by_cases y3 : 0 - s.c < l
        · have Y3 := Lib.hid (decide_eq_true (by omega : -l < s.c))
          have y4 : decide (0 - s.c < l) = true := decide_eq_true y3
          have y5 : decide (-s.c < l) = true := decide_eq_true (by omega)
          clear y3
          have N2 := Lib.hid (HF2.out.trans (and_t Y2.out Y1.out Y3.out))
          have N := Lib.hid (Hsome.out (by rw [HF.out, N1.out, N2.out]; rfl))
          have M := Lib.hid (Hsg.out (by rw [HF.out, N1.out, N2.out]; rfl) false N1.out)
          go_wp2
          go_quiet (fail)
          go_wp2
          go_quiet (fail)
          go_wp2
          go_ret2
          refine ⟨?_, _, by first | exact World.drewN_drewN _ _ _ | (rw [World.drewN_drewN]; exact World.drewN_drewN _ _ _) | rfl⟩
          rw [N.out, M.out] <;> rfl
        · have Y3 := Lib.hid (decide_eq_false (by omega : ¬ -l < s.c))
          have y4 : decide (0 - s.c < l) = false := decide_eq_false y3
          have y5 : decide (-s.c < l) = false := decide_eq_false (by omega)
          clear y3
          have N2 := Lib.hid (HF2.out.trans (and_f3 Y3.out))
          have N := Lib.hid (Hyes.out (by rw [HF.out, N1.out, N2.out]; rfl))
          go_wp2
          go_quiet (fail)
          go_wp2
          go_quiet (fail)
          go_wp2
          go_roundw
          case rel => exact ⟨k + 1, _, by omega, N.out, by go_num, by first | exact World.drewN_drewN _ _ _ | (rw [World.drewN_drewN]; exact World.drewN_drewN _ _ _) | rfl⟩
          case measure => simp [intOf]; omega
    · obtain rfl : k = ss.length := by omega
      have N := Lib.hid (frI_none Ho.out)
      have M := Lib.hid (sgI_none N.out)
      go_wp2
      go_ret2
      refine ⟨?_, m, rfl⟩
      rw [N.out, M.out] <;> rfl

end Go.Proofs.Ytnekjhpocfdpnaa
