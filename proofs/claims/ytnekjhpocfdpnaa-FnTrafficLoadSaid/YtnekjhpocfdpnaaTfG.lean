/-
  freeLine of the program. (Written by a program of mine, gen7g.py.)
-/
import Derived.Test.YtnekjhpocfdpnaaTfU
namespace Go.Proofs.Ytnekjhpocfdpnaa
open Go.RowKit Go.Maps

theorem Usg.look {W : World} {b : Nat} {L : List Int} (h : Usg W b L) : ∃ D : DataW Unit, W.ownsMap Try.prog 3 (plainElem Try.prog 3) b L.length D ∧ Maps.size D = L.length ∧ UsD D L := by
  obtain ⟨D, h1, h2, h3⟩ := h
  exact ⟨D, h1, h3, h2⟩
set_option maxRecDepth 100000 in
theorem Usg.run {W : World} {b : Nat} {L : List Int} (h : Usg W b L) {k : Nat} (hk : k < L.length) (hw : (Lit.int .i64 (k : Int)).wf = true) : (Instr.lookup 51 (.map (some b)) (.int .i64 (k : Int)) false).run Try.prog W = .ok (.int .i64 (ldAt L k)) W := by
  obtain ⟨D, h1, h2, _⟩ := h
  obtain ⟨c, hrun, hat, _⟩ := h1.lookup_int keyI Try.underlying51 Try.underlying3 (zeroI _) (keyOf_int_mk Try.underlying3 hw)
  rw [h2.1 k hk] at hat
  injection hat with hc
  injection hc with _ hc
  rw [hrun, hc]
theorem usd_at {D : DataW Unit} {L : List Int} (h : UsD D L) {k : Nat} (hk : k < L.length) {c : Int} (hc : D.atKey (.int .i64 (k : Int)) (.lit (.int .i64 0)) = .lit (.int .i64 c)) : c = ldAt L k := by
  rw [h.1 k hk] at hc
  injection hc with hc
  injection hc with _ hc
  exact hc.symm

set_option maxRecDepth 100000 in
set_option maxHeartbeats 4000000 in
theorem freeLine_c (n : Int) (A : Option Addr) (c B : Nat) (ss : List Lin) (L : List Int) (a b : Int) (w : World) (ha : ArgL w A c ss) (hu : Usg w B L) (hn : netB n ss = true) (hc : chB ss L = true) :
    Calls Try.prog 48 #[.map (some B), .slice A ss.length c, .int .i64 a, .int .i64 b] w (RetB (.int .i64 (frI ss L a b)) w) := by
  have hl := ha.len
  have hll := (chB_true.1 hc).1
  have hbd : ∀ k, k < ss.length → (1 ≤ (linAt ss k).c ∧ (linAt ss k).c ≤ 9) ∧ -(linAt ss k).c ≤ ldAt L k ∧ ldAt L k ≤ (linAt ss k).c := fun k hk => ⟨(netB_at hn hk).2, (chB_true.1 hc).2 k hk⟩
  have Hbd := Lib.hid hbd
  have Hll := Lib.hid hll
  have HA := Lib.hid ha
  have HU := Lib.hid hu
  clear ha hu hbd hll hc hn
  go_enter Try.func48, Try.ntmps48
  go_wp2
  go_loopw [15] (fun i wr => ∃ k : Nat, k ≤ ss.length ∧ frNo ss L a b k ∧ i = .int .i64 k ∧ Below w.heap.size w wr) (fun i _ => ss.length - (intOf i).toNat)
  case atStart => exact ⟨0, Nat.zero_le _, frNo_zero _ _ _ _, rfl, Below.refl _ _⟩
  case round =>
    obtain ⟨k, hk, ho, rfl, hb⟩ := hrel
    have Ho := Lib.hid ho
    have Hb := Lib.hid hb
    clear ho hb
    by_cases hlt : k < ss.length
    · have hlt2 : k < L.length := by have := Hll.out; omega
      obtain ⟨b1, off1, rfl, _, hb1, hc0, hc1, hc2⟩ := (HA.out.go Hb.out).rd.at_ hlt
      have hrun := fun (o : Obj) => ((HU.out.go Hb.out).go ((Below.refl wr.heap.size wr).alloc (Nat.le_refl _) o)).run hlt2 (wf_of (by omega : -9223372036854775808 ≤ (k : Int) ∧ (k : Int) ≤ 9223372036854775807))
      have hyes := fun h => frNo_succ Ho.out h
      have hsome := fun h => frI_some hlt Ho.out h
      have hF : frAt ss L a b k = (forthB ss L a b k || backB ss L a b k) := rfl
      have hF1 : forthB ss L a b k = ((decide ((linAt ss k).a = a) && decide ((linAt ss k).b = b)) && decide (ldAt L k < (linAt ss k).c)) := rfl
      have hF2 : backB ss L a b k = ((decide ((linAt ss k).a = b) && decide ((linAt ss k).b = a)) && decide (-ldAt L k < (linAt ss k).c)) := rfl
      have hbk := Hbd.out k hlt
      obtain ⟨s, hs⟩ : ∃ s, linAt ss k = s := ⟨_, rfl⟩
      obtain ⟨l, hlk⟩ : ∃ l, ldAt L k = l := ⟨_, rfl⟩
      rw [hs] at hc0 hc1 hc2 hF1 hF2 hbk
      rw [hlk] at hrun hF1 hF2 hbk
      have Hyes := Lib.hid hyes
      have Hsome := Lib.hid hsome
      have HF := Lib.hid hF
      have HF1 := Lib.hid hF1
      have HF2 := Lib.hid hF2
      obtain ⟨⟨bk1, bk2⟩, bk3, bk4⟩ := hbk
      clear hs hlk hyes hsome hF hF1 hF2
      have g3 : (k : Int) < (ss.length : Int) := by omega
      cases x1 : (s.a == a)
      · have X1 := Lib.hid (beq_d x1)
        have N1 := Lib.hid (HF1.out.trans (and_f1 X1.out))
        cases y1 : (s.a == b)
        · have Y1 := Lib.hid (beq_d y1)
          have N2 := Lib.hid (HF2.out.trans (and_f1 Y1.out))
          have N := Lib.hid (Hyes.out (by rw [HF.out, N1.out, N2.out]; rfl))
          go_wp2
          go_roundw
          case rel => exact ⟨k + 1, by omega, N.out, by go_num, Hb.out.alloc Hb.out.size _⟩
          case measure => simp [intOf]; omega
        have Y1 := Lib.hid (beq_d y1)
        cases y2 : (s.b == a)
        · have Y2 := Lib.hid (beq_d y2)
          have N2 := Lib.hid (HF2.out.trans (and_f2 Y2.out))
          have N := Lib.hid (Hyes.out (by rw [HF.out, N1.out, N2.out]; rfl))
          go_wp2
          go_roundw
          case rel => exact ⟨k + 1, by omega, N.out, by go_num, Hb.out.alloc Hb.out.size _⟩
          case measure => simp [intOf]; omega
        have Y2 := Lib.hid (beq_d y2)
        by_cases y3 : -l < s.c
        · have Y3 := Lib.hid (decide_eq_true y3)
          have N2 := Lib.hid (HF2.out.trans (and_t Y1.out Y2.out Y3.out))
          have N := Lib.hid (Hsome.out (by rw [HF.out, N1.out, N2.out]; rfl))
          go_wp2
          go_ret
          exact ⟨by rw [N.out] <;> rfl, Hb.out.alloc Hb.out.size _⟩
        · have Y3 := Lib.hid (decide_eq_false y3)
          have N2 := Lib.hid (HF2.out.trans (and_f3 Y3.out))
          have N := Lib.hid (Hyes.out (by rw [HF.out, N1.out, N2.out]; rfl))
          go_wp2
          go_roundw
          case rel => exact ⟨k + 1, by omega, N.out, by go_num, Hb.out.alloc Hb.out.size _⟩
          case measure => simp [intOf]; omega
      have X1 := Lib.hid (beq_d x1)
      cases x2 : (s.b == b)
      · have X2 := Lib.hid (beq_d x2)
        have N1 := Lib.hid (HF1.out.trans (and_f2 X2.out))
        cases y1 : (s.a == b)
        · have Y1 := Lib.hid (beq_d y1)
          have N2 := Lib.hid (HF2.out.trans (and_f1 Y1.out))
          have N := Lib.hid (Hyes.out (by rw [HF.out, N1.out, N2.out]; rfl))
          go_wp2
          go_roundw
          case rel => exact ⟨k + 1, by omega, N.out, by go_num, Hb.out.alloc Hb.out.size _⟩
          case measure => simp [intOf]; omega
        have Y1 := Lib.hid (beq_d y1)
        cases y2 : (s.b == a)
        · have Y2 := Lib.hid (beq_d y2)
          have N2 := Lib.hid (HF2.out.trans (and_f2 Y2.out))
          have N := Lib.hid (Hyes.out (by rw [HF.out, N1.out, N2.out]; rfl))
          go_wp2
          go_roundw
          case rel => exact ⟨k + 1, by omega, N.out, by go_num, Hb.out.alloc Hb.out.size _⟩
          case measure => simp [intOf]; omega
        have Y2 := Lib.hid (beq_d y2)
        by_cases y3 : -l < s.c
        · have Y3 := Lib.hid (decide_eq_true y3)
          have N2 := Lib.hid (HF2.out.trans (and_t Y1.out Y2.out Y3.out))
          have N := Lib.hid (Hsome.out (by rw [HF.out, N1.out, N2.out]; rfl))
          go_wp2
          go_ret
          exact ⟨by rw [N.out] <;> rfl, Hb.out.alloc Hb.out.size _⟩
        · have Y3 := Lib.hid (decide_eq_false y3)
          have N2 := Lib.hid (HF2.out.trans (and_f3 Y3.out))
          have N := Lib.hid (Hyes.out (by rw [HF.out, N1.out, N2.out]; rfl))
          go_wp2
          go_roundw
          case rel => exact ⟨k + 1, by omega, N.out, by go_num, Hb.out.alloc Hb.out.size _⟩
          case measure => simp [intOf]; omega
      have X2 := Lib.hid (beq_d x2)
      by_cases x3 : l < s.c
      · have X3 := Lib.hid (decide_eq_true x3)
        have N1 := Lib.hid (HF1.out.trans (and_t X1.out X2.out X3.out))
        have N := Lib.hid (Hsome.out (by rw [HF.out, N1.out]; rfl))
        cases y1 : (s.a == b)
        · skip
          go_wp2
          go_ret
          exact ⟨by rw [N.out] <;> rfl, Hb.out.alloc Hb.out.size _⟩
        cases y2 : (s.b == a)
        · skip
          go_wp2
          go_ret
          exact ⟨by rw [N.out] <;> rfl, Hb.out.alloc Hb.out.size _⟩
        by_cases y3 : -l < s.c
        · skip
          go_wp2
          go_ret
          exact ⟨by rw [N.out] <;> rfl, Hb.out.alloc Hb.out.size _⟩
        · skip
          go_wp2
          go_ret
          exact ⟨by rw [N.out] <;> rfl, Hb.out.alloc Hb.out.size _⟩
      · have X3 := Lib.hid (decide_eq_false x3)
        have N1 := Lib.hid (HF1.out.trans (and_f3 X3.out))
        cases y1 : (s.a == b)
        · have Y1 := Lib.hid (beq_d y1)
          have N2 := Lib.hid (HF2.out.trans (and_f1 Y1.out))
          have N := Lib.hid (Hyes.out (by rw [HF.out, N1.out, N2.out]; rfl))
          go_wp2
          go_roundw
          case rel => exact ⟨k + 1, by omega, N.out, by go_num, Hb.out.alloc Hb.out.size _⟩
          case measure => simp [intOf]; omega
        have Y1 := Lib.hid (beq_d y1)
        cases y2 : (s.b == a)
        · have Y2 := Lib.hid (beq_d y2)
          have N2 := Lib.hid (HF2.out.trans (and_f2 Y2.out))
          have N := Lib.hid (Hyes.out (by rw [HF.out, N1.out, N2.out]; rfl))
          go_wp2
          go_roundw
          case rel => exact ⟨k + 1, by omega, N.out, by go_num, Hb.out.alloc Hb.out.size _⟩
          case measure => simp [intOf]; omega
        have Y2 := Lib.hid (beq_d y2)
        by_cases y3 : -l < s.c
        · have Y3 := Lib.hid (decide_eq_true y3)
          have N2 := Lib.hid (HF2.out.trans (and_t Y1.out Y2.out Y3.out))
          have N := Lib.hid (Hsome.out (by rw [HF.out, N1.out, N2.out]; rfl))
          go_wp2
          go_ret
          exact ⟨by rw [N.out] <;> rfl, Hb.out.alloc Hb.out.size _⟩
        · exfalso; omega
    · obtain rfl : k = ss.length := by omega
      have N := Lib.hid (frI_none Ho.out)
      go_wp2
      go_ret
      exact ⟨by rw [N.out] <;> rfl, Hb.out⟩

end Go.Proofs.Ytnekjhpocfdpnaa
