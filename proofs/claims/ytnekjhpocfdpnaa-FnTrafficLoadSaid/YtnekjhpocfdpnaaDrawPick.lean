/-
  The reader of a code and its picks: every pick lies in its range, and only the reader's place has turned.
-/
import Derived.Test.YtnekjhpocfdpnaaMem
import Derived.Test.YtnekjhpocfdpnaaProg
namespace Go.Proofs.Ytnekjhpocfdpnaa
open Go.RowKit

/-- A SLICE OF BYTES: each cell holds a byte. -/
def Bytes (hi : Nat) (W : World) (A : Option Addr) (n : Nat) : Prop :=
  0 < n → ∃ b off, A = some ⟨b, off, none⟩ ∧ b < hi ∧ ∀ j, j < n → ∃ v : Int, 0 ≤ v ∧ v ≤ 255 ∧ W.cell? ⟨b, off + j, none⟩ = some (.int .u8 v)
theorem Bytes.grown {hi : Nat} {W W' : World} {A : Option Addr} {n : Nat} (h : Bytes hi W A n) {row : Option Nat} (hg : W.grownBy W' row) (hr : ∀ r, row = some r → hi ≤ r) : Bytes hi W' A n := fun hn => by
  obtain ⟨b, off, e, h2, hc⟩ := h hn
  refine ⟨b, off, e, h2, fun j hj => ?_⟩
  obtain ⟨v, h0, h1, h3⟩ := hc j hj
  exact ⟨v, h0, h1, (World.cell?_of_block (hg.block b (World.block_lt_of_cell? _ _ h3) (fun e2 => by have := hr b e2.symm; omega))).trans h3⟩

/-- THE READER AT BLOCK R: the code's bytes (below R), the place p. -/
def Reader (W : World) (R : Nat) (A : Option Addr) (n c p : Nat) : Prop :=
  W.heap[R]? = some (.cells #[.slice A n c, .int .i64 (p : Int)] 66 (0, 0)) ∧ n ≤ 2000 ∧ Bytes R W A n
theorem Reader.kept {W W' : World} {R : Nat} {A : Option Addr} {n c p : Nat} (h : Reader W R A n c p) {row : Option Nat} (hg : W.grownBy W' row) (hr : ∀ r, row = some r → R < r) : Reader W' R A n c p :=
  ⟨(hg.block R (Array.getElem?_eq_some_iff.1 h.1).1 (fun e => by have := hr R e.symm; omega)).trans h.1, h.2.1, h.2.2.grown hg (fun r e => by have := hr r e; omega)⟩
theorem Reader.set {W : World} {R : Nat} {A : Option Addr} {n c p : Nat} (h : Reader W R A n c p) (q : Nat) : Reader (W.setCell ⟨R, 1, none⟩ (.int .i64 (q : Int))) R A n c q := by
  refine ⟨?_, h.2.1, h.2.2.grown (row := some R) ⟨rfl, rfl, rfl, by simp [World.setCell], fun k _ hk => Below.heap_setCell _ _ _ k (fun e => hk (by rw [e]))⟩ (fun r e => by cases e; exact Nat.le_refl _)⟩
  have := h.1
  simp [World.setCell, Array.getElem?_modify, this]
theorem Reader.cell0 {W : World} {R : Nat} {A : Option Addr} {n c p : Nat} (h : Reader W R A n c p) : W.cell? ⟨R, 0, none⟩ = some (.slice A n c) := cell_of_row _ _ 0 _ _ _ h.1
theorem Reader.cell1 {W : World} {R : Nat} {A : Option Addr} {n c p : Nat} (h : Reader W R A n c p) : W.cell? ⟨R, 1, none⟩ = some (.int .i64 (p : Int)) := cell_of_row _ _ 1 _ _ _ h.1
theorem Reader.frozen {W : World} {R : Nat} {A : Option Addr} {n c p : Nat} (h : Reader W R A n c p) (i : Nat) : W.frozen? ⟨R, i, none⟩ = false := by simp [World.frozen?, h.1]
theorem Reader.drewN {W : World} {R : Nat} {A : Option Addr} {n c p : Nat} (h : Reader W R A n c p) (k : Nat) : Reader (W.drewN k) R A n c p := h

/-- WHAT A PICK LEAVES: a number in the range; the reader one place further; nothing else. -/
def RetPick (R : Nat) (A : Option Addr) (n c p : Nat) (m : Int) (w : World) (e : Ending) (w' : World) : Prop :=
  ∃ k : Int, e = .returned (.int .i64 k) ∧ 0 ≤ k ∧ k < m ∧ Reader w' R A n c (p + 1) ∧ w.grownBy w' (some R)

theorem pick_end {R : Nat} {A : Option Addr} {n c p : Nat} {m k : Int} {w : World} (h : Reader w R A n c p) (h0 : 0 ≤ k) (h1 : k < m) (j : Nat) :
    RetPick R A n c p m w (.returned (.int .i64 k)) ((w.setCell ⟨R, 1, none⟩ (.int .i64 ((p : Int) + 1))).drewN j) :=
  ⟨k, rfl, h0, h1, (by have := (h.set (p + 1)).drewN j; simpa using this), ⟨rfl, rfl, rfl, by simp [World.setCell, World.drewN], fun i _ hi => Below.heap_setCell _ _ _ i (fun e => hi (by rw [e]))⟩⟩

theorem xor_nn (a b : Nat) (ha : a < 1099511627776) (hb : b < 1099511627776) : 0 ≤ bits BinOp.xor IntKind.i64 (a : Int) (b : Int) := by
  have h1 : a ^^^ b < 2 ^ 40 := Nat.xor_lt_two_pow (by omega) (by omega)
  have e : bits BinOp.xor IntKind.i64 (a : Int) (b : Int) = IntKind.i64.wrap ((a ^^^ b : Nat) : Int) := by
    have hA : (BitVec.ofInt 64 (a : Int)).toNat = a := by
      rw [BitVec.ofInt_natCast, BitVec.toNat_ofNat]
      exact Nat.mod_eq_of_lt (by omega)
    have hB : (BitVec.ofInt 64 (b : Int)).toNat = b := by
      rw [BitVec.ofInt_natCast, BitVec.toNat_ofNat]
      exact Nat.mod_eq_of_lt (by omega)
    show IntKind.i64.wrap ((BitVec.ofInt 64 (a : Int) ^^^ BitVec.ofInt 64 (b : Int)).toNat : Int) = _
    rw [BitVec.toNat_xor, hA, hB]
  rw [e, IntWalk.i64_in _ (by omega)]
  omega
set_option maxRecDepth 100000 in
set_option maxHeartbeats 2000000 in
theorem pick_c (R : Nat) (A : Option Addr) (n c p : Nat) (m : Int) (w : World) (h : Reader w R A n c p) (hp : p ≤ 100000) (hm0 : 1 ≤ m) (hm1 : m ≤ 100000) :
    Calls Try.prog 40 #[.pointer (some ⟨R, 0, none⟩), .int .i64 m] w (RetPick R A n c p m w) := by
  have hc0 := h.cell0
  have hc1 := h.cell1
  have hf1 := h.frozen 1
  have hc9 := (h.set (p + 1)).cell0
  have hc8 := (h.set (p + 1)).cell1
  have hn2 := h.2.1
  have H := Lib.hid h
  clear h
  have hmd : decide (m < 1) = false := by simp; omega
  have hmn : ¬ (m < 1) := by omega
  by_cases hn : n = 0
  · subst hn
    go_enter Try.func40, Try.ntmps40
    go_wp2
    all_goals
      go_ret
      exact pick_end H.out (Int.le_refl _) (by omega) 0
  · have hnb : ((n : Int) == 0) = false := by rw [beq_eq_false_iff_ne]; omega
    by_cases hpn : p < n
    · obtain ⟨b, off, rfl, hbR, hcs⟩ := H.out.2.2 (by omega)
      obtain ⟨v, hv0, hv1, hcv⟩ := hcs p hpn
      have hcv2 : (w.setCell ⟨R, 1, none⟩ (.int .i64 ((p : Int) + 1))).cell? ⟨b, off + p, none⟩ = some (.int .u8 v) :=
        (World.cell?_of_block (w := w) (Below.heap_setCell _ _ _ b (by simp; omega))).trans hcv
      have hr := Int.emod_nonneg v (show m ≠ 0 by omega)
      have hr2 := Int.emod_lt_of_pos v (show 0 < m by omega)
      have Hcs := Lib.hid hcs
      clear hcs hcv
      go_enter Try.func40, Try.ntmps40
      have q1 : IntKind.i64.wrap v = v := IntWalk.i64_in _ (by omega)
      go_wp2
      go_ret
      exact pick_end H.out hr hr2 0
    · obtain ⟨b, off, rfl, hbR, hcs⟩ := H.out.2.2 (by omega)
      obtain ⟨j1, hj1⟩ : ∃ j1 : Nat, p % n = j1 := ⟨_, rfl⟩
      obtain ⟨j2, hj2⟩ : ∃ j2 : Nat, (p * 7 + 3) % n = j2 := ⟨_, rfl⟩
      have hj1n : j1 < n := by rw [← hj1]; exact Nat.mod_lt _ (by omega)
      have hj2n : j2 < n := by rw [← hj2]; exact Nat.mod_lt _ (by omega)
      obtain ⟨v1, a0, a1, hcv1⟩ := hcs j1 hj1n
      obtain ⟨v2, b0, b1, hcv2⟩ := hcs j2 hj2n
      have hcw1 : (w.setCell ⟨R, 1, none⟩ (.int .i64 ((p : Int) + 1))).cell? ⟨b, off + j1, none⟩ = some (.int .u8 v1) :=
        (World.cell?_of_block (w := w) (Below.heap_setCell _ _ _ b (by simp; omega))).trans hcv1
      have hcw2 : (w.setCell ⟨R, 1, none⟩ (.int .i64 ((p : Int) + 1))).cell? ⟨b, off + j2, none⟩ = some (.int .u8 v2) :=
        (World.cell?_of_block (w := w) (Below.heap_setCell _ _ _ b (by simp; omega))).trans hcv2
      have Hcs := Lib.hid hcs
      clear hcs hcv1 hcv2
      have ed : 0 ≤ (p : Int) / (n : Int) ∧ (p : Int) / (n : Int) ≤ 100000 := by
        refine ⟨Int.ediv_nonneg (by omega) (by omega), ?_⟩
        have := Int.ediv_le_self (n : Int) (show 0 ≤ (p : Int) by omega)
        omega
      obtain ⟨dq, hdq⟩ : ∃ dq, (p : Int) / (n : Int) = dq := ⟨_, rfl⟩
      rw [hdq] at ed
      have qn : ((n : Int) == 0) = false := hnb
      have qm : ((n : Int) = 0) = False := by simp; omega
      have q1 : (p : Int).tmod (n : Int) = (j1 : Int) := by rw [Int.tmod_eq_emod_of_nonneg (by omega), ← hj1]; simp
      have q2 : IntKind.i64.wrap v1 = v1 := IntWalk.i64_in _ (by omega)
      have q3 : IntKind.i64.wrap (v1 * 131) = v1 * 131 := IntWalk.i64_in _ (by omega)
      have q4 : IntKind.i64.wrap ((p : Int) * 7) = (p : Int) * 7 := IntWalk.i64_in _ (by omega)
      have q5 : IntKind.i64.wrap ((p : Int) * 7 + 3) = (p : Int) * 7 + 3 := IntWalk.i64_in _ (by omega)
      have q6 : ((p : Int) * 7 + 3).tmod (n : Int) = (j2 : Int) := by rw [Int.tmod_eq_emod_of_nonneg (by omega), ← hj2]; simp
      have q7 : IntKind.i64.wrap v2 = v2 := IntWalk.i64_in _ (by omega)
      have q8 : IntKind.i64.wrap (v2 * 1117) = v2 * 1117 := IntWalk.i64_in _ (by omega)
      have q9 : IntKind.i64.wrap (v1 * 131 + v2 * 1117) = v1 * 131 + v2 * 1117 := IntWalk.i64_in _ (by omega)
      have r1 : IntKind.i64.wrap ((p : Int) * 29) = (p : Int) * 29 := IntWalk.i64_in _ (by omega)
      have r2 : IntKind.i64.wrap (v1 * 131 + v2 * 1117 + (p : Int) * 29) = v1 * 131 + v2 * 1117 + (p : Int) * 29 := IntWalk.i64_in _ (by omega)
      have r3 : (p : Int).tdiv (n : Int) = dq := by rw [Int.tdiv_eq_ediv_of_nonneg (by omega), hdq]
      have r4 : IntKind.i64.wrap (dq * 53) = dq * 53 := IntWalk.i64_in _ (by omega)
      obtain ⟨x, hx⟩ : ∃ x, v1 * 131 + v2 * 1117 + (p : Int) * 29 + dq * 53 = x := ⟨_, rfl⟩
      have hx0 : 0 ≤ x ∧ x ≤ 20000000 := by omega
      have r5 : IntKind.i64.wrap (v1 * 131 + v2 * 1117 + (p : Int) * 29 + dq * 53) = x := by rw [hx]; exact IntWalk.i64_in _ (by omega)
      have r6 : IntKind.i64.wrap dq = dq := IntWalk.i64_in _ (by omega)
      have g1 : (j1 : Int) < (n : Int) := by omega
      have g2 : (j2 : Int) < (n : Int) := by omega
      have g3 : ¬ ((p : Int) < (n : Int)) := by omega
      have Hx := Lib.hid hx
      have Hdq := Lib.hid hdq
      clear hx hdq hj1 hj2
      go_enter Try.func40, Try.ntmps40
      go_wp2
      go_quiet (fail)
      clear q1 q2 q3 q4 q5 q6 q7 q8 q9 r1 r2 r3 r4 r5 r6
      obtain ⟨X, rfl⟩ := Int.eq_ofNat_of_zero_le hx0.1
      have hxr := xor_nn X (X / 64) (by omega) (by omega)
      obtain ⟨z, hz⟩ : ∃ z, bits BinOp.xor IntKind.i64 (X : Int) ((X : Int) / 64) = z := ⟨_, rfl⟩
      have hxd : ((X / 64 : Nat) : Int) = (X : Int) / 64 := by omega
      rw [hxd, hz] at hxr
      have Hz := Lib.hid hz
      have k1 := Int.emod_nonneg z (show m ≠ 0 by omega)
      have k2 := Int.emod_lt_of_pos z (show 0 < m by omega)
      rw [← Int.tmod_eq_emod_of_nonneg hxr] at k1 k2
      clear hxd hz
      go_wp2
      go_ret
      rw [Hz.out]
      exact pick_end H.out k1 k2 nq

end Go.Proofs.Ytnekjhpocfdpnaa
