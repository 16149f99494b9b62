/-
  Plain mathematics of SignalErrors. Nothing here speaks of the program.
-/
import Derived.Test.YtgnolhikphoagaaDoorSgR
namespace Go.Proofs.YtgnolhikphoagaaDoor

/-- a pulse replaced -/
def subP (l : List UInt8) (i : Nat) (p : UInt8) : List UInt8 := l.take i ++ [p] ++ l.drop (i + 1)
def puA (j : Nat) : UInt8 := ([45, 43, 48] : List UInt8)[j]?.getD 48
theorem puA_pul (j : Nat) : isPul (puA j) = true := by
  rcases j with _ | _ | _ | j
  · decide
  · decide
  · decide
  · show isPul (([45, 43, 48] : List UInt8)[j + 3]?.getD 48) = true
    rw [List.getElem?_eq_none (by simp)]
    decide
theorem subP_len {l : List UInt8} {i : Nat} (p : UInt8) (h : i < l.length) : (subP l i p).length = l.length := by
  unfold subP
  rw [List.length_append, List.length_append, List.length_take, List.length_drop, List.length_singleton]
  omega
theorem subP_same {l : List UInt8} {i : Nat} {p : UInt8} (h : i < l.length) : subP l i p = l ↔ p = l[i] := by
  have e : l = l.take i ++ [l[i]] ++ l.drop (i + 1) := by
    rw [← List.take_succ_eq_append_getElem h, List.take_append_drop]
  constructor
  · intro h2
    unfold subP at h2
    conv at h2 => rhs; rw [e]
    rw [List.append_assoc, List.append_assoc] at h2
    have h3 := List.append_cancel_left h2
    exact (List.cons.inj h3).1
  · intro h2
    rw [h2]
    exact e.symm
theorem subP_sig {l : List UInt8} {i : Nat} {p : UInt8} (h : i < l.length) (hl : sigB l = true) (hp : isPul p = true) : sigB (subP l i p) = true := by
  have h1 := sigB_true.1 hl
  refine sigB_true.2 ⟨by rw [subP_len p h]; exact h1.1, fun c hc => ?_⟩
  unfold subP at hc
  rcases List.mem_append.1 hc with hc | hc
  · rcases List.mem_append.1 hc with hc | hc
    · exact h1.2 c (List.mem_of_mem_take hc)
    · rw [List.mem_singleton.1 hc]; exact hp
  · exact h1.2 c (List.mem_of_mem_drop hc)
/-- the message that an error leads to, if there is one -/
def hitP (l : List UInt8) (i : Nat) (p : UInt8) : List (List UInt8) := if msB (subP l i p) = true ∧ subP l i p ≠ l then [msV (subP l i p)] else []
theorem hitP_yes {l : List UInt8} {i : Nat} {p : UInt8} (h1 : msB (subP l i p) = true) (h2 : subP l i p ≠ l) : hitP l i p = [msV (subP l i p)] := by unfold hitP; rw [if_pos ⟨h1, h2⟩]
theorem hitP_no {l : List UInt8} {i : Nat} {p : UInt8} (h : msB (subP l i p) = false ∨ subP l i p = l) : hitP l i p = [] := by
  unfold hitP
  rw [if_neg]
  rintro ⟨h1, h2⟩
  rcases h with h | h
  · rw [h] at h1; cases h1
  · exact h2 h
theorem hitP_len (l : List UInt8) (i : Nat) (p : UInt8) : (hitP l i p).length ≤ 1 := by unfold hitP; split <;> simp
/-- the messages of the first j errors at a place -/
def errA (l : List UInt8) (i : Nat) : Nat → List (List UInt8)
  | 0 => []
  | j + 1 => errA l i j ++ hitP l i (puA j)
theorem errA_len (l : List UInt8) (i : Nat) : ∀ j, (errA l i j).length ≤ j
  | 0 => Nat.le_refl _
  | j + 1 => by
    have h1 := errA_len l i j
    have h2 := hitP_len l i (puA j)
    show (errA l i j ++ hitP l i (puA j)).length ≤ _
    rw [List.length_append]
    omega
/-- .. at the first k places -/
def errT (l : List UInt8) : Nat → List (List UInt8)
  | 0 => []
  | k + 1 => errT l k ++ errA l k 3
theorem errT_len (l : List UInt8) : ∀ k, (errT l k).length ≤ 3 * k
  | 0 => Nat.le_refl _
  | k + 1 => by
    have h1 := errT_len l k
    have h2 := errA_len l k 3
    show (errT l k ++ errA l k 3).length ≤ _
    rw [List.length_append]
    omega
def errL (l : List UInt8) : List (List UInt8) := if sigB l then errT l l.length else []
theorem errL_yes {l : List UInt8} (h : sigB l = true) : errL l = errT l l.length := by unfold errL; rw [if_pos h]
theorem errL_no {l : List UInt8} (h : sigB l = false) : errL l = [] := by unfold errL; rw [h]; rfl
/-- the text with a pulse replaced, as it is joined -/
theorem subP_str {s : ByteArray} {i : Nat} (p : UInt8) : s.extract 0 i ++ str [p] ++ s.extract (i + 1) s.size = str (subP (byL s) i p) := by
  apply by_inj
  rw [by_str]
  unfold byL subP
  rw [ByteArray.data_append, ByteArray.data_append, Array.toList_append, Array.toList_append]
  have e1 := byL_extract s 0 i
  have e2 := byL_extract s (i + 1) s.size
  unfold byL at e1 e2
  rw [e1, e2, List.drop_zero, List.take_of_length_le (i := s.size) (by rw [Array.length_toList]; exact Nat.le_refl _)]
  simp [str]

end Go.Proofs.YtgnolhikphoagaaDoor
