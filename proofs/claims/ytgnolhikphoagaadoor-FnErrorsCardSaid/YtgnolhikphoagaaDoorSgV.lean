/-
  Plain mathematics of signals: valid ones, drifts, distances, votes. Nothing here speaks of the program.
-/
import Derived.Test.YtgnolhikphoagaaDoorSgM
import Derived.Lib.SlTrimSet
namespace Go.Proofs.YtgnolhikphoagaaDoor

def isPul (c : UInt8) : Bool := decide (c.toNat = 45) || decide (c.toNat = 43) || decide (c.toNat = 48)
def sigB (l : List UInt8) : Bool := decide (l.length ≤ 80) && l.all isPul
theorem sigB_true {l : List UInt8} : sigB l = true ↔ l.length ≤ 80 ∧ ∀ c ∈ l, isPul c = true := by
  unfold sigB; simp
theorem isPul_cs (c : UInt8) : ([45, 43, 48] : List UInt8).contains c = isPul c := by
  have key : ∀ n, n < 256 → ([45, 43, 48] : List UInt8).contains (UInt8.ofNat n) = isPul (UInt8.ofNat n) := by decide +kernel
  have := key c.toNat c.toNat_lt
  rwa [UInt8.ofNat_toNat] at this
theorem dw_nil {p : UInt8 → Bool} : ∀ {l : List UInt8}, l.dropWhile p = [] ↔ ∀ x ∈ l, p x = true
  | [] => by simp
  | a :: l => by
    rw [List.dropWhile_cons]
    cases h : p a
    · simp [h]
    · simp only [if_true, List.mem_cons, forall_eq_or_imp, h, true_and]
      exact dw_nil
theorem trim_nil (l : List UInt8) : Lib.trimS l [45, 43, 48] = [] ↔ l.all isPul = true := by
  have hp : (fun c => ([45, 43, 48] : List UInt8).contains c) = isPul := funext isPul_cs
  have hr : Lib.trimRightS l [45, 43, 48] = (l.reverse.dropWhile isPul).reverse := by
    unfold Lib.trimRightS; rw [← hp]
  have h0 : Lib.trimS l [45, 43, 48] = ((l.reverse.dropWhile isPul).reverse).dropWhile isPul := by
    unfold Lib.trimS Lib.trimLeftS; rw [hr, ← hp]
  rw [h0]
  constructor
  · intro h
    rw [dw_nil] at h
    by_cases hn : l.reverse.dropWhile isPul = []
    · rw [dw_nil] at hn
      rw [List.all_eq_true]
      intro c hc
      exact hn c (by simpa using hc)
    · exfalso
      have h1 := List.head_dropWhile_not isPul (w := hn)
      have h2 := h ((l.reverse.dropWhile isPul).head hn) (by simp)
      rw [h1] at h2
      cases h2
  · intro h
    have : l.reverse.dropWhile isPul = [] := by
      rw [dw_nil]
      intro c hc
      exact List.all_eq_true.1 h c (by simpa using hc)
    rw [this]
    rfl
/-- the first k bytes are pulses -/
def puT (t : List UInt8) (k : Nat) : Prop := (t.take k).all isPul = true
theorem puT_zero (t : List UInt8) : puT t 0 := by simp [puT]
theorem puT_succ {s : ByteArray} {k : Nat} (h : puT (byL s) k) (hk : k < s.size) (hx : isPul s[k] = true) : puT (byL s) (k + 1) := by
  unfold puT at *
  rw [byL_take s k hk, List.all_append, h]
  simp [hx]
theorem sigB_not {s : ByteArray} {k : Nat} (hk : k < s.size) (hx : isPul s[k] = false) : sigB (byL s) = false := by
  have h : (byL s).all isPul = false := by
    rw [Bool.eq_false_iff]
    intro h2
    rw [List.all_eq_true] at h2
    have h3 := h2 s[k] (List.mem_of_getElem? (byL_at s k hk))
    rw [hx] at h3
    cases h3
  unfold sigB
  rw [h, Bool.and_false]
theorem sigB_all {s : ByteArray} (h : puT (byL s) s.size) : sigB (byL s) = decide (s.size ≤ 80) := by
  unfold puT at h
  rw [List.take_of_length_le (by rw [byL_len]; omega)] at h
  unfold sigB
  rw [h, byL_len, Bool.and_true]
theorem sigB_len {s : ByteArray} (h : sigB (byL s) = true) : s.size ≤ 80 := by
  have := (sigB_true.1 h).1
  rwa [byL_len] at this
theorem sigB_pul {s : ByteArray} (h : sigB (byL s) = true) {k : Nat} (hk : k < s.size) : isPul s[k] = true :=
  (sigB_true.1 h).2 _ (List.mem_of_getElem? (byL_at s k hk))

/-! ### distances -/

/-- how many of the first k pulses differ -/
def farT (a b : List UInt8) : Nat → Nat
  | 0 => 0
  | k + 1 => farT a b k + if a[k]? = b[k]? then 0 else 1
theorem farT_le (a b : List UInt8) : ∀ k, farT a b k ≤ k
  | 0 => Nat.le_refl _
  | k + 1 => by
    have := farT_le a b k
    unfold farT
    split <;> omega
/-- both are signals of as many pulses -/
def twoB (a b : List UInt8) : Bool := sigB a && sigB b && decide (a.length = b.length)
def farV (a b : List UInt8) : Int := if twoB a b then (farT a b a.length : Nat) else -1
theorem farV_yes {a b : List UInt8} (h : twoB a b = true) : farV a b = ((farT a b a.length : Nat) : Int) := by unfold farV; rw [if_pos h]
theorem farV_no {a b : List UInt8} (h : twoB a b = false) : farV a b = -1 := by unfold farV; rw [h]; rfl
theorem twoB_true {a b : List UInt8} : twoB a b = true ↔ sigB a = true ∧ sigB b = true ∧ a.length = b.length := by
  unfold twoB; simp [and_assoc]
theorem twoB_mk {a b : List UInt8} (h1 : sigB a = true) (h2 : sigB b = true) (h3 : a.length = b.length) : twoB a b = true := twoB_true.2 ⟨h1, h2, h3⟩
theorem twoB_a {a b : List UInt8} (h : sigB a = false) : twoB a b = false := by unfold twoB; rw [h]; rfl
theorem twoB_b {a b : List UInt8} (h : sigB b = false) : twoB a b = false := by unfold twoB; rw [h]; simp
theorem twoB_l {a b : List UInt8} (h : a.length ≠ b.length) : twoB a b = false := by unfold twoB; rw [decide_eq_false h]; simp
theorem farT_same {s t : ByteArray} {k : Nat} (h1 : k < s.size) (h2 : k < t.size) (e : s[k] = t[k]) : farT (byL s) (byL t) (k + 1) = farT (byL s) (byL t) k := by
  show farT _ _ k + _ = _
  rw [byL_at s k h1, byL_at t k h2, e, if_pos rfl, Nat.add_zero]
theorem farT_diff {s t : ByteArray} {k : Nat} (h1 : k < s.size) (h2 : k < t.size) (e : s[k] ≠ t[k]) : farT (byL s) (byL t) (k + 1) = farT (byL s) (byL t) k + 1 := by
  show farT _ _ k + _ = _
  rw [byL_at s k h1, byL_at t k h2, if_neg (fun h => e (Option.some.inj h))]

/-! ### drifts -/

def driV (l : List UInt8) : Int := (l.count 43 : Nat) - (l.count 45 : Nat)
theorem driV_le (l : List UInt8) : -(l.length : Int) ≤ driV l ∧ driV l ≤ l.length := by
  have h1 : l.count 43 ≤ l.length := List.count_le_length
  have h2 : l.count 45 ≤ l.length := List.count_le_length
  unfold driV
  omega
theorem driV_nil : driV [] = 0 := rfl
theorem driV_snoc (l : List UInt8) (c : UInt8) : driV (l ++ [c]) = driV l + (if c.toNat = 43 then 1 else if c.toNat = 45 then -1 else 0) := by
  unfold driV
  rw [List.count_append, List.count_append]
  have h43 : (c == 43) = decide (c.toNat = 43) := by
    rw [Bool.eq_iff_iff, beq_iff_eq, decide_eq_true_eq, ← UInt8.toNat_inj]
    rfl
  have h45 : (c == 45) = decide (c.toNat = 45) := by
    rw [Bool.eq_iff_iff, beq_iff_eq, decide_eq_true_eq, ← UInt8.toNat_inj]
    rfl
  simp only [List.count_cons, List.count_nil, h43, h45, decide_eq_true_eq]
  by_cases h1 : c.toNat = 43
  · simp [h1]; omega
  · by_cases h2 : c.toNat = 45
    · simp [h2]; omega
    · simp [h1, h2]
/-- the drift behind each of the first k pulses -/
def driT (l : List UInt8) (k : Nat) : List Int := (List.range k).map fun i => driV (l.take (i + 1))
theorem driT_len (l : List UInt8) (k : Nat) : (driT l k).length = k := by simp [driT]
theorem driT_succ (l : List UInt8) (k : Nat) : driT l (k + 1) = driT l k ++ [driV (l.take (k + 1))] := by simp [driT, List.range_succ]
def driL (l : List UInt8) : List Int := if sigB l then driT l l.length else []
theorem driL_yes {l : List UInt8} (h : sigB l = true) : driL l = driT l l.length := by unfold driL; rw [if_pos h]
theorem driL_no {l : List UInt8} (h : sigB l = false) : driL l = [] := by unfold driL; rw [h]; rfl

end Go.Proofs.YtgnolhikphoagaaDoor
