/-
  Plain mathematics of CableText: nothing here speaks of the program.
-/
import Derived.Lib.ItoaNum
import Derived.Test.YtgidemhencbgdaaDoorSec
namespace Go.Proofs.YtgidemhencbgdaaDoor

/-- a number's digits -/
def decT (n : Int) : List UInt8 := Lib.decDigits n.toNat
theorem decT_nat (i : Nat) : decT (i : Int) = Lib.decDigits i := rfl
theorem decT_small {n : Int} (h0 : 0 ≤ n) (h1 : n < 10) : decT n = [UInt8.ofNat (48 + n.toNat)] := Lib.decDigits_one (by omega)
theorem decT_two {n : Int} (h0 : 10 ≤ n) (h1 : n < 100) : decT n = [UInt8.ofNat (48 + n.toNat / 10), UInt8.ofNat (48 + n.toNat % 10)] := Lib.decDigits_two (by omega) (by omega)
theorem decT_step {n : Int} (h0 : 10 ≤ n) : decT n = decT (n / 10) ++ [UInt8.ofNat (48 + n % 10).toNat] := by
  have e1 : (n / 10).toNat = n.toNat / 10 := by omega
  have e2 : (48 + n % 10).toNat = 48 + n.toNat % 10 := by omega
  unfold decT
  rw [Lib.decDigits, dif_neg (by omega), e1, e2]
theorem digits_le : ∀ (N u : Nat), u < N → (Lib.decDigits u).length ≤ u + 1
  | 0, u, h => absurd h (by omega)
  | N + 1, u, h => by
    rw [Lib.decDigits]
    split
    · simp
    · have := digits_le N (u / 10) (by omega)
      rw [List.length_append, List.length_singleton]
      omega
theorem decT_le (n : Int) : (decT n).length ≤ n.toNat + 1 := digits_le _ _ (Nat.lt_succ_self _)
theorem decT_len {n : Int} (h0 : 0 ≤ n) (h1 : n < 100) : 1 ≤ (decT n).length ∧ (decT n).length ≤ 2 := by
  by_cases h : n < 10
  · rw [decT_small h0 h]; simp
  · rw [decT_two (by omega) h1]; simp
/-- no letter is a digit -/
theorem decT_count {n : Int} (h0 : 0 ≤ n) (h1 : n < 100) {c : UInt8} (hc : c = 43 ∨ 100 ≤ c.toNat) : (decT n).count c = 0 := by
  have key : ∀ i : Nat, i < 10 → ¬ UInt8.ofNat (48 + i) = c := by
    intro i hi e
    have e2 : (UInt8.ofNat (48 + i)).toNat = 48 + i := by simp; omega
    rw [e] at e2
    rcases hc with rfl | hc
    · have : (43 : UInt8).toNat = 43 := rfl
      omega
    · omega
  by_cases h : n < 10
  · rw [decT_small h0 h, List.count_cons, List.count_nil]
    have k0 : (UInt8.ofNat (48 + n.toNat) == c) = false := beq_eq_false_iff_ne.2 (key n.toNat (by omega))
    rw [k0]
    rfl
  · rw [decT_two (by omega) h1, List.count_cons, List.count_cons, List.count_nil]
    have k1 : (UInt8.ofNat (48 + n.toNat / 10) == c) = false := beq_eq_false_iff_ne.2 (key (n.toNat / 10) (by omega))
    have k2 : (UInt8.ofNat (48 + n.toNat % 10) == c) = false := beq_eq_false_iff_ne.2 (key (n.toNat % 10) (by omega))
    rw [k1, k2]
    rfl

/-- a section's text -/
def secT (s : Sec) : List UInt8 := decT s.m ++ [109] ++ decT s.k ++ [107] ++ decT s.o ++ [111]
theorem secT_len {s : Sec} (h : secOk s = true) : 1 ≤ (secT s).length ∧ (secT s).length ≤ 9 := by
  have h2 := secOk_true.1 h
  have a := decT_len (n := s.m) (by omega) (by omega)
  have b := decT_len (n := s.k) (by omega) (by omega)
  have c := decT_len (n := s.o) (by omega) (by omega)
  unfold secT
  simp only [List.length_append, List.length_cons, List.length_nil]
  omega
theorem secT_count {s : Sec} (h : secOk s = true) : (secT s).count 43 = 0 ∧ (secT s).count 109 = 1 ∧ (secT s).count 107 = 1 ∧ (secT s).count 111 = 1 := by
  have h2 := secOk_true.1 h
  have m := fun {c} => decT_count (n := s.m) (by omega) (by omega) (c := c)
  have k := fun {c} => decT_count (n := s.k) (by omega) (by omega) (c := c)
  have o := fun {c} => decT_count (n := s.o) (by omega) (by omega) (c := c)
  unfold secT
  simp only [List.count_append]
  refine ⟨?_, ?_, ?_, ?_⟩
  · rw [m (.inl rfl), k (.inl rfl), o (.inl rfl)]; decide
  · rw [m (.inr (by decide)), k (.inr (by decide)), o (.inr (by decide))]; decide
  · rw [m (.inr (by decide)), k (.inr (by decide)), o (.inr (by decide))]; decide
  · rw [m (.inr (by decide)), k (.inr (by decide)), o (.inr (by decide))]; decide

/-- the text of sections -/
def restT (ss : List Sec) : List UInt8 := ss.flatMap fun s => 43 :: secT s
def txtL : List Sec → List UInt8
  | [] => []
  | s :: r => secT s ++ restT r
theorem restT_append (a b : List Sec) : restT (a ++ b) = restT a ++ restT b := by simp [restT]
theorem restT_cons (s : Sec) (r : List Sec) : restT (s :: r) = 43 :: (secT s ++ restT r) := by simp [restT]
theorem txtL_nil : txtL [] = [] := rfl
theorem txtL_one (s : Sec) : txtL [s] = secT s := by simp [txtL, restT]
theorem txtL_split (a : List Sec) (s : Sec) (r : List Sec) (ha : a ≠ []) : txtL (a ++ s :: r) = txtL a ++ 43 :: txtL (s :: r) := by
  cases a with
  | nil => exact absurd rfl ha
  | cons x a =>
    show secT x ++ restT (a ++ s :: r) = secT x ++ restT a ++ 43 :: (secT s ++ restT r)
    rw [restT_append, restT_cons, List.append_assoc]
theorem txtL_snoc {a : List Sec} (s : Sec) (ha : a ≠ []) : txtL (a ++ [s]) = txtL a ++ 43 :: secT s := by rw [txtL_split a s [] ha, txtL_one]
theorem restT_facts {ss : List Sec} (h : ∀ s ∈ ss, secOk s = true) : (restT ss).length ≤ 10 * ss.length ∧ (restT ss).count 43 = ss.length ∧ (restT ss).count 109 = ss.length ∧ (restT ss).count 107 = ss.length ∧ (restT ss).count 111 = ss.length := by
  induction ss with
  | nil => simp [restT]
  | cons s r ih =>
    obtain ⟨i0, i1, i2, i3, i4⟩ := ih (fun x hx => h x (by simp [hx]))
    obtain ⟨c1, c2, c3, c4⟩ := secT_count (h s (by simp))
    have hl := secT_len (h s (by simp))
    rw [restT_cons]
    simp only [List.length_cons, List.length_append, List.count_cons, List.count_append, i1, i2, i3, i4, c1, c2, c3, c4]
    refine ⟨by omega, ?_, ?_, ?_, ?_⟩
    · simp
    · rw [if_neg (by decide)]; omega
    · rw [if_neg (by decide)]; omega
    · rw [if_neg (by decide)]; omega
theorem txtL_facts {s : Sec} {r : List Sec} (h : ∀ x ∈ s :: r, secOk x = true) : 1 ≤ (txtL (s :: r)).length ∧ (txtL (s :: r)).length ≤ 10 * (s :: r).length ∧ (txtL (s :: r)).count 43 = r.length ∧ (txtL (s :: r)).count 109 = (s :: r).length ∧ (txtL (s :: r)).count 107 = (s :: r).length ∧ (txtL (s :: r)).count 111 = (s :: r).length := by
  obtain ⟨i0, i1, i2, i3, i4⟩ := restT_facts (ss := r) (fun x hx => h x (by simp [hx]))
  obtain ⟨c1, c2, c3, c4⟩ := secT_count (h s (by simp))
  have hl := secT_len (h s (by simp))
  show 1 ≤ (secT s ++ restT r).length ∧ (secT s ++ restT r).length ≤ _ ∧ (secT s ++ restT r).count 43 = _ ∧ (secT s ++ restT r).count 109 = _ ∧ (secT s ++ restT r).count 107 = _ ∧ (secT s ++ restT r).count 111 = _
  simp only [List.length_append, List.length_cons, List.count_append, i1, i2, i3, i4, c1, c2, c3, c4]
  omega
/-- a text as a string -/
def str (l : List UInt8) : ByteArray := ⟨l.toArray⟩
theorem str_append (a b : List UInt8) : str a ++ str b = str (a ++ b) := by
  apply ByteArray.ext
  rw [ByteArray.data_append]
  simp [str]
theorem str_size (a : List UInt8) : (str a).size = a.length := by simp [str, ByteArray.size]

/-- CableText's text -/
def textL (ss : List Sec) : List UInt8 := if cabB ss then txtL ss else []
theorem textL_no {ss : List Sec} (h : cabB ss = false) : textL ss = [] := by unfold textL; rw [h]; rfl
theorem textL_yes {ss : List Sec} (h : cabB ss = true) : textL ss = txtL ss := by unfold textL; rw [h]; rfl

end Go.Proofs.YtgidemhencbgdaaDoor
