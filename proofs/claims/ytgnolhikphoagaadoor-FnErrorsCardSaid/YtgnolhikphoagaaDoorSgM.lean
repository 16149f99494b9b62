/-
  Plain mathematics of codes: nothing here speaks of the program.
-/
import Derived.Lib.Join
namespace Go.Proofs.YtgnolhikphoagaaDoor

/-- the string of the bytes l; the bytes of a string -/
def str (l : List UInt8) : ByteArray := ⟨l.toArray⟩
def byL (s : ByteArray) : List UInt8 := s.data.toList
theorem str_append (a b : List UInt8) : str a ++ str b = str (a ++ b) := by
  apply ByteArray.ext
  rw [ByteArray.data_append]
  simp [str]
theorem str_size (a : List UInt8) : (str a).size = a.length := by simp [str, ByteArray.size]
theorem str_by (s : ByteArray) : str (byL s) = s := by
  apply ByteArray.ext
  simp [str, byL]
theorem by_str (l : List UInt8) : byL (str l) = l := by simp [str, byL]
theorem byL_len (s : ByteArray) : (byL s).length = s.size := Array.length_toList
theorem str_inj {a b : List UInt8} (h : str a = str b) : a = b := by rw [← by_str a, h, by_str]
theorem by_inj {a b : ByteArray} (h : byL a = byL b) : a = b := by rw [← str_by a, h, str_by]
theorem str_list (l : List UInt8) : (str l).toList = l := ByteArray.toList_mk l
theorem toList_by (s : ByteArray) : s.toList = byL s := by rw [← str_by s, str_list, by_str]
theorem byL_at (s : ByteArray) (k : Nat) (h : k < s.size) : (byL s)[k]? = some s[k] := by
  unfold byL
  rw [List.getElem?_eq_getElem (by rw [Array.length_toList]; exact h)]
  rfl
theorem byL_take (s : ByteArray) (k : Nat) (h : k < s.size) : (byL s).take (k + 1) = (byL s).take k ++ [s[k]] := by
  unfold byL
  rw [List.take_succ_eq_append_getElem (by rw [Array.length_toList]; exact h)]
  rfl
theorem byL_extract (s : ByteArray) (a b : Nat) : byL (s.extract a b) = ((byL s).take b).drop a := by
  unfold byL
  rw [ByteArray.data_extract, Array.toList_extract, List.extract_eq_drop_take', List.drop_take]
theorem byL_one (s : ByteArray) (k : Nat) (h : k < s.size) : byL (s.extract k (k + 1)) = [s[k]] := by
  have hl : ((byL s).take k).length = k := by rw [List.length_take, byL_len]; omega
  rw [byL_extract, byL_take s k h, List.drop_append, hl, Nat.sub_self, List.drop_eq_nil_of_le (by omega)]
  rfl

/-! ### the tree of codes: 1 is its root, 2 is a, 27 is z -/

def letL (n : Nat) : List UInt8 := if n = 1 then [] else [UInt8.ofNat (95 + n)]
theorem letL_len (n : Nat) : (letL n).length ≤ 1 := by unfold letL; split <;> simp
/-- the way from a branch to a letter -/
def fnd : Nat → Nat → List UInt8 → Option (List UInt8)
  | 0, _, _ => none
  | f + 1, n, l => if 28 ≤ n then none else if letL n = l then some [] else
    match fnd f (2 * n) l with
    | some c => some (45 :: c)
    | none => (fnd f (2 * n + 1) l).map (43 :: ·)
theorem fnd_none {l : List UInt8} (h : 2 ≤ l.length) : ∀ f n, fnd f n l = none
  | 0, _ => rfl
  | f + 1, n => by
    have h2 : letL n ≠ l := fun e => by have := letL_len n; rw [e] at this; omega
    unfold fnd
    rw [fnd_none h f (2 * n), fnd_none h f (2 * n + 1), if_neg h2]
    split <;> rfl
theorem fnd_hit {f n : Nat} {l : List UInt8} (h : n < 28) (e : letL n = l) : fnd (f + 1) n l = some [] := by
  unfold fnd; rw [if_neg (by omega), if_pos e]
theorem fnd_minus {f n : Nat} {l c : List UInt8} (h : n < 28) (e : letL n ≠ l) (h2 : fnd f (2 * n) l = some c) : fnd (f + 1) n l = some (45 :: c) := by
  conv => lhs; unfold fnd
  rw [if_neg (by omega), if_neg e, h2]
theorem fnd_plus {f n : Nat} {l : List UInt8} (h : n < 28) (e : letL n ≠ l) (h2 : fnd f (2 * n) l = none) : fnd (f + 1) n l = (fnd f (2 * n + 1) l).map (43 :: ·) := by
  conv => lhs; unfold fnd
  rw [if_neg (by omega), if_neg e, h2]
theorem fnd_len {l c : List UInt8} : ∀ f n, fnd f n l = some c → c.length ≤ f
  | 0, _, h => by cases h
  | f + 1, n, h => by
    unfold fnd at h
    split at h
    · cases h
    · split at h
      · cases h; simp
      · split at h
        · rename_i d hd
          cases h
          have := fnd_len f _ hd
          simp; omega
        · cases h2 : fnd f (2 * n + 1) l with
          | none => rw [h2] at h; cases h
          | some d =>
            rw [h2] at h
            cases h
            have := fnd_len f _ h2
            simp; omega
/-- the letter to which pulses lead -/
def ltr : Nat → Nat → List UInt8 → List UInt8
  | 0, _, _ => []
  | f + 1, n, l => if 28 ≤ n then [] else match l with
    | [] => letL n
    | c :: r => if c = 45 then ltr f (2 * n) r else ltr f (2 * n + 1) r
theorem ltr_long : ∀ f n (l : List UInt8), f ≤ l.length → ltr f n l = []
  | 0, _, _, _ => rfl
  | f + 1, n, l, h => by
    unfold ltr
    split
    · rfl
    · cases l with
      | nil => simp at h
      | cons c r =>
        simp at h
        show (if c = 45 then ltr f (2 * n) r else ltr f (2 * n + 1) r) = []
        rw [ltr_long f _ r h, ltr_long f _ r h, ite_self]
theorem ltr_len : ∀ f n (l : List UInt8), (ltr f n l).length ≤ 1
  | 0, _, _ => by simp [ltr]
  | f + 1, n, l => by
    unfold ltr
    split
    · simp
    · cases l with
      | nil => exact letL_len n
      | cons c r =>
        show (if c = 45 then ltr f (2 * n) r else ltr f (2 * n + 1) r).length ≤ 1
        split <;> exact ltr_len f _ r
/-- how many branches so many pulses lead to -/
def cdo : Nat → Nat → Nat → Nat
  | 0, _, _ => 0
  | f + 1, n, k => if 28 ≤ n then 0 else match k with
    | 0 => 1
    | k + 1 => cdo f (2 * n) k + cdo f (2 * n + 1) k
theorem cdo_le : ∀ f n k, cdo f n k ≤ 2 ^ f
  | 0, _, _ => by simp [cdo]
  | f + 1, n, k => by
    unfold cdo
    split
    · simp
    · cases k with
      | zero => exact Nat.one_le_two_pow
      | succ k =>
        have h1 := cdo_le f (2 * n) k
        have h2 := cdo_le f (2 * n + 1) k
        show cdo f (2 * n) k + cdo f (2 * n + 1) k ≤ 2 ^ (f + 1)
        rw [Nat.pow_succ]
        omega

/-! ### codes -/

/-- a number in the binary system without its first place -/
def codN : Nat → Nat → List UInt8
  | 0, _ => []
  | f + 1, n => if n ≤ 1 then [] else codN f (n / 2) ++ [if n % 2 = 1 then 43 else 45]
theorem codN_len : ∀ f n, (codN f n).length ≤ f
  | 0, _ => by simp [codN]
  | f + 1, n => by
    unfold codN
    split
    · simp
    · have := codN_len f (n / 2)
      simp; omega
/-- the code of a text: none, if it is no letter -/
def codeV : List UInt8 → List UInt8
  | [c] => if 97 ≤ c.toNat ∧ c.toNat ≤ 122 then codN 5 (c.toNat - 95) else []
  | _ => []
theorem codN_four : ∀ n, n < 28 → (codN 5 n).length ≤ 4 := by decide
theorem codeV_len (l : List UInt8) : (codeV l).length ≤ 4 := by
  unfold codeV
  split
  · split
    · exact codN_four _ (by omega)
    · simp
  · simp
theorem codeV_no {l : List UInt8} (h : l.length ≠ 1) : codeV l = [] := by
  match l, h with
  | [], _ => rfl
  | [_], h => exact absurd rfl h
  | _ :: _ :: _, _ => rfl
theorem fnd_code1 : ∀ n, n < 256 → (fnd 5 1 [UInt8.ofNat n]).getD [] = codeV [UInt8.ofNat n] := by decide +kernel
theorem fnd_code (l : List UInt8) : (fnd 5 1 l).getD [] = codeV l := by
  match l with
  | [] => rfl
  | [c] =>
    have := fnd_code1 c.toNat c.toNat_lt
    rwa [UInt8.ofNat_toNat] at this
  | a :: b :: r => rw [fnd_none (by simp), codeV_no (by simp)]; rfl

/-! ### messages -/

def isLet (c : UInt8) : Bool := decide (97 ≤ c.toNat ∧ c.toNat ≤ 122)
theorem codN_pos : ∀ n, n < 28 → 2 ≤ n → codN 5 n ≠ [] := by decide
theorem code_nil (c : UInt8) : codeV [c] = [] ↔ isLet c = false := by
  unfold codeV isLet
  by_cases h : 97 ≤ c.toNat ∧ c.toNat ≤ 122
  · have := codN_pos (c.toNat - 95) (by omega) (by omega)
    simp [h, this]
  · simp [h]
/-- the codes of a text's letters -/
def codes (t : List UInt8) : List (List UInt8) := t.map fun c => codeV [c]
def ofOk (t : List UInt8) : Bool := decide (t.length ≤ 12) && t.all isLet
def ofV (t : List UInt8) : List UInt8 := if ofOk t then Lib.join (codes t) [48] else []
theorem join_snoc (xs : List (List UInt8)) (y sep : List UInt8) (h : xs ≠ []) : Lib.join (xs ++ [y]) sep = Lib.join xs sep ++ sep ++ y := by
  cases xs with
  | nil => exact absurd rfl h
  | cons x r =>
    rw [List.cons_append, Lib.join_cons, Lib.join_cons]
    simp [Lib.joinTail]
theorem codes_snoc (t : List UInt8) (c : UInt8) : codes (t ++ [c]) = codes t ++ [codeV [c]] := by simp [codes]
theorem codes_len (t : List UInt8) : (codes t).length = t.length := by simp [codes]
/-- the signal as it grows -/
def sgT (t : List UInt8) : List UInt8 := Lib.join (codes t) [48]
theorem sgT_one (c : UInt8) : sgT [c] = codeV [c] := Lib.join_one _ _
theorem sgT_snoc {t : List UInt8} (c : UInt8) (h : t ≠ []) : sgT (t ++ [c]) = sgT t ++ [48] ++ codeV [c] := by
  unfold sgT
  rw [codes_snoc, join_snoc _ _ _ (by simpa [codes] using h)]
theorem sgT_len : ∀ (t : List UInt8), (sgT t).length ≤ 5 * t.length := by
  intro t
  have key : ∀ (n : Nat) (t : List UInt8), t.length = n → (sgT t).length ≤ 5 * t.length := by
    intro n
    induction n with
    | zero =>
      intro t ht
      obtain rfl : t = [] := List.length_eq_zero_iff.1 ht
      simp [sgT, codes, Lib.join_nil]
    | succ n ih =>
      intro t ht
      obtain ⟨r, c, rfl⟩ : ∃ r c, t = r ++ [c] := by
        have hne : t ≠ [] := fun e => by rw [e] at ht; simp at ht
        exact ⟨t.dropLast, t.getLast hne, (List.dropLast_concat_getLast hne).symm⟩
      have h1 := ih r (by simpa using ht)
      have h2 := codeV_len [c]
      by_cases hr : r = []
      · subst hr
        rw [List.nil_append, sgT_one]
        simp; omega
      · rw [sgT_snoc c hr]
        simp; omega
  exact key t.length t rfl
/-- the first k bytes are letters -/
def ltT (t : List UInt8) (k : Nat) : Prop := (t.take k).all isLet = true
theorem ltT_zero (t : List UInt8) : ltT t 0 := by simp [ltT]
theorem ltT_succ {s : ByteArray} {k : Nat} (h : ltT (byL s) k) (hk : k < s.size) (hx : isLet s[k] = true) : ltT (byL s) (k + 1) := by
  unfold ltT at *
  rw [byL_take s k hk, List.all_append, h]
  simp [hx]
theorem ofOk_not {s : ByteArray} {k : Nat} (hk : k < s.size) (hx : isLet s[k] = false) : ofOk (byL s) = false := by
  have h : (byL s).all isLet = false := by
    rw [Bool.eq_false_iff]
    intro h2
    rw [List.all_eq_true] at h2
    have h3 := h2 s[k] (List.mem_of_getElem? (byL_at s k hk))
    rw [hx] at h3
    cases h3
  unfold ofOk
  rw [h, Bool.and_false]
theorem ofOk_all {s : ByteArray} (h : ltT (byL s) s.size) : ofOk (byL s) = decide (s.size ≤ 12) := by
  unfold ltT at h
  rw [List.take_of_length_le (by rw [byL_len]; omega)] at h
  unfold ofOk
  rw [h, byL_len, Bool.and_true]
theorem ofOk_long {t : List UInt8} (h : 12 < t.length) : ofOk t = false := by
  unfold ofOk
  rw [decide_eq_false (by omega)]
  rfl
theorem ofV_yes {t : List UInt8} (h : ofOk t = true) : ofV t = sgT t := by unfold ofV; rw [if_pos h]; rfl
theorem ofV_no {t : List UInt8} (h : ofOk t = false) : ofV t = [] := by unfold ofV; rw [h]; rfl

end Go.Proofs.YtgnolhikphoagaaDoor
