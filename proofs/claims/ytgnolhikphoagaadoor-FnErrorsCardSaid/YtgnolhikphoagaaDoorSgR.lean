/-
  Plain mathematics of SignalRead. Nothing here speaks of the program.
-/
import Derived.Test.YtgnolhikphoagaaDoorSgV
import Derived.Lib.SplitLaws
import Derived.Lib.Replace
namespace Go.Proofs.YtgnolhikphoagaaDoor

/-! ### what lies between gaps -/

def consH (c : UInt8) : List (List UInt8) → List (List UInt8)
  | [] => [[c]]
  | h :: t => (c :: h) :: t
def splitL : List UInt8 → List (List UInt8)
  | [] => [[]]
  | c :: l => if c = 48 then [] :: splitL l else consH c (splitL l)
theorem splitL_ne (l : List UInt8) : splitL l ≠ [] := by
  cases l with
  | nil => simp [splitL]
  | cons c l =>
    unfold splitL
    split
    · simp
    · cases splitL l <;> simp [consH]
theorem index_zero (r : List UInt8) : Lib.index (48 :: r) [48] = ((0 : Nat) : Int) := by rw [Lib.index]; simp [List.isPrefixOf]
theorem index_next {b : UInt8} {r : List UInt8} (h : b ≠ 48) {i : Nat} (hi : Lib.index r [48] = (i : Int)) : Lib.index (b :: r) [48] = ((i + 1 : Nat) : Int) := by
  have hp : ([48] : List UInt8).isPrefixOf (b :: r) = false := by simp [List.isPrefixOf, Ne.symm h]
  rw [Lib.index, hp, hi]
  simp
theorem splitK_L : ∀ (l : List UInt8), Lib.splitK [48] 0 (l.count 48) l = splitL l
  | [] => rfl
  | b :: r => by
    by_cases h : b = 48
    · subst h
      have e : (48 :: r).count 48 = r.count 48 + 1 := by simp
      rw [e]
      unfold Lib.splitK
      rw [index_zero]
      show [] :: Lib.splitK [48] 0 (r.count 48) (r.drop 0) = splitL (48 :: r)
      rw [List.drop_zero, splitK_L r]
      rfl
    · have e : (b :: r).count 48 = r.count 48 := by rw [List.count_cons_of_ne h]
      have es : splitL (b :: r) = consH b (splitL r) := by
        conv => lhs; unfold splitL
        rw [if_neg h]
      have ih := splitK_L r
      rw [e, es, ← ih]
      cases hk : r.count 48 with
      | zero => rfl
      | succ k =>
        obtain ⟨i, hi⟩ := Lib.index_of_count (s := r) (old := [48]) (by rw [Lib.count_one]; omega)
        have hn := index_next h hi
        unfold Lib.splitK
        rw [hi, hn]
        have n1 : ¬ (((i : Nat) : Int) == -1) = true := fun e => by have := beq_iff_eq.1 e; omega
        have n2 : ¬ (((i + 1 : Nat) : Int) == -1) = true := fun e => by have := beq_iff_eq.1 e; omega
        rw [if_neg n1, if_neg n2]
        show (b :: r).take (i + 1) :: Lib.splitK [48] 0 k ((b :: r).drop (i + 1 + 1)) = (b :: r.take i) :: Lib.splitK [48] 0 k (r.drop (i + 1))
        rfl
/-- a byte more at the end -/
def appL : List (List UInt8) → UInt8 → List (List UInt8)
  | [], c => [[c]]
  | [y], c => [y ++ [c]]
  | x :: y :: r, c => x :: appL (y :: r) c
theorem appL_snoc (y : List UInt8) (c : UInt8) : ∀ X : List (List UInt8), appL (X ++ [y]) c = X ++ [y ++ [c]]
  | [] => rfl
  | [x] => rfl
  | x :: z :: r => by
    show x :: appL ((z :: r) ++ [y]) c = _
    rw [appL_snoc y c (z :: r)]
    rfl
theorem splitL_snoc {c : UInt8} (hc : c ≠ 48) : ∀ l : List UInt8, splitL (l ++ [c]) = appL (splitL l) c
  | [] => by simp [splitL, hc, consH, appL]
  | b :: l => by
    have ih := splitL_snoc hc l
    obtain ⟨h, t, ht⟩ : ∃ h t, splitL l = h :: t := by
      cases e : splitL l with
      | nil => exact absurd e (splitL_ne l)
      | cons h t => exact ⟨h, t, rfl⟩
    rw [ht] at ih
    rw [List.cons_append]
    unfold splitL
    rw [ih, ht]
    split
    · rfl
    · cases t <;> rfl
theorem splitL_gap : ∀ l : List UInt8, splitL (l ++ [48]) = splitL l ++ [[]]
  | [] => rfl
  | b :: l => by
    have ih := splitL_gap l
    obtain ⟨h, t, ht⟩ : ∃ h t, splitL l = h :: t := by
      cases e : splitL l with
      | nil => exact absurd e (splitL_ne l)
      | cons h t => exact ⟨h, t, rfl⟩
    rw [ht] at ih
    rw [List.cons_append]
    unfold splitL
    rw [ih, ht]
    split <;> rfl
theorem splitL_len : ∀ l : List UInt8, (splitL l).length ≤ l.length + 1
  | [] => Nat.le_refl _
  | b :: l => by
    have ih := splitL_len l
    unfold splitL
    split
    · simp; omega
    · cases e : splitL l with
      | nil => simp [consH]
      | cons h t => rw [e] at ih; simp [consH] at ih ⊢; omega
theorem splitL_part : ∀ (l p : List UInt8), p ∈ splitL l → (∀ c ∈ p, c ∈ l ∧ c ≠ 48) ∧ p.length ≤ l.length
  | [], p, h => by
    simp [splitL] at h
    subst h
    simp
  | b :: l, p, h => by
    unfold splitL at h
    split at h
    · rcases List.mem_cons.1 h with rfl | h
      · simp
      · have := splitL_part l p h
        exact ⟨fun c hc => ⟨List.mem_cons_of_mem _ (this.1 c hc).1, (this.1 c hc).2⟩, by simp; omega⟩
    · rename_i hb
      cases e : splitL l with
      | nil => exact absurd e (splitL_ne l)
      | cons x t =>
        rw [e] at h
        rcases List.mem_cons.1 h with rfl | h
        · have := splitL_part l x (by rw [e]; exact List.mem_cons_self ..)
          refine ⟨fun c hc => ?_, by simp; omega⟩
          rcases List.mem_cons.1 hc with rfl | hc
          · exact ⟨List.mem_cons_self .., hb⟩
          · exact ⟨List.mem_cons_of_mem _ (this.1 c hc).1, (this.1 c hc).2⟩
        · have := splitL_part l p (by rw [e]; exact List.mem_cons_of_mem _ h)
          exact ⟨fun c hc => ⟨List.mem_cons_of_mem _ (this.1 c hc).1, (this.1 c hc).2⟩, by simp; omega⟩

/-! ### letters of codes -/

def lt5 (l : List UInt8) : List UInt8 := ltr 5 1 l
theorem lt5_len (l : List UInt8) : (lt5 l).length ≤ 1 := ltr_len _ _ _
theorem lt5_code : ∀ k, k < 26 → lt5 (codeV [UInt8.ofNat (97 + k)]) = [UInt8.ofNat (97 + k)] := by decide +kernel
def pmAll : Nat → List (List UInt8)
  | 0 => [[]]
  | n + 1 => (pmAll n).map (45 :: ·) ++ (pmAll n).map (43 :: ·)
theorem pm_mem : ∀ l : List UInt8, (∀ c ∈ l, c = 45 ∨ c = 43) → l ∈ pmAll l.length
  | [], _ => by simp [pmAll]
  | c :: l, h => by
    have ih := pm_mem l (fun d hd => h d (List.mem_cons_of_mem _ hd))
    show c :: l ∈ (pmAll l.length).map (45 :: ·) ++ (pmAll l.length).map (43 :: ·)
    rcases h c (List.mem_cons_self ..) with rfl | rfl
    · exact List.mem_append_left _ (List.mem_map.2 ⟨l, ih, rfl⟩)
    · exact List.mem_append_right _ (List.mem_map.2 ⟨l, ih, rfl⟩)
theorem pm_code : ∀ n, n < 5 → ∀ l ∈ pmAll n, lt5 l = [] ∨ (List.range 26).any (fun k => decide (codeV [UInt8.ofNat (97 + k)] = l)) = true := by decide +kernel
theorem lt5_none {l : List UInt8} (h : ∀ c ∈ l, c = 45 ∨ c = 43) (hn : ∀ k, k < 26 → codeV [UInt8.ofNat (97 + k)] ≠ l) : lt5 l = [] := by
  by_cases hl : 5 ≤ l.length
  · exact ltr_long 5 1 l hl
  · rcases pm_code l.length (by omega) l (pm_mem l h) with h2 | h2
    · exact h2
    · obtain ⟨k, hk, h3⟩ := List.any_eq_true.1 h2
      exact absurd (of_decide_eq_true h3) (hn k (List.mem_range.1 hk))

/-! ### messages of signals -/

/-- whether a text without more ado is read -/
def msB (l : List UInt8) : Bool := decide (l = []) || (decide ((splitL l).length ≤ 12) && (splitL l).all fun p => decide (lt5 p ≠ []))
def msT (X : List (List UInt8)) : List UInt8 := (X.map lt5).flatten
def msV (l : List UInt8) : List UInt8 := if l = [] then [] else if msB l then msT (splitL l) else []
theorem msT_snoc (X : List (List UInt8)) (y : List UInt8) : msT (X ++ [y]) = msT X ++ lt5 y := by simp [msT]
theorem msT_len (X : List (List UInt8)) : (msT X).length ≤ X.length := by
  induction X with
  | nil => simp [msT]
  | cons x X ih =>
    show (lt5 x ++ msT X).length ≤ _
    have := lt5_len x
    rw [List.length_append, List.length_cons]
    omega
theorem msB_nil : msB [] = true := rfl
theorem msV_nil : msV [] = [] := rfl
theorem msB_long {l : List UInt8} (h : l ≠ []) (h2 : 12 < (splitL l).length) : msB l = false := by
  unfold msB; rw [decide_eq_false h, decide_eq_false (show ¬ (splitL l).length ≤ 12 by omega)]; rfl
theorem msB_not {l : List UInt8} (h : l ≠ []) {p : List UInt8} (hp : p ∈ splitL l) (h2 : lt5 p = []) : msB l = false := by
  have : ((splitL l).all fun p => decide (lt5 p ≠ [])) = false := by
    rw [Bool.eq_false_iff]
    intro h3
    exact of_decide_eq_true (List.all_eq_true.1 h3 p hp) h2
  unfold msB
  rw [decide_eq_false h, this, Bool.and_false]; rfl
theorem msB_yes {l : List UInt8} (h : l ≠ []) (h2 : (splitL l).length ≤ 12) (h3 : ∀ p ∈ splitL l, lt5 p ≠ []) : msB l = true ∧ msV l = msT (splitL l) := by
  have : msB l = true := by
    unfold msB
    rw [decide_eq_true h2, List.all_eq_true.2 (fun p hp => decide_eq_true (h3 p hp))]
    simp
  refine ⟨this, ?_⟩
  unfold msV
  rw [if_neg h, if_pos this]
theorem msV_no {l : List UInt8} (h : msB l = false) : msV l = [] := by
  unfold msV
  split
  · rfl
  · rw [h]; rfl
def rdB (l : List UInt8) : Bool := sigB l && msB l
def rdV (l : List UInt8) : List UInt8 := if sigB l then msV l else []
theorem rdV_yes {l : List UInt8} (h : sigB l = true) : rdB l = msB l ∧ rdV l = msV l := by unfold rdB rdV; rw [h]; exact ⟨rfl, rfl⟩
theorem rdV_no {l : List UInt8} (h : sigB l = false) : rdB l = false ∧ rdV l = [] := by unfold rdB rdV; rw [h]; exact ⟨rfl, rfl⟩

end Go.Proofs.YtgnolhikphoagaaDoor
