/-
  Plain mathematics of the laws of signals turned, cut, made level, and of their distance. Nothing here speaks of the program.
-/
import Derived.Test.YtgnolhikphoagaaDoorSgK
import Derived.Test.YtgnolhikphoagaaDoorSgY
import Derived.Test.YtgnolhikphoagaaDoorSgZ
import Derived.Test.YtgnolhikphoagaaDoorSgE
namespace Go.Proofs.YtgnolhikphoagaaDoor

/-! ### turned -/
theorem turn_turn {c : UInt8} (h : isPul c = true) : turnP (turnP c) = c := by
  rcases pul_cases h with rfl | rfl | rfl <;> rfl
theorem turn_pul (c : UInt8) : isPul (turnP c) = true := by
  unfold turnP
  split
  · rfl
  · split <;> rfl
theorem turn_inj {c d : UInt8} (h : isPul c = true) (h2 : isPul d = true) : turnP c = turnP d ↔ c = d := by
  constructor
  · intro e
    rw [← turn_turn h, e, turn_turn h2]
  · intro e; rw [e]
theorem turn_self {c : UInt8} (h : isPul c = true) : c = turnP c ↔ c = 48 := by
  rcases pul_cases h with rfl | rfl | rfl <;> decide
theorem sig_turn {l : List UInt8} (h : sigB l = true) : sigB (l.map turnP) = true := by
  refine sigB_true.2 ⟨by rw [List.length_map]; exact (sigB_true.1 h).1, fun c hc => ?_⟩
  obtain ⟨d, _, rfl⟩ := List.mem_map.1 hc
  exact turn_pul d
theorem tu_tu {l : List UInt8} (h : sigB l = true) : tuV (l.map turnP) = l := by
  rw [tuV_yes (sig_turn h), List.map_map]
  conv => rhs; rw [← List.map_id l]
  exact List.map_congr_left fun c hc => turn_turn ((sigB_true.1 h).2 c hc)
theorem sig_take {l : List UInt8} (h : sigB l = true) (k : Nat) : sigB (l.take k) = true :=
  sigB_true.2 ⟨by have := (sigB_true.1 h).1; rw [List.length_take]; omega, fun c hc => (sigB_true.1 h).2 c (List.mem_of_mem_take hc)⟩
theorem sig_x (l : List UInt8) : sigB (l ++ [120]) = false := by
  rw [Bool.eq_false_iff]
  intro h
  have := (sigB_true.1 h).2 120 (by simp)
  exact absurd this (by decide)
/-- how many pulses are no gaps -/
def pls (l : List UInt8) : Nat := l.count 43 + l.count 45
theorem pls_snoc (l : List UInt8) (c : UInt8) : pls (l ++ [c]) = pls l + (if c = 43 ∨ c = 45 then 1 else 0) := by
  unfold pls
  rw [List.count_append, List.count_append, List.count_singleton, List.count_singleton]
  by_cases h1 : c = 43
  · subst h1; simp; omega
  · by_cases h2 : c = 45
    · subst h2; simp; omega
    · simp [h1, h2]
theorem far_turnT {l : List UInt8} (h : sigB l = true) : ∀ k, k ≤ l.length → farT l (l.map turnP) k = pls (l.take k)
  | 0, _ => by simp [farT, pls]
  | k + 1, hk => by
    have ih := far_turnT h k (by omega)
    have hkl : k < l.length := by omega
    have hp := (sigB_true.1 h).2 l[k] (List.getElem_mem hkl)
    rw [List.take_succ_eq_append_getElem hkl, pls_snoc, ← ih]
    show farT l (l.map turnP) k + (if l[k]? = (l.map turnP)[k]? then 0 else 1) = _
    rw [List.getElem?_map, List.getElem?_eq_getElem hkl]
    simp only [Option.map_some, Option.some.injEq]
    rcases pul_cases hp with e | e | e <;> rw [e] <;> rfl
theorem far_turn {l : List UInt8} (h : sigB l = true) : farV l (l.map turnP) = ((l.count 43 + l.count 45 : Nat) : Int) := by
  rw [farV_yes (twoB_mk h (sig_turn h) (by rw [List.length_map])), far_turnT h _ (Nat.le_refl _), List.take_length]
  rfl
/-! ### codes -/
theorem code_back1 : ∀ k, k < 26 → (let B := (codeV [UInt8.ofNat (97 + k)]).map turnP; rdB B = false ∨ (rdV B ≠ [UInt8.ofNat (97 + k)] ∧ codeV (rdV B) = B)) := by decide +kernel
theorem code_back {c : UInt8} (h : isLet c = true) : rdB ((codeV [c]).map turnP) = false ∨ (rdV ((codeV [c]).map turnP) ≠ [c] ∧ codeV (rdV ((codeV [c]).map turnP)) = (codeV [c]).map turnP) := by
  have hb : 97 ≤ c.toNat ∧ c.toNat ≤ 122 := of_decide_eq_true h
  have := code_back1 (c.toNat - 97) (by omega)
  rw [show 97 + (c.toNat - 97) = c.toNat by omega, UInt8.ofNat_toNat] at this
  exact this
theorem code_let {t : List UInt8} (h : codeV t ≠ []) : ∃ c, t = [c] ∧ isLet c = true := by
  match t, h with
  | [], h => exact absurd rfl h
  | [c], h =>
    refine ⟨c, rfl, ?_⟩
    cases hc : isLet c
    · exact absurd ((code_nil c).2 hc) h
    · rfl
  | _ :: _ :: _, h => exact absurd rfl h
theorem code_facts {c : UInt8} (h : isLet c = true) : rdB (codeV [c]) = true ∧ rdV (codeV [c]) = [c] ∧ sigB (codeV [c]) = true ∧ (codeV [c]).count 48 = 0 ∧ 1 ≤ (codeV [c]).length ∧ (codeV [c]).length ≤ 4 := by
  have hok : ofOk [c] = true := ofOk_true.2 ⟨by simp, fun d hd => by rw [List.mem_singleton.1 hd]; exact h⟩
  obtain ⟨r1, r2⟩ := read_sent hok
  rw [sgT_one] at r1 r2
  have hs : sigB (codeV [c]) = true := by
    unfold rdB at r1
    rw [Bool.and_eq_true] at r1
    exact r1.1
  refine ⟨r1, r2, hs, count_noG (code_noG c), ?_, codeV_len _⟩
  cases hl : codeV [c] with
  | nil => have := (code_nil c).1 hl; rw [h] at this; exact absurd this (by decide)
  | cons a b => simp
/-! ### level -/
theorem driV_app (l m : List UInt8) : driV (l ++ m) = driV l + driV m := by
  unfold driV
  rw [List.count_append, List.count_append]
  omega
theorem driV_m (n : Nat) : driV (List.replicate n 45) = -(n : Int) := by
  unfold driV
  rw [List.count_replicate_self, List.count_replicate]
  simp
theorem driV_p (n : Nat) : driV (List.replicate n 43) = (n : Int) := by
  unfold driV
  rw [List.count_replicate_self, List.count_replicate]
  simp
theorem levV_dri (l : List UInt8) : driV (levV l) = 0 := by
  by_cases h : driV l = 0
  · rw [levV_same h]; exact h
  · rw [levV_more h, driV_app, driV_app, driV_app, driV_m, driV_p, show driV [48] = 0 by decide]
    omega
theorem lev_again {l : List UInt8} (h : levB l = true) : levB (levV l) = true ∧ levR (levV l) = levV l ∧ sigB (levV l) = true := by
  have hs : sigB (levV l) = true := by
    unfold levB at h
    rw [Bool.and_eq_true] at h
    exact h.2
  have he := levV_same (levV_dri l)
  have hb : levB (levV l) = true := by
    unfold levB
    rw [he, hs]; rfl
  exact ⟨hb, by rw [levR_yes hb, he], hs⟩
theorem lev_take (l : List UInt8) : (levV l).take l.length = l ∧ l.length ≤ (levV l).length := by
  by_cases h : driV l = 0
  · rw [levV_same h]; exact ⟨List.take_length, Nat.le_refl _⟩
  · rw [levV_more h]
    refine ⟨?_, by simp⟩
    rw [List.append_assoc, List.append_assoc, List.take_left]
theorem driT_last {l : List UInt8} (h : l ≠ []) : (driT l l.length)[l.length - 1]? = some (driV l) := by
  have h0 : 0 < l.length := List.length_pos_iff.2 h
  unfold driT
  rw [List.getElem?_map, List.getElem?_range (by omega)]
  simp only [Option.map_some]
  rw [List.take_of_length_le (by omega)]
/-! ### distances -/
theorem farT_comm (a b : List UInt8) : ∀ k, farT b a k = farT a b k
  | 0 => rfl
  | k + 1 => by
    show farT b a k + (if b[k]? = a[k]? then 0 else 1) = farT a b k + (if a[k]? = b[k]? then 0 else 1)
    rw [farT_comm a b k]
    by_cases h : a[k]? = b[k]?
    · rw [if_pos h, if_pos h.symm]
    · rw [if_neg h, if_neg (Ne.symm h)]
theorem far_comm {a b : List UInt8} (h : twoB a b = true) : farV b a = farV a b := by
  obtain ⟨h1, h2, h3⟩ := twoB_true.1 h
  rw [farV_yes h, farV_yes (twoB_mk h2 h1 h3.symm), farT_comm, h3]
theorem farT_turn {a b : List UInt8} (h1 : sigB a = true) (h2 : sigB b = true) (h3 : a.length = b.length) : ∀ k, k ≤ a.length → farT (a.map turnP) (b.map turnP) k = farT a b k
  | 0, _ => rfl
  | k + 1, hk => by
    have ih := farT_turn h1 h2 h3 k (by omega)
    have ha : k < a.length := by omega
    have hb : k < b.length := by omega
    have e := turn_inj ((sigB_true.1 h1).2 a[k] (List.getElem_mem ha)) ((sigB_true.1 h2).2 b[k] (List.getElem_mem hb))
    show farT (a.map turnP) (b.map turnP) k + (if (a.map turnP)[k]? = (b.map turnP)[k]? then 0 else 1) = farT a b k + (if a[k]? = b[k]? then 0 else 1)
    rw [ih, List.getElem?_map, List.getElem?_map, List.getElem?_eq_getElem ha, List.getElem?_eq_getElem hb]
    simp only [Option.map_some, Option.some.injEq]
    by_cases h : a[k] = b[k]
    · rw [if_pos h, if_pos (e.2 h)]
    · rw [if_neg h, if_neg (fun h4 => h (e.1 h4))]
theorem far_turn2 {a b : List UInt8} (h : twoB a b = true) : farV (a.map turnP) (b.map turnP) = farV a b := by
  obtain ⟨h1, h2, h3⟩ := twoB_true.1 h
  rw [farV_yes h, farV_yes (twoB_mk (sig_turn h1) (sig_turn h2) (by simpa using h3)), List.length_map, farT_turn h1 h2 h3 _ (Nat.le_refl _)]
theorem farT_zero {a b : List UInt8} : ∀ k, farT a b k = 0 → ∀ j, j < k → a[j]? = b[j]?
  | 0, _, j, hj => absurd hj (by omega)
  | k + 1, h, j, hj => by
    have h0 : farT a b k + (if a[k]? = b[k]? then 0 else 1) = 0 := h
    have h1 : a[k]? = b[k]? := by
      by_cases h2 : a[k]? = b[k]?
      · exact h2
      · rw [if_neg h2] at h0; omega
    rcases Nat.lt_or_ge j k with h2 | h2
    · exact farT_zero k (by omega) j h2
    · rw [show j = k by omega]; exact h1
theorem farT_self (a : List UInt8) : ∀ k, farT a a k = 0
  | 0 => rfl
  | k + 1 => by
    show farT a a k + (if a[k]? = a[k]? then 0 else 1) = 0
    rw [farT_self a k, if_pos rfl]
theorem far_zero {a b : List UInt8} (h : twoB a b = true) : farV a b = 0 ↔ a = b := by
  obtain ⟨_, _, h3⟩ := twoB_true.1 h
  rw [farV_yes h]
  constructor
  · intro e
    have e0 : farT a b a.length = 0 := by omega
    apply List.ext_getElem? fun i => ?_
    rcases Nat.lt_or_ge i a.length with h4 | h4
    · exact farT_zero _ e0 i h4
    · rw [List.getElem?_eq_none h4, List.getElem?_eq_none (by omega)]
  · rintro rfl
    rw [farT_self]; rfl
theorem subP_at {l : List UInt8} {i : Nat} {p : UInt8} (h : i < l.length) {n : Nat} (hn : n ≠ i) : (subP l i p)[n]? = l[n]? := by
  unfold subP
  rw [List.append_assoc]
  rcases Nat.lt_or_ge n i with h1 | h1
  · rw [List.getElem?_append_left (by rw [List.length_take]; omega), List.getElem?_take, if_pos h1]
  · rw [List.getElem?_append_right (by rw [List.length_take]; omega), List.length_take, show n - min i l.length = (n - i - 1) + 1 by omega]
    show ([p] ++ l.drop (i + 1))[n - i - 1 + 1]? = _
    rw [List.singleton_append, List.getElem?_cons_succ, List.getElem?_drop]
    congr 1
    omega
theorem farT_sub {a b : List UInt8} {i : Nat} {p : UInt8} (h : i < a.length) : ∀ n, (n ≤ i → farT (subP a i p) b n = farT a b n) ∧ farT (subP a i p) b n ≤ farT a b n + 1 ∧ farT a b n ≤ farT (subP a i p) b n + 1
  | 0 => ⟨fun _ => rfl, by simp [farT], by simp [farT]⟩
  | n + 1 => by
    obtain ⟨i1, i2, i3⟩ := farT_sub (b := b) (p := p) h n
    have e1 : farT (subP a i p) b (n + 1) = farT (subP a i p) b n + (if (subP a i p)[n]? = b[n]? then 0 else 1) := rfl
    have e2 : farT a b (n + 1) = farT a b n + (if a[n]? = b[n]? then 0 else 1) := rfl
    by_cases hn : n = i
    · have := i1 (by omega)
      rw [e1, e2, this]
      refine ⟨fun h => by omega, ?_, ?_⟩ <;> split <;> split <;> omega
    · rw [e1, e2, subP_at h hn]
      refine ⟨fun h => by rw [i1 (by omega)], ?_, ?_⟩ <;> omega
theorem far_sub {a b : List UInt8} {i : Nat} {p : UInt8} (h : twoB a b = true) (hi : i < a.length) (hp : isPul p = true) : -1 ≤ farV (subP a i p) b - farV a b ∧ farV (subP a i p) b - farV a b ≤ 1 := by
  obtain ⟨h1, h2, h3⟩ := twoB_true.1 h
  have ht : twoB (subP a i p) b = true := twoB_mk (subP_sig hi h1 hp) h2 (by rw [subP_len p hi]; exact h3)
  obtain ⟨_, e1, e2⟩ := farT_sub (b := b) (p := p) hi a.length
  rw [farV_yes h, farV_yes ht, subP_len p hi]
  omega
end Go.Proofs.YtgnolhikphoagaaDoor
