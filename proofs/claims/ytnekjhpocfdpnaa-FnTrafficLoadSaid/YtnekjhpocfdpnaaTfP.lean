/-
  Mathematics of ways: the first way that reaches a station is the least one; how many lines lead from each station to one; going down them is the least way. Nothing here speaks of the program.
-/
import Derived.Test.YtnekjhpocfdpnaaSprM
namespace Go.Proofs.Ytnekjhpocfdpnaa

/-! ## Continuations: a row of stations behind one station, each with a free line -/
/-- the last station behind a -/
def lst (a : Int) : List Int → Int
  | [] => a
  | x :: s => lst x s
/-- free lines all along -/
def Ch (fr : Int → Int → Bool) (m : Nat) (a : Int) : List Int → Prop
  | [] => True
  | x :: s => (fr a x = true ∧ 0 ≤ x ∧ x < (m : Int)) ∧ Ch fr m x s
section
variable {fr : Int → Int → Bool} {m : Nat}
theorem lst_snoc (a : Int) (s : List Int) (x : Int) : lst a (s ++ [x]) = x := by
  induction s generalizing a with
  | nil => rfl
  | cons y t ih => exact ih y
theorem lst_lastI (a : Int) (s : List Int) : lastI (a :: s) = lst a s := by
  induction s generalizing a with
  | nil => rfl
  | cons y t ih =>
    have := ih y
    unfold lastI at this ⊢
    simpa [lst] using this
theorem Ch_snoc {a : Int} {s : List Int} {x : Int} : Ch fr m a (s ++ [x]) ↔ Ch fr m a s ∧ fr (lst a s) x = true ∧ 0 ≤ x ∧ x < (m : Int) := by
  induction s generalizing a with
  | nil => simp [Ch, lst]
  | cons y t ih =>
    rw [List.cons_append, Ch, Ch, ih, lst]
    constructor
    · rintro ⟨h1, h2, h3⟩; exact ⟨⟨h1, h2⟩, h3⟩
    · rintro ⟨⟨h1, h2⟩, h3⟩; exact ⟨h1, h2, h3⟩
theorem Ch_lst {a : Int} {s : List Int} (h : Ch fr m a s) (ha : 0 ≤ a ∧ a < (m : Int)) : 0 ≤ lst a s ∧ lst a s < (m : Int) := by
  induction s generalizing a with
  | nil => exact ha
  | cons x t ih => exact ih h.2 h.1.2
theorem Ch_mem {a : Int} {s : List Int} (h : Ch fr m a s) : ∀ x ∈ s, 0 ≤ x ∧ x < (m : Int) := by
  induction s generalizing a with
  | nil => simp
  | cons y t ih =>
    intro x hx
    rcases List.mem_cons.1 hx with rfl | hx
    · exact h.1.2
    · exact ih h.2 x hx
end

/-! ## fewer lines first, then the lesser station -/
def sl (a b : List Int) : Prop := a.length < b.length ∨ (a.length = b.length ∧ lexB a b = true)
def sle (a b : List Int) : Prop := a = b ∨ sl a b
theorem sl_irrefl (a : List Int) : ¬ sl a a := by
  rintro (h | ⟨_, h⟩)
  · omega
  · rw [lexB_irrefl] at h; simp at h
theorem sl_trans {a b c : List Int} (h : sl a b) (g : sl b c) : sl a c := by
  rcases h with h | ⟨h1, h2⟩ <;> rcases g with g | ⟨g1, g2⟩
  · exact .inl (by omega)
  · exact .inl (by omega)
  · exact .inl (by omega)
  · exact .inr ⟨by omega, lexB_trans h2 g2⟩
theorem sle_trans {a b c : List Int} (h : sle a b) (g : sle b c) : sle a c := by
  rcases h with rfl | h
  · exact g
  · rcases g with rfl | g
    · exact .inr h
    · exact .inr (sl_trans h g)
theorem sle_anti {a b : List Int} (h : sle a b) (g : sle b a) : a = b := by
  rcases h with h | h
  · exact h
  · rcases g with g | g
    · exact g.symm
    · exact absurd (sl_trans h g) (sl_irrefl a)
theorem sl_sle {a b c : List Int} (h : sl a b) (g : sle b c) : sl a c := by
  rcases g with rfl | g
  · exact h
  · exact sl_trans h g
theorem sl_snoc {a b : List Int} (h : sl a b) (x y : Int) : sl (a ++ [x]) (b ++ [y]) := by
  rcases h with h | ⟨h1, h2⟩
  · exact .inl (by simp; omega)
  · exact .inr ⟨by simp; omega, lexB_right h2 [x] [y]⟩
theorem sle_snoc {a b : List Int} (h : sle a b) (x : Int) : sle (a ++ [x]) (b ++ [x]) := by
  rcases h with rfl | h
  · exact .inl rfl
  · exact .inr (sl_snoc h x x)
theorem sl_last (a : List Int) {x y : Int} (h : x < y) : sl (a ++ [x]) (a ++ [y]) := by
  refine .inr ⟨by simp, ?_⟩
  rw [lexB_left, lexB, if_neg (by omega)]
  simpa using h
theorem sl_more (a : List Int) (x : Int) : sl a (a ++ [x]) := .inl (by simp)

/-! ## ways from a station, found one after the other -/
def rAt (R : List Bool) (x : Int) : Bool := R[x.toNat]?.getD false
/-- a way is prolonged to those of the first k stations that are not reached yet -/
def expS (fr : Int → Int → Bool) (w : List Int) (s : List Bool × List (List Int)) : Nat → List Bool × List (List Int)
  | 0 => s
  | k + 1 =>
    let t := expS fr w s k
    if rAt t.1 (k : Int) = false ∧ fr (lastI w) (k : Int) = true then (t.1.set k true, t.2 ++ [w ++ [(k : Int)]]) else t
def bfs (fr : Int → Int → Bool) (m : Nat) (to : Int) : Nat → List (List Int) → List Bool → List Int
  | 0, _, _ => []
  | _ + 1, [], _ => []
  | F + 1, w :: q, R => if lastI w = to then w else bfs fr m to F (expS fr w (R, q) m).2 (expS fr w (R, q) m).1

theorem rAt_set {R : List Bool} {k : Nat} (hk : k < R.length) (x : Int) (hx : 0 ≤ x) : rAt (R.set k true) x = (decide (x = (k : Int)) || rAt R x) := by
  unfold rAt
  rw [List.getElem?_set]
  by_cases h : x = (k : Int)
  · subst h; simp [hk]
  · rw [if_neg (by omega)]; simp [h]

/-- a way from f to e -/
def Pth (fr : Int → Int → Bool) (m : Nat) (f : Int) (w : List Int) : Prop := ∃ s, w = f :: s ∧ Ch fr m f s
section
variable {fr : Int → Int → Bool} {m : Nat} {f to : Int}
theorem Pth.one : Pth fr m f [f] := ⟨[], rfl, trivial⟩
theorem Pth.snoc {w : List Int} {x : Int} (h : Pth fr m f w) (hf : fr (lastI w) x = true) (h0 : 0 ≤ x) (h1 : x < (m : Int)) : Pth fr m f (w ++ [x]) := by
  obtain ⟨s, rfl, hs⟩ := h
  exact ⟨s ++ [x], rfl, Ch_snoc.2 ⟨hs, by rw [lst_lastI] at hf; exact hf, h0, h1⟩⟩
theorem Pth.last_in {w : List Int} (h : Pth fr m f w) (hf : 0 ≤ f ∧ f < (m : Int)) : 0 ≤ lastI w ∧ lastI w < (m : Int) := by
  obtain ⟨s, rfl, hs⟩ := h
  rw [lst_lastI]
  exact Ch_lst hs hf
theorem Pth.len {w : List Int} (h : Pth fr m f w) : 0 < w.length := by
  obtain ⟨s, rfl, hs⟩ := h
  simp

/-- WHAT HOLDS BETWEEN TWO ROUNDS: D the ways that were looked at, Q those that wait -/
structure BInv (fr : Int → Int → Bool) (m : Nat) (f to : Int) (D Q : List (List Int)) (R : List Bool) : Prop where
  pth : ∀ w ∈ D ++ Q, Pth fr m f w
  asc : (D ++ Q).Pairwise sl
  src : ∀ w ∈ D ++ Q, w = [f] ∨ ∃ q ∈ D, ∃ y, w = q ++ [y]
  reached : ∀ x : Int, 0 ≤ x → x < (m : Int) → (rAt R x = true ↔ ∃ w ∈ D ++ Q, lastI w = x)
  done : ∀ q ∈ D, ∀ x : Int, fr (lastI q) x = true → 0 ≤ x → x < (m : Int) → ∃ w ∈ D ++ Q, lastI w = x ∧ sle w (q ++ [x])
  notTo : ∀ q ∈ D, lastI q ≠ to
  start : ∃ w ∈ D ++ Q, w = [f]
  len : m ≤ R.length

/-- .. within a round: p is looked at, the first k stations have been tried; D holds p -/
structure EInv (fr : Int → Int → Bool) (m : Nat) (f : Int) (D : List (List Int)) (p : List Int) (Q : List (List Int)) (R : List Bool) (k : Nat) : Prop where
  pth : ∀ w ∈ D ++ p :: Q, Pth fr m f w
  asc : (D ++ p :: Q).Pairwise sl
  src : ∀ w ∈ D ++ p :: Q, w = [f] ∨ (∃ q ∈ D, ∃ y, w = q ++ [y]) ∨ ∃ y, y < (k : Int) ∧ w = p ++ [y]
  reached : ∀ x : Int, 0 ≤ x → x < (m : Int) → (rAt R x = true ↔ ∃ w ∈ D ++ p :: Q, lastI w = x)
  done : ∀ q ∈ D, ∀ x : Int, fr (lastI q) x = true → 0 ≤ x → x < (m : Int) → ∃ w ∈ D ++ p :: Q, lastI w = x ∧ sle w (q ++ [x])
  now : ∀ x : Int, fr (lastI p) x = true → 0 ≤ x → x < (k : Int) → ∃ w ∈ D ++ p :: Q, lastI w = x ∧ sle w (p ++ [x])
  len : m ≤ R.length

theorem EInv.under {D Q : List (List Int)} {p : List Int} {R : List Bool} {k : Nat} (h : EInv fr m f D p Q R k) : ∀ w ∈ D ++ p :: Q, sl w (p ++ [(k : Int)]) := by
  intro w hw
  have hp : Pth fr m f p := h.pth p (by simp)
  rcases h.src w hw with rfl | ⟨q, hq, y, rfl⟩ | ⟨y, hy, rfl⟩
  · have := hp.len
    exact .inl (by simp; omega)
  · refine sl_snoc ?_ _ _
    exact (List.pairwise_append.1 h.asc).2.2 q hq p (by simp)
  · exact sl_last p hy

theorem exp_inv {D Q : List (List Int)} {p : List Int} {R : List Bool} (h : EInv fr m f D p Q R 0) : ∀ k, k ≤ m → EInv fr m f D p (expS fr p (R, Q) k).2 (expS fr p (R, Q) k).1 k
  | 0, _ => h
  | k + 1, hk => by
    have ih := exp_inv h k (by omega)
    have hu := ih.under
    obtain ⟨R1, Q1, e⟩ : ∃ R1 Q1, expS fr p (R, Q) k = (R1, Q1) := ⟨_, _, rfl⟩
    rw [expS, e]
    rw [e] at ih hu
    dsimp only at ih hu ⊢
    by_cases hc : rAt R1 (k : Int) = false ∧ fr (lastI p) (k : Int) = true
    · rw [if_pos hc]
      dsimp only
      have hmem : ∀ w, w ∈ D ++ p :: (Q1 ++ [p ++ [(k : Int)]]) ↔ w ∈ D ++ p :: Q1 ∨ w = p ++ [(k : Int)] := by
        intro w
        simp only [List.mem_append, List.mem_cons, List.not_mem_nil, or_false]
        constructor
        · rintro (h1 | h1 | h1 | h1)
          · exact .inl (.inl h1)
          · exact .inl (.inr (.inl h1))
          · exact .inl (.inr (.inr h1))
          · exact .inr h1
        · rintro ((h1 | h1 | h1) | h1)
          · exact .inl h1
          · exact .inr (.inl h1)
          · exact .inr (.inr (.inl h1))
          · exact .inr (.inr (.inr h1))
      have hl : lastI (p ++ [(k : Int)]) = (k : Int) := lastI_snoc _ _
      refine ⟨?_, ?_, ?_, ?_, ?_, ?_, ?_⟩
      · intro w hw
        rcases (hmem w).1 hw with h1 | rfl
        · exact ih.pth w h1
        · exact (ih.pth p (by simp)).snoc hc.2 (by omega) (by omega)
      · have : D ++ p :: (Q1 ++ [p ++ [(k : Int)]]) = (D ++ p :: Q1) ++ [p ++ [(k : Int)]] := by simp
        rw [this, List.pairwise_append]
        exact ⟨ih.asc, by simp, fun a ha b hb => by simp at hb; subst hb; exact hu a ha⟩
      · intro w hw
        rcases (hmem w).1 hw with h1 | rfl
        · rcases ih.src w h1 with h2 | h2 | ⟨y, hy, h2⟩
          · exact .inl h2
          · exact .inr (.inl h2)
          · exact .inr (.inr ⟨y, by omega, h2⟩)
        · exact .inr (.inr ⟨(k : Int), by omega, rfl⟩)
      · intro x h0 h1
        rw [rAt_set (by have := ih.len; omega) x h0]
        constructor
        · intro h2
          by_cases hx : x = (k : Int)
          · exact ⟨_, (hmem _).2 (.inr rfl), by rw [hl, hx]⟩
          · simp [hx] at h2
            obtain ⟨w, hw, e2⟩ := (ih.reached x h0 h1).1 h2
            exact ⟨w, (hmem w).2 (.inl hw), e2⟩
        · rintro ⟨w, hw, e2⟩
          rcases (hmem w).1 hw with h2 | rfl
          · simp [(ih.reached x h0 h1).2 ⟨w, h2, e2⟩]
          · rw [hl] at e2; simp [e2]
      · intro q hq x hf h0 h1
        obtain ⟨w, hw, h2⟩ := ih.done q hq x hf h0 h1
        exact ⟨w, (hmem w).2 (.inl hw), h2⟩
      · intro x hf h0 h1
        by_cases hx : x = (k : Int)
        · subst hx; exact ⟨_, (hmem _).2 (.inr rfl), hl, .inl rfl⟩
        · obtain ⟨w, hw, h2⟩ := ih.now x hf h0 (by omega)
          exact ⟨w, (hmem w).2 (.inl hw), h2⟩
      · simpa using ih.len
    · rw [if_neg hc]
      refine ⟨ih.pth, ih.asc, ?_, ih.reached, ih.done, ?_, ih.len⟩
      · intro w hw
        rcases ih.src w hw with h2 | h2 | ⟨y, hy, h2⟩
        · exact .inl h2
        · exact .inr (.inl h2)
        · exact .inr (.inr ⟨y, by omega, h2⟩)
      · intro x hf h0 h1
        by_cases hx : x = (k : Int)
        · subst hx
          have hr : rAt R1 (k : Int) = true := by
            cases hr : rAt R1 (k : Int)
            · exact absurd ⟨hr, hf⟩ hc
            · rfl
          obtain ⟨w, hw, e2⟩ := (ih.reached _ h0 (by omega)).1 hr
          exact ⟨w, hw, e2, .inr (hu w hw)⟩
        · exact ih.now x hf h0 (by omega)

theorem BInv.begin {D Q : List (List Int)} {p : List Int} {R : List Bool} (h : BInv fr m f to D (p :: Q) R) : EInv fr m f D p Q R 0 :=
  ⟨h.pth, h.asc, fun w hw => by
    rcases h.src w hw with h1 | h1
    · exact .inl h1
    · exact .inr (.inl h1), h.reached, h.done, fun x _ h0 h1 => by omega, h.len⟩
theorem EInv.fin {D Q : List (List Int)} {p : List Int} {R : List Bool} (h : EInv fr m f D p Q R m) (hn : ∀ q ∈ D, lastI q ≠ to) (hp : lastI p ≠ to) (hs : ∃ w ∈ D ++ p :: Q, w = [f]) : BInv fr m f to (D ++ [p]) Q R := by
  have e : D ++ [p] ++ Q = D ++ p :: Q := by simp
  refine ⟨?_, ?_, ?_, ?_, ?_, ?_, ?_, h.len⟩
  · rw [e]; exact h.pth
  · rw [e]; exact h.asc
  · rw [e]
    intro w hw
    rcases h.src w hw with h1 | ⟨q, hq, y, h1⟩ | ⟨y, _, h1⟩
    · exact .inl h1
    · exact .inr ⟨q, by simp [hq], y, h1⟩
    · exact .inr ⟨p, by simp, y, h1⟩
  · rw [e]; exact h.reached
  · rw [e]
    intro q hq x hf h0 h1
    rcases List.mem_append.1 hq with h2 | h2
    · exact h.done q h2 x hf h0 h1
    · simp at h2; subst h2
      exact h.now x hf h0 h1
  · intro q hq
    rcases List.mem_append.1 hq with h2 | h2
    · exact hn q h2
    · simp at h2; subst h2; exact hp
  · rw [e]; exact hs

theorem exp_keeps {p : List Int} {s : List Bool × List (List Int)} {w : List Int} (h : w ∈ s.2) : ∀ k, w ∈ (expS fr p s k).2
  | 0 => h
  | k + 1 => by
    have := exp_keeps (p := p) h k
    rw [expS]
    split
    · simp [this]
    · exact this

/-- how many stations are not reached yet -/
def unR (R : List Bool) : Nat := R.count false
theorem count_set {R : List Bool} {k : Nat} (hk : k < R.length) (h : R[k] = false) : (R.set k true).count false + 1 = R.count false := by
  induction R generalizing k with
  | nil => simp at hk
  | cons b t ih =>
    cases k with
    | zero =>
      simp only [List.getElem_cons_zero] at h
      subst h
      rw [List.set_cons_zero, List.count_cons, List.count_cons]
      simp
    | succ k =>
      have := ih (k := k) (by simpa using hk) (by simpa using h)
      rw [List.set_cons_succ, List.count_cons, List.count_cons]
      omega
theorem exp_meas {p : List Int} {s : List Bool × List (List Int)} : ∀ k, k ≤ s.1.length → (expS fr p s k).1.length = s.1.length ∧ (expS fr p s k).2.length + unR (expS fr p s k).1 = s.2.length + unR s.1
  | 0, _ => ⟨rfl, rfl⟩
  | k + 1, hk => by
    obtain ⟨h1, h2⟩ := exp_meas (p := p) (s := s) k (by omega)
    rw [expS]
    by_cases hc : rAt (expS fr p s k).1 (k : Int) = false ∧ fr (lastI p) (k : Int) = true
    · rw [if_pos hc]
      dsimp only
      refine ⟨by simp [h1], ?_⟩
      have hr : k < (expS fr p s k).1.length := by omega
      have hb : (expS fr p s k).1[k] = false := by
        have := hc.1
        unfold rAt at this
        simpa [hr] using this
      have := count_set hr hb
      unfold unR at h2 ⊢
      simp only [List.length_append, List.length_cons, List.length_nil]
      omega
    · rw [if_neg hc]
      exact ⟨h1, h2⟩
theorem exp_len {p : List Int} {s : List Bool × List (List Int)} : ∀ k, ∀ w ∈ (expS fr p s k).2, w ∈ s.2 ∨ ∃ x : Int, 0 ≤ x ∧ x < (k : Int) ∧ w = p ++ [x]
  | 0 => fun w hw => .inl hw
  | k + 1 => by
    intro w hw
    rw [expS] at hw
    split at hw
    · rcases List.mem_append.1 hw with h | h
      · rcases exp_len k w h with h1 | ⟨x, h0, h1, h2⟩
        · exact .inl h1
        · exact .inr ⟨x, h0, by omega, h2⟩
      · simp at h
        exact .inr ⟨(k : Int), by omega, by omega, h⟩
    · rcases exp_len k w hw with h1 | ⟨x, h0, h1, h2⟩
      · exact .inl h1
      · exact .inr ⟨x, h0, by omega, h2⟩

/-- each way's beginning has been met by one that is no greater, or one that waits is no greater than the way -/
theorem BInv.meets {D Q : List (List Int)} {R : List Bool} (h : BInv fr m f to D Q R) (hf : 0 ≤ f ∧ f < (m : Int)) : ∀ (n : Nat) (s : List Int), s.length = n → Ch fr m f s → (∃ w ∈ D ++ Q, lastI w = lst f s ∧ sle w (f :: s)) ∨ ∃ w ∈ Q, sle w (f :: s)
  | 0, s, hl, hs => by
    obtain rfl : s = [] := List.length_eq_zero_iff.1 hl
    obtain ⟨w, hw, rfl⟩ := h.start
    exact .inl ⟨[f], hw, rfl, .inl rfl⟩
  | n + 1, s, hl, hs => by
    obtain ⟨t, x, rfl⟩ : ∃ t x, s = t ++ [x] := by
      rcases List.eq_nil_or_concat s with rfl | ⟨t, x, e⟩
      · simp at hl
      · exact ⟨t, x, by simpa using e⟩
    obtain ⟨h1, h2, h3, h4⟩ := Ch_snoc.1 hs
    have hstep : sle (f :: t) (f :: (t ++ [x])) := .inr (sl_more (f :: t) x)
    rcases h.meets hf n t (by simpa using hl) h1 with ⟨w, hw, e, hle⟩ | ⟨w, hw, hle⟩
    · rcases List.mem_append.1 hw with hD | hQ
      · obtain ⟨v, hv, ev, hv2⟩ := h.done w hD x (by rw [e]; exact h2) h3 h4
        refine .inl ⟨v, hv, by rw [ev, lst_snoc], ?_⟩
        have := sle_snoc hle x
        exact sle_trans hv2 this
      · exact .inr ⟨w, hQ, sle_trans hle hstep⟩
    · exact .inr ⟨w, hw, sle_trans hle hstep⟩

/-- p IS THE LEAST WAY -/
def leastW (fr : Int → Int → Bool) (m : Nat) (f to : Int) (w : List Int) : Prop := (Pth fr m f w ∧ lastI w = to) ∧ ∀ r, Pth fr m f r → lastI r = to → sle w r
theorem leastW_one {v w : List Int} (h : leastW fr m f to v) (g : leastW fr m f to w) : v = w := sle_anti (h.2 w g.1.1 g.1.2) (g.2 v h.1.1 h.1.2)

theorem bfs_inv (hf : 0 ≤ f ∧ f < (m : Int)) : ∀ (F : Nat) (D Q : List (List Int)) (R : List Bool), BInv fr m f to D Q R → Q.length + unR R + 1 ≤ F →
    (bfs fr m to F Q R = [] ∧ ∀ r, Pth fr m f r → lastI r ≠ to) ∨ leastW fr m f to (bfs fr m to F Q R)
  | 0, D, Q, R, h, hF => by omega
  | F + 1, D, [], R, h, hF => by
    refine .inl ⟨rfl, ?_⟩
    rintro r ⟨s, rfl, hs⟩ e
    rcases h.meets hf s.length s rfl hs with ⟨w, hw, e2, _⟩ | ⟨w, hw, _⟩
    · rw [List.append_nil] at hw
      rw [lst_lastI] at e
      exact h.notTo w hw (by rw [e2, e])
    · simp at hw
  | F + 1, D, p :: Q, R, h, hF => by
    rw [bfs]
    by_cases hp : lastI p = to
    · rw [if_pos hp]
      refine .inr ⟨⟨h.pth p (by simp), hp⟩, ?_⟩
      rintro r ⟨s, rfl, hs⟩ e
      have hq : ∀ w ∈ p :: Q, sle p w := by
        intro w hw
        rcases List.mem_cons.1 hw with rfl | hw
        · exact .inl rfl
        · exact .inr ((List.pairwise_cons.1 (List.pairwise_append.1 h.asc).2.1).1 w hw)
      rcases h.meets hf s.length s rfl hs with ⟨w, hw, e2, hle⟩ | ⟨w, hw, hle⟩
      · rcases List.mem_append.1 hw with hD | hQ
        · rw [lst_lastI] at e
          exact absurd (by rw [e2, e]) (h.notTo w hD)
        · exact sle_trans (hq w hQ) hle
      · exact sle_trans (hq w hw) hle
    · rw [if_neg hp]
      have h1 := exp_inv h.begin m (Nat.le_refl _)
      have h2 := exp_meas (fr := fr) (p := p) (s := (R, Q)) m h.len
      have hs : ∃ w ∈ D ++ p :: (expS fr p (R, Q) m).2, w = [f] := by
        obtain ⟨w, hw, e⟩ := h.start
        refine ⟨w, ?_, e⟩
        rcases List.mem_append.1 hw with h3 | h3
        · simp [h3]
        · rcases List.mem_cons.1 h3 with h4 | h4
          · simp [h4]
          · have := exp_keeps (fr := fr) (p := p) (s := (R, Q)) (w := w) h4 m
            simp [this]
      refine bfs_inv hf F (D ++ [p]) _ _ (h1.fin h.notTo hp hs) ?_
      have h3 := h2.2
      dsimp only at h3
      simp only [List.length_cons] at hF
      omega

/-- the start -/
theorem BInv.first {R : List Bool} (hm : m ≤ R.length) (hR : ∀ x : Int, 0 ≤ x → rAt R x = decide (x = f)) : BInv fr m f to [] [[f]] R := by
  refine ⟨?_, ?_, ?_, ?_, ?_, ?_, ?_, hm⟩
  · intro w hw; simp at hw; subst hw; exact Pth.one
  · simp
  · intro w hw; simp at hw; exact .inl hw
  · intro x h0 h1
    rw [hR x h0]
    simp only [List.nil_append, List.mem_singleton, decide_eq_true_eq]
    constructor
    · intro e; exact ⟨[f], rfl, e.symm⟩
    · rintro ⟨w, rfl, e⟩; exact e.symm
  · intro q hq; simp at hq
  · intro q hq; simp at hq
  · exact ⟨[f], by simp, rfl⟩
end

end Go.Proofs.Ytnekjhpocfdpnaa
