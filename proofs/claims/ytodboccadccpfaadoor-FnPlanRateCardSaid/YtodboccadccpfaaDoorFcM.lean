/-
  Mathematics of forecasts: open days as bits, ends of work, windows, the longest fair weather. Nothing here speaks of the program.
-/
import Derived.Lib.BitFns
import Derived.Lib.TrailingZeros
import Derived.WalkKit
namespace Go.Proofs.YtodboccadccpfaaDoor

/-- an open day -/
def isO (b : UInt8) : Bool := b.toNat == 111
def isOX (b : UInt8) : Bool := b.toNat == 111 || b.toNat == 120
/-- the list is a forecast -/
def fcB (L : List UInt8) : Bool := L.all isOX && decide (L.length ≤ 30)
/-- open days ahead of a day -/
def opT (L : List UInt8) (d : Nat) : Nat := ((L.take d).filter isO).length
/-- the end of so many open days -/
def dyL : List UInt8 → Nat → Nat
  | _, 0 => 0
  | [], _ + 1 => 0
  | b :: l, w + 1 => 1 + dyL l (if isO b then w else w + 1)
/-- the set of open days -/
def bitsV : List UInt8 → Nat
  | [] => 0
  | b :: l => (if isO b then 1 else 0) + 2 * bitsV l

theorem opT_zero (L : List UInt8) : opT L 0 = 0 := by simp [opT]
theorem opT_nil (d : Nat) : opT [] d = 0 := by simp [opT]
theorem opT_cons (b : UInt8) (l : List UInt8) (d : Nat) : opT (b :: l) (d + 1) = (if isO b then 1 else 0) + opT l d := by
  unfold opT
  rw [List.take_succ_cons, List.filter_cons]
  split <;> simp; omega
theorem opT_le (L : List UInt8) (d : Nat) : opT L d ≤ d := by
  unfold opT
  have h1 := List.length_filter_le isO (L.take d)
  have h2 := List.length_take_le d L
  omega
theorem opT_all (L : List UInt8) : opT L L.length ≤ L.length := opT_le L _
theorem opT_succ (L : List UInt8) (d : Nat) (h : d < L.length) : opT L (d + 1) = opT L d + (if isO L[d] then 1 else 0) := by
  unfold opT
  rw [List.take_succ_eq_append_getElem h, List.filter_append, List.length_append]
  congr 1
  rw [List.filter_cons]
  split <;> simp
theorem opT_mono (L : List UInt8) {d e : Nat} (h : d ≤ e) : opT L d ≤ opT L e := by
  unfold opT
  have h1 : L.take d = (L.take e).take d := by rw [List.take_take, Nat.min_eq_left h]
  rw [h1]
  exact ((List.take_sublist d (L.take e)).filter isO).length_le

theorem dyL_zero (L : List UInt8) : dyL L 0 = 0 := by cases L <;> rfl
theorem dyL_cons (b : UInt8) (l : List UInt8) (w : Nat) : dyL (b :: l) (w + 1) = 1 + dyL l (if isO b then w else w + 1) := rfl
/-- fewer than so many open days lie ahead of a day just if the day is ahead of their end -/
theorem dyL_lt : ∀ (L : List UInt8) (w d : Nat), w ≤ opT L L.length → (opT L d < w ↔ d < dyL L w)
  | L, 0, d, _ => by rw [dyL_zero]; omega
  | [], w + 1, d, h => by simp [opT] at h
  | b :: l, w + 1, 0, h => by rw [opT_zero, dyL_cons]; omega
  | b :: l, w + 1, d + 1, h => by
    rw [List.length_cons, opT_cons] at h
    rw [opT_cons, dyL_cons]
    cases hb : isO b
    · rw [hb] at h
      have := dyL_lt l (w + 1) d (by simpa using h)
      simp only [Bool.false_eq_true, if_false]
      omega
    · rw [hb] at h
      have := dyL_lt l w d (by simp at h; omega)
      simp only [if_true]
      omega
theorem dyL_le : ∀ (L : List UInt8) (w : Nat), dyL L w ≤ L.length
  | L, 0 => by rw [dyL_zero]; omega
  | [], w + 1 => by simp [dyL]
  | b :: l, w + 1 => by rw [dyL_cons, List.length_cons]; have := dyL_le l (if isO b then w else w + 1); omega
theorem opT_dy (L : List UInt8) (w : Nat) (h : w ≤ opT L L.length) : opT L (dyL L w) = w := by
  have h1 := dyL_lt L w (dyL L w) h
  have h2 := dyL_lt L w (dyL L w - 1) h
  have hle := dyL_le L w
  rcases Nat.eq_zero_or_pos (dyL L w) with h0 | h0
  · rw [h0] at h1 ⊢
    rw [opT_zero] at h1 ⊢
    omega
  · have h3 := opT_succ L (dyL L w - 1) (by omega)
    rw [show dyL L w - 1 + 1 = dyL L w by omega] at h3
    have h4 : (if isO (L[dyL L w - 1]'(by omega)) = true then 1 else 0) ≤ 1 := by split <;> omega
    omega
/-- the last day of work is open -/
theorem dyL_open (L : List UInt8) (w : Nat) (h0 : 0 < w) (h : w ≤ opT L L.length) : ∃ hd : dyL L w - 1 < L.length, 0 < dyL L w ∧ isO (L[dyL L w - 1]'hd) = true := by
  have hle := dyL_le L w
  have hp : 0 < dyL L w := (dyL_lt L w 0 h).1 (by rw [opT_zero]; omega)
  refine ⟨by omega, hp, ?_⟩
  have h2 := (dyL_lt L w (dyL L w - 1) h).2 (by omega)
  have h3 := opT_succ L (dyL L w - 1) (by omega)
  rw [show dyL L w - 1 + 1 = dyL L w by omega, opT_dy L w h] at h3
  cases hb : isO (L[dyL L w - 1]'(by omega))
  · rw [hb] at h3; simp at h3; omega
  · rfl
theorem dyL_mono (L : List UInt8) {v w : Nat} (h : v < w) (hw : w ≤ opT L L.length) : dyL L v < dyL L w := by
  rw [← dyL_lt L w _ hw, opT_dy L v (by omega)]; exact h

/-! ### the bits -/
theorem bitsV_lt : ∀ L : List UInt8, bitsV L < 2 ^ L.length
  | [] => by simp [bitsV]
  | b :: l => by
    have := bitsV_lt l
    rw [bitsV, List.length_cons, Nat.pow_succ]
    split <;> omega
theorem bitsV_snoc : ∀ (L : List UInt8) (b : UInt8), bitsV (L ++ [b]) = bitsV L + (if isO b then 2 ^ L.length else 0)
  | [], b => by simp [bitsV]
  | a :: l, b => by
    rw [List.cons_append, bitsV, bitsV_snoc l b, bitsV, List.length_cons, Nat.pow_succ]
    split <;> split <;> omega
theorem bitsV_take : ∀ (L : List UInt8) (d : Nat), bitsV L % 2 ^ d = bitsV (L.take d)
  | L, 0 => by simp [bitsV, Nat.mod_one]
  | [], d + 1 => by simp [bitsV]
  | b :: l, d + 1 => by
    rw [List.take_succ_cons, bitsV, bitsV, ← bitsV_take l d, Nat.pow_succ, Nat.mul_comm (2 ^ d) 2]
    have h2 : 0 < 2 ^ d := Nat.two_pow_pos d
    split
    · rw [Nat.mod_mul, show (1 + 2 * bitsV l) % 2 = 1 by omega, show (1 + 2 * bitsV l) / 2 = bitsV l by omega]
    · rw [Nat.mod_mul, show (0 + 2 * bitsV l) % 2 = 0 by omega, show (0 + 2 * bitsV l) / 2 = bitsV l by omega]
theorem pop_bits : ∀ (L : List UInt8) (f : Nat), L.length ≤ f → Lib.popAux f (bitsV L) = opT L L.length
  | [], f, _ => by
    have : ∀ f, Lib.popAux f 0 = 0 := fun f => by induction f with
      | zero => rfl
      | succ n ih => simp [Lib.popAux, ih]
    simp [bitsV, opT, this]
  | b :: l, 0, h => by simp at h
  | b :: l, f + 1, h => by
    rw [List.length_cons, opT_cons, ← pop_bits l f (by simpa using h), bitsV, Lib.popAux]
    split
    · rw [show (1 + 2 * bitsV l) % 2 = 1 by omega, show (1 + 2 * bitsV l) / 2 = bitsV l by omega]
    · rw [show (0 + 2 * bitsV l) % 2 = 0 by omega, show (0 + 2 * bitsV l) / 2 = bitsV l by omega]
/-- the first k open days closed -/
def clrN : List UInt8 → Nat → List UInt8
  | l, 0 => l
  | [], _ + 1 => []
  | b :: l, k + 1 => if isO b then 120 :: clrN l k else b :: clrN l (k + 1)
theorem clrN_zero (L : List UInt8) : clrN L 0 = L := by cases L <;> rfl
theorem clrN_len : ∀ (L : List UInt8) (k : Nat), (clrN L k).length = L.length
  | l, 0 => by rw [clrN_zero]
  | [], _ + 1 => rfl
  | b :: l, k + 1 => by
    rw [clrN]
    split
    · rw [List.length_cons, clrN_len l k, List.length_cons]
    · rw [List.length_cons, clrN_len l (k + 1), List.length_cons]
theorem isO_x : isO 120 = false := by decide
/-- open days stand behind the first k -/
theorem clrN_pos : ∀ (L : List UInt8) (k : Nat), k < opT L L.length → 0 < bitsV (clrN L k)
  | [], k, h => by simp [opT] at h
  | b :: l, 0, h => by
    rw [clrN_zero, bitsV]
    rw [List.length_cons, opT_cons] at h
    split
    · omega
    · rename_i hb
      rw [if_neg hb] at h
      have := clrN_pos l 0 (by omega)
      rw [clrN_zero] at this
      omega
  | b :: l, k + 1, h => by
    rw [List.length_cons, opT_cons] at h
    rw [clrN]
    split
    · rename_i hb
      rw [if_pos hb] at h
      have := clrN_pos l k (by omega)
      rw [bitsV, isO_x]; simp; omega
    · rename_i hb
      rw [if_neg hb] at h
      have := clrN_pos l (k + 1) (by omega)
      rw [bitsV, if_neg hb]; omega
theorem ctzFrom_clr : ∀ (L : List UInt8) (k f : Nat), k < opT L L.length → L.length ≤ f → Lib.ctzFrom f (bitsV (clrN L k)) + 1 = dyL L (k + 1)
  | [], k, f, h, _ => by simp [opT] at h
  | b :: l, k, 0, _, h => by simp at h
  | b :: l, 0, f + 1, h, hf => by
    rw [clrN_zero, bitsV, dyL_cons, Lib.ctzFrom]
    rw [List.length_cons, opT_cons] at h
    cases hb : isO b
    · rw [hb] at h
      have := ctzFrom_clr l 0 f (by simpa using h) (by simpa using hf)
      rw [clrN_zero] at this
      simp only [Bool.false_eq_true, if_false]
      rw [if_neg (by omega), show (0 + 2 * bitsV l) / 2 = bitsV l by omega]
      omega
    · simp only [if_true]
      rw [if_pos (by omega), dyL_zero]
  | b :: l, k + 1, f + 1, h, hf => by
    rw [List.length_cons, opT_cons] at h
    rw [clrN, dyL_cons]
    cases hb : isO b
    · rw [hb] at h
      have := ctzFrom_clr l (k + 1) f (by simpa using h) (by simpa using hf)
      simp only [Bool.false_eq_true, if_false]
      rw [bitsV, hb, Lib.ctzFrom]
      simp only [Bool.false_eq_true, if_false]
      rw [if_neg (by omega), show (0 + 2 * bitsV (clrN l (k + 1))) / 2 = bitsV (clrN l (k + 1)) by omega]
      omega
    · rw [hb] at h
      have := ctzFrom_clr l k f (by simp at h; omega) (by simpa using hf)
      simp only [if_true]
      rw [bitsV, isO_x, Lib.ctzFrom]
      simp only [Bool.false_eq_true, if_false]
      rw [if_neg (by omega), show (0 + 2 * bitsV (clrN l k)) / 2 = bitsV (clrN l k) by omega]
      omega
theorem and_one_up (y : Nat) : (1 + 2 * y) &&& (1 + 2 * y - 1) = 2 * y := by
  apply Nat.eq_of_testBit_eq
  intro i
  rw [Nat.testBit_and]
  cases i with
  | zero => simp [Nat.testBit_zero]
  | succ j =>
    rw [Nat.testBit_succ, Nat.testBit_succ, Nat.testBit_succ, show (1 + 2 * y) / 2 = y by omega, show (1 + 2 * y - 1) / 2 = y by omega, show 2 * y / 2 = y by omega, Bool.and_self]
theorem and_two_up (y : Nat) (h : 0 < y) : (2 * y) &&& (2 * y - 1) = 2 * (y &&& (y - 1)) := by
  apply Nat.eq_of_testBit_eq
  intro i
  rw [Nat.testBit_and]
  cases i with
  | zero => simp [Nat.testBit_zero]
  | succ j =>
    rw [Nat.testBit_succ, Nat.testBit_succ, Nat.testBit_succ, show 2 * y / 2 = y by omega, show (2 * y - 1) / 2 = y - 1 by omega, show 2 * (y &&& (y - 1)) / 2 = y &&& (y - 1) by omega, Nat.testBit_and]
theorem clr_step : ∀ (L : List UInt8) (k : Nat), k < opT L L.length → bitsV (clrN L k) &&& (bitsV (clrN L k) - 1) = bitsV (clrN L (k + 1))
  | [], k, h => by simp [opT] at h
  | b :: l, 0, h => by
    rw [List.length_cons, opT_cons] at h
    rw [clrN_zero, clrN, bitsV]
    cases hb : isO b
    · rw [hb] at h
      have hp := clrN_pos l 0 (by simpa using h)
      have ih := clr_step l 0 (by simpa using h)
      rw [clrN_zero] at ih hp
      simp only [Bool.false_eq_true, if_false]
      rw [bitsV, hb, Nat.zero_add, and_two_up _ hp, ih]
      simp
    · simp only [if_true]
      rw [and_one_up, bitsV, isO_x, clrN_zero]
      simp
  | b :: l, k + 1, h => by
    rw [List.length_cons, opT_cons] at h
    rw [clrN, clrN]
    cases hb : isO b
    · rw [hb] at h
      have hp := clrN_pos l (k + 1) (by simpa using h)
      have ih := clr_step l (k + 1) (by simpa using h)
      simp only [Bool.false_eq_true, if_false]
      rw [bitsV, bitsV, hb]
      simp only [Bool.false_eq_true, if_false]
      rw [Nat.zero_add, Nat.zero_add, and_two_up _ hp, ih]
    · rw [hb] at h
      have hp := clrN_pos l k (by simp at h; omega)
      have ih := clr_step l k (by simp at h; omega)
      simp only [if_true]
      rw [bitsV, bitsV, isO_x]
      simp only [Bool.false_eq_true, if_false]
      rw [Nat.zero_add, Nat.zero_add, and_two_up _ hp, ih]


/-- so many days from one on are open -/
def winB (L : List UInt8) (n d : Nat) : Bool := decide (d + n ≤ L.length) && decide (opT L (d + n) = opT L d + n)
/-- the first such day -/
def winF (L : List UInt8) (n : Nat) : Option Nat := (List.range (L.length + 1)).find? (winB L n)
theorem opT_add_le (L : List UInt8) (d n : Nat) : opT L (d + n) ≤ opT L d + n := by
  unfold opT
  rw [List.take_add, List.filter_append, List.length_append]
  have h1 := List.length_filter_le isO ((L.drop d).take n)
  have h2 := List.length_take_le n (L.drop d)
  omega
theorem winB_zero (L : List UInt8) (d : Nat) (h : d ≤ L.length) : winB L 0 d = true := by simp [winB, h]
theorem winB_succ (L : List UInt8) (n d : Nat) : winB L (n + 1) d = (winB L n d && decide (d + n < L.length) && ((L[d + n]?).map isO).getD false) := by
  unfold winB
  by_cases h : d + n < L.length
  · have h1 := opT_succ L (d + n) h
    have h2 := opT_add_le L d n
    have e1 : decide (d + (n + 1) ≤ L.length) = true := decide_eq_true (by omega)
    have e2 : decide (d + n ≤ L.length) = true := decide_eq_true (by omega)
    rw [e1, e2, show d + (n + 1) = d + n + 1 by omega, h1, decide_eq_true h, List.getElem?_eq_getElem h]
    simp only [Option.map_some, Option.getD_some, Bool.true_and, Bool.and_true]
    cases isO L[d + n]
    · simp; omega
    · simp; omega
  · rw [decide_eq_false (p := d + (n + 1) ≤ L.length) (by omega), decide_eq_false h]
    simp
theorem winB_iff (L : List UInt8) (n d : Nat) : winB L n d = true ↔ d + n ≤ L.length ∧ ∀ k, d ≤ k → k < d + n → ((L[k]?).map isO).getD false = true := by
  induction n with
  | zero =>
    simp only [winB, Nat.add_zero, decide_true, Bool.and_true, decide_eq_true_eq]
    exact ⟨fun h => ⟨h, fun k h1 h2 => by omega⟩, fun h => h.1⟩
  | succ n ih =>
    rw [winB_succ, Bool.and_eq_true, Bool.and_eq_true, ih, decide_eq_true_eq]
    constructor
    · rintro ⟨⟨⟨h1, h2⟩, h3⟩, h4⟩
      refine ⟨by omega, fun k g1 g2 => ?_⟩
      rcases Nat.lt_or_ge k (d + n) with g | g
      · exact h2 k g1 g
      · obtain rfl : k = d + n := by omega
        exact h4
    · rintro ⟨h1, h2⟩
      exact ⟨⟨⟨by omega, fun k g1 g2 => h2 k g1 (by omega)⟩, by omega⟩, h2 _ (by omega) (by omega)⟩
theorem winF_some {L : List UInt8} {n d : Nat} (h : winF L n = some d) : winB L n d = true ∧ (∀ e, e < d → winB L n e = false) := by
  unfold winF at h
  rw [List.find?_range_eq_some] at h
  refine ⟨h.1, fun e he => ?_⟩
  have := h.2.2 e he
  simpa using this
theorem winF_none {L : List UInt8} {n : Nat} (h : winF L n = none) (d : Nat) : winB L n d = false := by
  unfold winF at h
  rw [List.find?_range_eq_none] at h
  rcases Nat.lt_or_ge d (L.length + 1) with h1 | h1
  · have := h d h1; simpa using this
  · unfold winB; rw [decide_eq_false (by omega)]; rfl
theorem winF_of {L : List UInt8} {n d : Nat} (h : winB L n d = true) (h2 : ∀ e, e < d → winB L n e = false) : winF L n = some d := by
  unfold winF
  rw [List.find?_range_eq_some]
  have := ((winB_iff L n d).1 h).1
  exact ⟨h, by simp; omega, fun j hj => by rw [h2 j hj]; rfl⟩
theorem winF_no {L : List UInt8} {n : Nat} (h : ∀ d, d + n ≤ L.length → winB L n d = false) : winF L n = none := by
  unfold winF
  rw [List.find?_range_eq_none]
  intro i _
  rcases Nat.lt_or_ge L.length (i + n) with h1 | h1
  · unfold winB; rw [decide_eq_false (by omega)]; rfl
  · rw [h i h1]; rfl
/-- a window of fewer days -/
theorem winB_less {L : List UInt8} {n m d : Nat} (h : winB L n d = true) (hm : m ≤ n) : winB L m d = true := by
  rw [winB_iff] at h ⊢
  exact ⟨by omega, fun k h1 h2 => h.2 k h1 (by omega)⟩

/-! ### the bits of the windows -/
theorem bitsV_test : ∀ (L : List UInt8) (i : Nat), (bitsV L).testBit i = ((L[i]?).map isO).getD false
  | [], i => by simp [bitsV]
  | b :: l, 0 => by
    rw [bitsV, Nat.testBit_zero]
    cases h : isO b <;> simp [h]
  | b :: l, i + 1 => by
    rw [bitsV, Nat.testBit_succ, List.getElem?_cons_succ, ← bitsV_test l i]
    congr 1
    split <;> omega
/-- the windows' days after so many rounds -/
def wnd (x : Nat) : Nat → Nat
  | 0 => x
  | k + 1 => wnd x k &&& (wnd x k) >>> 1
theorem wnd_test (L : List UInt8) : ∀ (k d : Nat), (wnd (bitsV L) k).testBit d = winB L (k + 1) d
  | 0, d => by
    rw [wnd, bitsV_test, Bool.eq_iff_iff, winB_iff]
    constructor
    · intro h
      have hd : d < L.length := by
        apply Nat.lt_of_not_le; intro hge
        rw [List.getElem?_eq_none hge] at h; simp at h
      exact ⟨by omega, fun k h1 h2 => by obtain rfl : k = d := by omega
                                         exact h⟩
    · rintro ⟨h1, h2⟩; exact h2 d (by omega) (by omega)
  | k + 1, d => by
    rw [wnd, Nat.testBit_and, Nat.testBit_shiftRight, wnd_test L k, wnd_test L k, Bool.eq_iff_iff, Bool.and_eq_true, winB_iff, winB_iff, winB_iff]
    constructor
    · rintro ⟨⟨h1, h2⟩, h3, h4⟩
      refine ⟨by omega, fun j g1 g2 => ?_⟩
      rcases Nat.lt_or_ge j (d + (k + 1)) with g | g
      · exact h2 j g1 g
      · exact h4 j (by omega) (by omega)
    · rintro ⟨h1, h2⟩
      exact ⟨⟨by omega, fun j g1 g2 => h2 j g1 (by omega)⟩, by omega, fun j g1 g2 => h2 j (by omega) (by omega)⟩
theorem wnd_le (x : Nat) : ∀ k, wnd x k ≤ x
  | 0 => Nat.le_refl _
  | k + 1 => Nat.le_trans Nat.and_le_left (wnd_le x k)
theorem pop_zero : ∀ (f x : Nat), x < 2 ^ f → (Lib.popAux f x = 0 ↔ x = 0)
  | 0, x, h => by simp [Lib.popAux]; omega
  | f + 1, x, h => by
    rw [Lib.popAux]
    have := pop_zero f (x / 2) (by rw [Nat.pow_succ] at h; omega)
    omega
theorem ctz_first {x f : Nat} (h0 : 0 < x) (h : x < 2 ^ f) : x.testBit (Lib.ctzFrom f x) = true ∧ ∀ i, i < Lib.ctzFrom f x → x.testBit i = false := by
  obtain ⟨m, hm, _⟩ := Lib.ctzFrom_spec f x h0 h
  generalize Lib.ctzFrom f x = k at hm
  subst hm
  refine ⟨?_, fun i hi => ?_⟩
  · rw [Nat.mul_comm, Nat.testBit_mul_two_pow]; simp
  · rw [Nat.mul_comm, Nat.testBit_mul_two_pow]; simp; omega
theorem win_none {L : List UInt8} {k f : Nat} (hx : wnd (bitsV L) k < 2 ^ f) (h : Lib.popAux f (wnd (bitsV L) k) = 0) : winF L (k + 1) = none := by
  rw [pop_zero f _ hx] at h
  refine winF_no fun d _ => ?_
  rw [← wnd_test, h]; simp
theorem win_some {L : List UInt8} {k f : Nat} (hx : wnd (bitsV L) k < 2 ^ f) (h : Lib.popAux f (wnd (bitsV L) k) ≠ 0) : 0 < wnd (bitsV L) k ∧ winF L (k + 1) = some (Lib.ctzFrom f (wnd (bitsV L) k)) := by
  have h0 : 0 < wnd (bitsV L) k := Nat.pos_of_ne_zero fun e => h ((pop_zero f _ hx).2 e)
  obtain ⟨h1, h2⟩ := ctz_first h0 hx
  refine ⟨h0, winF_of (by rw [← wnd_test]; exact h1) fun e he => by rw [← wnd_test]; exact h2 e he⟩

/-! ### the longest fair weather -/
/-- open days that follow each other, up to a day -/
def runT (L : List UInt8) : Nat → Nat
  | 0 => 0
  | d + 1 => if ((L[d]?).map isO).getD false then runT L d + 1 else 0
def mostT (L : List UInt8) : Nat → Nat
  | 0 => 0
  | d + 1 => max (mostT L d) (runT L (d + 1))
theorem runT_le (L : List UInt8) : ∀ d, runT L d ≤ d
  | 0 => Nat.le_refl _
  | d + 1 => by rw [runT]; have := runT_le L d; split <;> omega
theorem runT_most (L : List UInt8) : ∀ d, mostT L d ≤ d
  | 0 => Nat.le_refl _
  | d + 1 => by rw [mostT]; have := runT_most L d; have := runT_le L (d + 1); omega
theorem runT_win (L : List UInt8) : ∀ (d n : Nat), d ≤ L.length → n ≤ d → (n ≤ runT L d ↔ winB L n (d - n) = true)
  | 0, n, _, h => by
    obtain rfl : n = 0 := by omega
    rw [winB_zero L _ (by omega)]; simp
  | d + 1, 0, h, _ => by rw [winB_zero L _ (by omega)]; simp
  | d + 1, n + 1, h, hn => by
    have ih := runT_win L d n (by omega) (by omega)
    rw [runT, show d + 1 - (n + 1) = d - n by omega, winB_succ, show d - n + n = d by omega, decide_eq_true (show d < L.length by omega), Bool.and_true]
    cases hb : ((L[d]?).map isO).getD false
    · simp
    · simp only [if_true, Bool.and_true]
      rw [Nat.add_le_add_iff_right]
      exact ih
theorem mostT_win (L : List UInt8) (n : Nat) (hn : 0 < n) : ∀ d, d ≤ L.length → (n ≤ mostT L d ↔ ∃ e, e + n ≤ d ∧ winB L n e = true)
  | 0, _ => by simp [mostT]; omega
  | d + 1, h => by
    rw [mostT]
    have ih := mostT_win L n hn d (by omega)
    constructor
    · intro h1
      rcases Nat.lt_or_ge (mostT L d) n with h2 | h2
      · have h3 : n ≤ runT L (d + 1) := by omega
        have h4 := runT_le L (d + 1)
        exact ⟨d + 1 - n, by omega, (runT_win L (d + 1) n h (by omega)).1 h3⟩
      · obtain ⟨e, h3, h4⟩ := ih.1 h2
        exact ⟨e, by omega, h4⟩
    · rintro ⟨e, h1, h2⟩
      rcases Nat.lt_or_ge d (e + n) with h3 | h3
      · have := (runT_win L (d + 1) n h (by omega)).2 (by rw [show d + 1 - n = e by omega]; exact h2)
        omega
      · have := ih.2 ⟨e, h3, h2⟩
        omega
def lgT (L : List UInt8) : Nat := mostT L L.length
theorem lgT_win (L : List UInt8) (n : Nat) (hn : 0 < n) : n ≤ lgT L ↔ (winF L n).isSome = true := by
  unfold lgT
  rw [mostT_win L n hn _ (Nat.le_refl _)]
  cases h : winF L n with
  | none => simp; intro e _; rw [winF_none h]
  | some d => simp; exact ⟨d, ((winB_iff L n d).1 (winF_some h).1).1, (winF_some h).1⟩
theorem lgT_le (L : List UInt8) : lgT L ≤ L.length := runT_most L _
theorem lgT_op (L : List UInt8) : lgT L ≤ opT L L.length := by
  rcases Nat.eq_zero_or_pos (lgT L) with h | h
  · omega
  · have h1 := (lgT_win L (lgT L) h).1 (Nat.le_refl _)
    cases h2 : winF L (lgT L) with
    | none => rw [h2] at h1; cases h1
    | some d =>
      have h3 := (winF_some h2).1
      unfold winB at h3
      simp only [Bool.and_eq_true, decide_eq_true_eq] at h3
      have := opT_mono L h3.1
      omega

end Go.Proofs.YtodboccadccpfaaDoor
