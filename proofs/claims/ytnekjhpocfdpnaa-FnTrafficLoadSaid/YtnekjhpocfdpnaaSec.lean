/-
  Plain mathematics of sections and cables: nothing here speaks of the program.
-/
import Derived.Test.YtnekjhpocfdpnaaInB
import Derived.WalkKit
import Derived.Lib.Hide
namespace Go.Proofs.Ytnekjhpocfdpnaa

/-- a section -/
structure Sec where
  m : Int
  k : Int
  o : Int
deriving DecidableEq

theorem Sec.ext_ {a b : Sec} (h1 : a.m = b.m) (h2 : a.k = b.k) (h3 : a.o = b.o) : a = b := by
  cases a; cases b; simp_all

def Sec.zero : Sec := ⟨0, 0, 0⟩
def secAt (ss : List Sec) (k : Nat) : Sec := ss[k]?.getD Sec.zero
theorem secAt_lt {ss : List Sec} {k : Nat} (h : k < ss.length) : secAt ss k = ss[k] := by simp [secAt, h]

def secOk (s : Sec) : Bool := inB s.m 1 50 && inB s.k 0 3 && inB s.o 1 20
theorem secOk_true {s : Sec} : secOk s = true ↔ (1 ≤ s.m ∧ s.m ≤ 50) ∧ (0 ≤ s.k ∧ s.k ≤ 3) ∧ (1 ≤ s.o ∧ s.o ≤ 20) := by
  unfold secOk
  rw [Bool.and_eq_true, Bool.and_eq_true, inB_true, inB_true, inB_true, and_assoc]
/-- all sections are in range -/
def allOk (ss : List Sec) : Bool := ss.all secOk
theorem allOk_mem {ss : List Sec} : allOk ss = true ↔ ∀ s ∈ ss, secOk s = true := by unfold allOk; rw [List.all_eq_true]
theorem allOk_at {ss : List Sec} : allOk ss = true ↔ ∀ j, j < ss.length → secOk (secAt ss j) = true := by
  rw [allOk_mem]
  constructor
  · intro h j hj
    rw [secAt_lt hj]
    exact h _ (List.getElem_mem hj)
  · intro h s hs
    obtain ⟨j, hj, rfl⟩ := List.mem_iff_getElem.1 hs
    have := h j hj
    rwa [secAt_lt hj] at this
/-- A LIST IS A CABLE. -/
def cabB (ss : List Sec) : Bool := inB ss.length 1 8 && allOk ss
theorem cabB_true {ss : List Sec} : cabB ss = true ↔ (1 ≤ ss.length ∧ ss.length ≤ 8) ∧ ∀ s ∈ ss, secOk s = true := by
  unfold cabB
  rw [Bool.and_eq_true, inB_true, allOk_mem]
  constructor <;> rintro ⟨h1, h2⟩ <;> exact ⟨by omega, h2⟩
/-- the first k sections are in range -/
def okTo (ss : List Sec) (k : Nat) : Prop := ∀ j, j < k → secOk (secAt ss j) = true
theorem okTo_zero (ss : List Sec) : okTo ss 0 := fun j hj => absurd hj (by omega)
theorem okTo_succ {ss : List Sec} {k : Nat} (h : okTo ss k) (hk : secOk (secAt ss k) = true) : okTo ss (k + 1) := fun j hj => by
  rcases Nat.lt_or_ge j k with h1 | h1
  · exact h j h1
  · obtain rfl : j = k := by omega
    exact hk
theorem allOk_of_to {ss : List Sec} (h : okTo ss ss.length) : allOk ss = true := allOk_at.2 h
theorem allOk_not {ss : List Sec} {k : Nat} (hk : k < ss.length) (h : secOk (secAt ss k) = false) : allOk ss = false := by
  rw [Bool.eq_false_iff]
  intro h2
  have := allOk_at.1 h2 k hk
  rw [h] at this
  cases this

theorem take_snoc {α : Type} (xs : List α) {k : Nat} (h : k < xs.length) : xs.take (k + 1) = xs.take k ++ [xs[k]] := by
  rw [List.take_succ_eq_append_getElem h]
theorem split_at {α : Type} (xs : List α) {k : Nat} (h : k < xs.length) : xs = xs.take k ++ xs[k] :: xs.drop (k + 1) := by
  rw [List.getElem_cons_drop, List.take_append_drop]

/-! ### miles and ohms -/
def milesL (ss : List Sec) : Int := (ss.map (·.m)).sum
def ohmsL (ss : List Sec) : Int := (ss.map fun s => s.m * s.o).sum
theorem milesL_nil : milesL [] = 0 := rfl
theorem ohmsL_nil : ohmsL [] = 0 := rfl
theorem milesL_cons (s : Sec) (r : List Sec) : milesL (s :: r) = s.m + milesL r := by simp [milesL]
theorem ohmsL_cons (s : Sec) (r : List Sec) : ohmsL (s :: r) = s.m * s.o + ohmsL r := by simp [ohmsL]
theorem milesL_append (a b : List Sec) : milesL (a ++ b) = milesL a + milesL b := by
  induction a with
  | nil => simp [milesL_nil]
  | cons s r ih => rw [List.cons_append, milesL_cons, milesL_cons, ih]; omega
theorem ohmsL_append (a b : List Sec) : ohmsL (a ++ b) = ohmsL a + ohmsL b := by
  induction a with
  | nil => simp [ohmsL_nil]
  | cons s r ih => rw [List.cons_append, ohmsL_cons, ohmsL_cons, ih]; omega
theorem milesL_snoc (a : List Sec) (s : Sec) : milesL (a ++ [s]) = milesL a + s.m := by rw [milesL_append, milesL_cons, milesL_nil]; omega
theorem ohmsL_snoc (a : List Sec) (s : Sec) : ohmsL (a ++ [s]) = ohmsL a + s.m * s.o := by rw [ohmsL_append, ohmsL_cons, ohmsL_nil]; omega
/-- sections of 0 or more miles, bounded -/
def small (B : Int) (ss : List Sec) : Prop := ∀ s ∈ ss, 0 ≤ s.m ∧ s.m ≤ B ∧ 0 ≤ s.o ∧ s.o ≤ 20
theorem small_of_ok {ss : List Sec} (h : ∀ s ∈ ss, secOk s = true) : small 50 ss := fun s hs => by
  have := secOk_true.1 (h s hs)
  omega
theorem small.left {B : Int} {a b : List Sec} (h : small B (a ++ b)) : small B a := fun s hs => h s (by simp [hs])
theorem small.right {B : Int} {a b : List Sec} (h : small B (a ++ b)) : small B b := fun s hs => h s (by simp [hs])
theorem small.tail {B : Int} {s : Sec} {r : List Sec} (h : small B (s :: r)) : small B r := fun x hx => h x (by simp [hx])
theorem small.head {B : Int} {s : Sec} {r : List Sec} (h : small B (s :: r)) : 0 ≤ s.m ∧ s.m ≤ B ∧ 0 ≤ s.o ∧ s.o ≤ 20 := h s (by simp)
theorem prod_bd {a b A B : Int} (h1 : 0 ≤ a) (h2 : a ≤ A) (h3 : 0 ≤ b) (h4 : b ≤ B) : 0 ≤ a * b ∧ a * b ≤ A * B := by
  refine ⟨Int.mul_nonneg h1 h3, Int.mul_le_mul h2 h4 h3 (by omega)⟩
theorem milesL_bd {B : Int} {ss : List Sec} (h : small B ss) : 0 ≤ milesL ss ∧ milesL ss ≤ B * ss.length := by
  induction ss with
  | nil => simp [milesL_nil]
  | cons s r ih =>
    have h1 := ih h.tail
    have h2 := h.head
    rw [milesL_cons, List.length_cons, Int.natCast_add, Int.mul_add]
    omega
theorem ohmsL_bd {B : Int} {ss : List Sec} (h : small B ss) : 0 ≤ ohmsL ss ∧ ohmsL ss ≤ 20 * (B * ss.length) := by
  induction ss with
  | nil => simp [ohmsL_nil]
  | cons s r ih =>
    have h1 := ih h.tail
    have h2 := h.head
    have h3 := prod_bd h2.1 h2.2.1 h2.2.2.1 h2.2.2.2
    rw [ohmsL_cons, List.length_cons, Int.natCast_add, Int.mul_add, Int.mul_add]
    omega

/-! ### what lies between two miles -/
/-- what a section at a place gives -/
def pieceL (f t a : Int) (s : Sec) : List Sec := if 0 < min t (a + s.m) - max f a then [⟨min t (a + s.m) - max f a, s.k, s.o⟩] else []
def partFrom (f t a : Int) : List Sec → List Sec
  | [] => []
  | s :: r => pieceL f t a s ++ partFrom f t (a + s.m) r
def partL (ss : List Sec) (f t : Int) : List Sec := partFrom f t 0 ss
theorem partFrom_append (f t : Int) (xs ys : List Sec) : ∀ a, partFrom f t a (xs ++ ys) = partFrom f t a xs ++ partFrom f t (a + milesL xs) ys := by
  induction xs with
  | nil => intro a; simp [partFrom, milesL_nil]
  | cons s r ih =>
    intro a
    rw [List.cons_append, partFrom, partFrom, ih, milesL_cons, List.append_assoc, Int.add_assoc]
theorem partL_snoc (f t : Int) (xs : List Sec) (s : Sec) : partL (xs ++ [s]) f t = partL xs f t ++ pieceL f t (milesL xs) s := by
  unfold partL
  rw [partFrom_append, partFrom, partFrom, List.append_nil, Int.zero_add]
theorem partL_nil (f t : Int) : partL [] f t = [] := rfl
theorem pieceL_length (f t a : Int) (s : Sec) : (pieceL f t a s).length ≤ 1 := by unfold pieceL; split <;> simp
theorem partFrom_length (f t : Int) (xs : List Sec) : ∀ a, (partFrom f t a xs).length ≤ xs.length := by
  induction xs with
  | nil => intro a; simp [partFrom]
  | cons s r ih =>
    intro a
    have := ih (a + s.m)
    have := pieceL_length f t a s
    rw [partFrom, List.length_append, List.length_cons]
    omega
theorem partL_length (ss : List Sec) (f t : Int) : (partL ss f t).length ≤ ss.length := partFrom_length f t ss 0
theorem partFrom_small {B : Int} (f t : Int) (xs : List Sec) (h : small B xs) : ∀ a, small B (partFrom f t a xs) := by
  induction xs with
  | nil => intro a s hs; simp [partFrom] at hs
  | cons s r ih =>
    intro a x hx
    rw [partFrom, List.mem_append] at hx
    rcases hx with hx | hx
    · have h2 := h.head
      unfold pieceL at hx
      split at hx
      · simp only [List.mem_singleton] at hx
        subst hx
        dsimp only
        omega
      · simp at hx
    · exact ih h.tail _ x hx
theorem partL_small {B : Int} {xs : List Sec} (h : small B xs) (f t : Int) : small B (partL xs f t) := partFrom_small f t xs h 0

/-- ohms of the first miles, as the model counts them -/
def ohmsTo : List Sec → Int → Int
  | [], _ => 0
  | s :: r, x => min x s.m * s.o + ohmsTo r (x - min x s.m)
theorem ohmsTo_part (xs : List Sec) (t : Int) : ∀ a, 0 ≤ a → small 50 xs → ohmsL (partFrom 0 t a xs) = ohmsTo xs (max 0 (t - a)) := by
  induction xs with
  | nil => intro a _ _; rfl
  | cons s r ih =>
    intro a ha h
    have h2 := h.head
    rw [partFrom, ohmsL_append, ih (a + s.m) (by omega) h.tail, ohmsTo]
    have e1 : max 0 (t - a) - min (max 0 (t - a)) s.m = max 0 (t - (a + s.m)) := by omega
    rw [e1]
    congr 1
    unfold pieceL
    split
    · rw [ohmsL_cons, ohmsL_nil]
      dsimp only
      have : min t (a + s.m) - max 0 a = min (max 0 (t - a)) s.m := by omega
      rw [this]
      omega
    · have : min (max 0 (t - a)) s.m = 0 := by omega
      rw [this, ohmsL_nil]
      omega
theorem ohmsTo_eq {ss : List Sec} (h : small 50 ss) {x : Int} (hx : 0 ≤ x) : ohmsL (partL ss 0 x) = ohmsTo ss x := by
  unfold partL
  rw [ohmsTo_part ss x 0 (by omega) h]
  congr 1
  omega
theorem ohmsTo_all {ss : List Sec} (h : small 50 ss) : ohmsTo ss (milesL ss) = ohmsL ss := by
  induction ss with
  | nil => rfl
  | cons s r ih =>
    have h2 := h.head
    have h3 := milesL_bd h.tail
    rw [ohmsTo, milesL_cons, ohmsL_cons]
    have e1 : min (s.m + milesL r) s.m = s.m := by omega
    rw [e1, show s.m + milesL r - s.m = milesL r by omega, ih h.tail]
theorem ohmsTo_zero (ss : List Sec) (h : small 50 ss) : ohmsTo ss 0 = 0 := by
  induction ss with
  | nil => rfl
  | cons s r ih =>
    have h2 := h.head
    rw [ohmsTo]
    have e1 : min 0 s.m = 0 := by omega
    rw [e1, show (0 : Int) - 0 = 0 by omega, ih h.tail]
    omega
/-- the model's loop: what is added up behind k sections, and what is left of the mile -/
def restTo (ss : List Sec) (x : Int) : Int := max 0 (x - milesL ss)
theorem ohmsTo_append (xs ys : List Sec) (hx : small 50 xs) : ∀ x, 0 ≤ x → ohmsTo (xs ++ ys) x = ohmsTo xs x + ohmsTo ys (restTo xs x) := by
  induction xs with
  | nil =>
    intro x h
    have : restTo [] x = x := by unfold restTo; rw [milesL_nil]; omega
    rw [List.nil_append, this]
    simp [ohmsTo]
  | cons s r ih =>
    intro x h
    have h2 := hx.head
    have h3 := milesL_bd hx.tail
    rw [List.cons_append, ohmsTo, ohmsTo, ih hx.tail _ (by omega)]
    have : restTo r (x - min x s.m) = restTo (s :: r) x := by unfold restTo; rw [milesL_cons]; omega
    rw [this]
    omega
theorem ohmsTo_snoc {xs : List Sec} {s : Sec} (h : small 50 (xs ++ [s])) {x : Int} (hx : 0 ≤ x) : ohmsTo (xs ++ [s]) x = ohmsTo xs x + min (restTo xs x) s.m * s.o := by
  rw [ohmsTo_append xs [s] h.left x hx]
  simp [ohmsTo]
theorem restTo_snoc {xs : List Sec} {s : Sec} (h : small 50 (xs ++ [s])) (x : Int) : restTo (xs ++ [s]) x = restTo xs x - min (restTo xs x) s.m := by
  have h3 := milesL_bd h.left
  have h4 := h.right.head
  unfold restTo
  rw [milesL_snoc]
  omega
theorem restTo_nil {x : Int} (hx : 0 ≤ x) : restTo [] x = x := by unfold restTo; rw [milesL_nil]; omega
theorem ohmsTo_bd {ss : List Sec} (h : small 50 ss) : ∀ x, 0 ≤ x → 0 ≤ ohmsTo ss x ∧ ohmsTo ss x ≤ 1000 * ss.length := by
  induction ss with
  | nil => intro x _; simp [ohmsTo]
  | cons s r ih =>
    intro x hx
    have h2 := h.head
    have h1 := ih h.tail (x - min x s.m) (by omega)
    have h3 := prod_bd (a := min x s.m) (A := 50) (by omega) (by omega) h2.2.2.1 h2.2.2.2
    rw [ohmsTo, List.length_cons, Int.natCast_add, Int.mul_add]
    omega
/-- a mile more is more -/
theorem ohmsTo_step {ss : List Sec} (h : ∀ s ∈ ss, secOk s = true) : ∀ x, 0 ≤ x → x < milesL ss → ohmsTo ss x + 1 ≤ ohmsTo ss (x + 1) := by
  induction ss with
  | nil => intro x h1 h2; rw [milesL_nil] at h2; omega
  | cons s r ih =>
    intro x h1 h2
    have hs := secOk_true.1 (h s (by simp))
    rw [milesL_cons] at h2
    rw [ohmsTo, ohmsTo]
    by_cases hc : x < s.m
    · have e1 : min x s.m = x := by omega
      have e2 : min (x + 1) s.m = x + 1 := by omega
      rw [e1, e2, show x - x = 0 by omega, show x + 1 - (x + 1) = 0 by omega, Int.add_mul]
      omega
    · have e1 : min x s.m = s.m := by omega
      have e2 : min (x + 1) s.m = s.m := by omega
      have := ih (fun y hy => h y (by simp [hy])) (x - s.m) (by omega) (by omega)
      rw [e1, e2, show x + 1 - s.m = x - s.m + 1 by omega]
      omega

/-! ### which mile ohms tell -/
def whereL : List Sec → Int → Int × Int
  | [], x => (0, x)
  | s :: r, x => if x / s.o < s.m then (x / s.o, x - x / s.o * s.o) else (s.m + (whereL r (x - s.m * s.o)).1, (whereL r (x - s.m * s.o)).2)
theorem whereL_stop {s : Sec} {r : List Sec} {x : Int} (h : x / s.o < s.m) : whereL (s :: r) x = (x / s.o, x - x / s.o * s.o) := by rw [whereL, if_pos h]
theorem whereL_on {s : Sec} {r : List Sec} {x : Int} (h : ¬ x / s.o < s.m) : whereL (s :: r) x = (s.m + (whereL r (x - s.m * s.o)).1, (whereL r (x - s.m * s.o)).2) := by rw [whereL, if_neg h]
theorem div_bd {x o : Int} (hx : 0 ≤ x) (ho : 1 ≤ o) : 0 ≤ x / o ∧ x / o * o ≤ x ∧ x < (x / o + 1) * o := by
  have h1 := Int.ediv_nonneg hx (show 0 ≤ o by omega)
  have h2 := Int.ediv_mul_le x (show o ≠ 0 by omega)
  have h3 := Int.lt_ediv_add_one_mul_self x (show 0 < o by omega)
  exact ⟨h1, h2, h3⟩
theorem mul_le_of_div {x o m : Int} (ho : 1 ≤ o) (h : m ≤ x / o) : m * o ≤ x := by
  exact Int.mul_le_of_le_ediv (by omega) h
theorem whereL_facts {ss : List Sec} (h : ∀ s ∈ ss, secOk s = true) : ∀ x, 0 ≤ x →
    0 ≤ (whereL ss x).1 ∧ (whereL ss x).1 ≤ milesL ss ∧ 0 ≤ (whereL ss x).2 ∧ ohmsTo ss (whereL ss x).1 + (whereL ss x).2 = x ∧ ((whereL ss x).1 < milesL ss → x < ohmsTo ss ((whereL ss x).1 + 1)) := by
  induction ss with
  | nil =>
    intro x hx
    simp only [whereL, milesL_nil, ohmsTo]
    omega
  | cons s r ih =>
    intro x hx
    have hs := secOk_true.1 (h s (by simp))
    have hr : small 50 r := small_of_ok (fun y hy => h y (by simp [hy]))
    have hm := milesL_bd hr
    rw [milesL_cons]
    by_cases hc : x / s.o < s.m
    · rw [whereL_stop hc]
      have hd := div_bd hx hs.2.2.1
      dsimp only
      rw [ohmsTo, ohmsTo, show min (x / s.o) s.m = x / s.o by omega, show min (x / s.o + 1) s.m = x / s.o + 1 by omega,
        show x / s.o - x / s.o = 0 by omega, show x / s.o + 1 - (x / s.o + 1) = 0 by omega, ohmsTo_zero r hr]
      omega
    · rw [whereL_on hc]
      have hle := mul_le_of_div (x := x) hs.2.2.1 (by omega : s.m ≤ x / s.o)
      obtain ⟨i1, i2, i3, i4, i5⟩ := ih (fun y hy => h y (by simp [hy])) (x - s.m * s.o) (by omega)
      dsimp only
      generalize (whereL r (x - s.m * s.o)).1 = W at i1 i2 i4 i5 ⊢
      generalize (whereL r (x - s.m * s.o)).2 = R at i3 i4 ⊢
      rw [ohmsTo, ohmsTo, show min (s.m + W) s.m = s.m by omega, show min (s.m + W + 1) s.m = s.m by omega,
        show s.m + W - s.m = W by omega, show s.m + W + 1 - s.m = W + 1 by omega]
      refine ⟨by omega, by omega, i3, by omega, fun hw => ?_⟩
      have := i5 (by omega)
      omega
theorem ohmsTo_mono {ss : List Sec} (h : ∀ s ∈ ss, secOk s = true) (n : Nat) : ∀ x, 0 ≤ x → x + n ≤ milesL ss → ohmsTo ss x ≤ ohmsTo ss (x + n) := by
  induction n with
  | zero => intro x _ _; simp
  | succ n ih =>
    intro x h1 h2
    have := ih x h1 (by omega)
    have := ohmsTo_step h (x + n) (by omega) (by omega)
    rw [show x + ((n + 1 : Nat) : Int) = x + n + 1 by omega]
    omega
/-- the model's search goes on as long as it is ahead of the mile -/
theorem where_go {ss : List Sec} (h : ∀ s ∈ ss, secOk s = true) {x i : Int} (hx : 0 ≤ x) (hi : 0 ≤ i) (hlt : i < (whereL ss x).1) : i < milesL ss ∧ ohmsTo ss (i + 1) ≤ x := by
  obtain ⟨h1, h2, h3, h4, _⟩ := whereL_facts h x hx
  refine ⟨by omega, ?_⟩
  have := ohmsTo_mono h ((whereL ss x).1 - (i + 1)).toNat (i + 1) (by omega) (by omega)
  rw [show i + 1 + (((whereL ss x).1 - (i + 1)).toNat : Int) = (whereL ss x).1 by omega] at this
  omega

/-! ### the kind of a mile -/
def kindAt : List Sec → Int → Int
  | [], _ => -1
  | s :: r, x => if x < s.m then s.k else kindAt r (x - s.m)
theorem kindAt_here {s : Sec} {r : List Sec} {x : Int} (h : x < s.m) : kindAt (s :: r) x = s.k := by rw [kindAt, if_pos h]
theorem kindAt_on {s : Sec} {r : List Sec} {x : Int} (h : ¬ x < s.m) : kindAt (s :: r) x = kindAt r (x - s.m) := by rw [kindAt, if_neg h]
theorem kindAt_out {ss : List Sec} : ∀ x, milesL ss ≤ x → (∀ s ∈ ss, secOk s = true) → kindAt ss x = -1 := by
  induction ss with
  | nil => intro x _ _; rfl
  | cons s r ih =>
    intro x hx h
    have hr : small 50 r := small_of_ok (fun y hy => h y (by simp [hy]))
    have hm := milesL_bd hr
    rw [milesL_cons] at hx
    rw [kindAt_on (by omega)]
    exact ih _ (by omega) (fun y hy => h y (by simp [hy]))

/-! ### plain cables -/
def plainStep (out : List Sec) (s : Sec) : List Sec :=
  match out.getLast? with
  | some l => if l.k = s.k ∧ l.o = s.o then out.dropLast ++ [⟨l.m + s.m, l.k, l.o⟩] else out ++ [s]
  | none => [s]
def plainL (ss : List Sec) : List Sec := ss.foldl plainStep []
theorem plainStep_nil (s : Sec) : plainStep [] s = [s] := rfl
theorem plainStep_same (out : List Sec) {l s : Sec} (h1 : l.k = s.k) (h2 : l.o = s.o) : plainStep (out ++ [l]) s = out ++ [⟨l.m + s.m, l.k, l.o⟩] := by
  unfold plainStep
  simp [h1, h2]
theorem plainStep_other (out : List Sec) {l s : Sec} (h : ¬ (l.k = s.k ∧ l.o = s.o)) : plainStep (out ++ [l]) s = out ++ [l] ++ [s] := by
  unfold plainStep
  simp [h]
theorem plain_take (ss : List Sec) {k : Nat} (h : k < ss.length) : plainL (ss.take (k + 1)) = plainStep (plainL (ss.take k)) ss[k] := by
  unfold plainL
  rw [take_snoc ss h, List.foldl_append]
  rfl
theorem plainStep_length (out : List Sec) (s : Sec) : out.length ≤ (plainStep out s).length ∧ (plainStep out s).length ≤ out.length + 1 ∧ 1 ≤ (plainStep out s).length := by
  rcases List.eq_nil_or_concat out with rfl | ⟨xs, l, rfl⟩
  · simp [plainStep_nil]
  · rw [List.concat_eq_append]
    by_cases h : l.k = s.k ∧ l.o = s.o
    · rw [plainStep_same xs h.1 h.2]
      simp
    · rw [plainStep_other xs h]
      simp
theorem foldl_length (ss : List Sec) : ∀ out, out.length ≤ (ss.foldl plainStep out).length ∧ (ss.foldl plainStep out).length ≤ out.length + ss.length := by
  induction ss with
  | nil => intro out; simp
  | cons s r ih =>
    intro out
    have h1 := ih (plainStep out s)
    have h2 := plainStep_length out s
    rw [List.foldl_cons, List.length_cons]
    omega
theorem plainL_length (ss : List Sec) : (plainL ss).length ≤ ss.length := by
  have := (foldl_length ss []).2
  simpa [plainL] using this
theorem plainStep_small {B : Int} (hB : 0 ≤ B) {out : List Sec} {s : Sec} (h : small B out) (hs : small 50 [s]) : small (B + 50) (plainStep out s) := by
  have h1 := hs.head
  rcases List.eq_nil_or_concat out with rfl | ⟨xs, l, rfl⟩
  · rw [plainStep_nil]
    intro x hx
    simp only [List.mem_singleton] at hx
    subst hx
    omega
  · rw [List.concat_eq_append] at h ⊢
    have h2 := h.right.head
    by_cases hc : l.k = s.k ∧ l.o = s.o
    · rw [plainStep_same xs hc.1 hc.2]
      intro x hx
      rw [List.mem_append] at hx
      rcases hx with hx | hx
      · have := h.left x hx
        omega
      · simp only [List.mem_singleton] at hx
        subst hx
        dsimp only
        omega
    · rw [plainStep_other xs hc]
      intro x hx
      rw [List.mem_append] at hx
      rcases hx with hx | hx
      · have := h x hx
        omega
      · simp only [List.mem_singleton] at hx
        subst hx
        omega

end Go.Proofs.Ytnekjhpocfdpnaa
