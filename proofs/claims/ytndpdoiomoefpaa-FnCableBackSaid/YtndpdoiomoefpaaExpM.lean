/-
  A cable mile by mile: the kind and the ohms of each mile; a plain cable is told by its miles.
-/
import Derived.Test.YtndpdoiomoefpaaSec
namespace Go.Proofs.Ytndpdoiomoefpaa

/-- the miles of a section -/
def expS (s : Sec) : List (Int × Int) := List.replicate s.m.toNat (s.k, s.o)
/-- the miles of a cable -/
def expL (ss : List Sec) : List (Int × Int) := ss.flatMap expS
theorem expL_nil : expL [] = [] := rfl
theorem expL_cons (s : Sec) (r : List Sec) : expL (s :: r) = expS s ++ expL r := by simp [expL]
theorem expL_append (a b : List Sec) : expL (a ++ b) = expL a ++ expL b := by simp [expL]
theorem expL_one (s : Sec) : expL [s] = expS s := by simp [expL]
theorem expL_reverse (ss : List Sec) : expL ss.reverse = (expL ss).reverse := by
  induction ss with
  | nil => rfl
  | cons s r ih => rw [List.reverse_cons, expL_append, ih, expL_one, expL_cons, List.reverse_append]; unfold expS; rw [List.reverse_replicate]
/-- no section has less than no miles -/
def NonN (ss : List Sec) : Prop := ∀ s ∈ ss, 0 ≤ s.m
theorem NonN.head {s : Sec} {r : List Sec} (h : NonN (s :: r)) : 0 ≤ s.m := h s (by simp)
theorem NonN.tail {s : Sec} {r : List Sec} (h : NonN (s :: r)) : NonN r := fun x hx => h x (by simp [hx])
theorem nonN_ok {ss : List Sec} (h : ∀ s ∈ ss, secOk s = true) : NonN ss := fun s hs => by
  have := secOk_true.1 (h s hs)
  omega
theorem exp_length {ss : List Sec} (h : NonN ss) : ((expL ss).length : Int) = milesL ss := by
  induction ss with
  | nil => rfl
  | cons s r ih =>
    have := ih h.tail
    have := h.head
    rw [expL_cons, milesL_cons, List.length_append]
    unfold expS
    rw [List.length_replicate]
    omega

/-- the ohms of miles -/
def sumO (l : List (Int × Int)) : Int := (l.map fun p => p.2).sum
theorem sumO_nil : sumO [] = 0 := rfl
theorem sumO_append (a b : List (Int × Int)) : sumO (a ++ b) = sumO a + sumO b := by simp [sumO, List.sum_append]
theorem sumO_cons (p : Int × Int) (b : List (Int × Int)) : sumO (p :: b) = p.2 + sumO b := by simp [sumO]
theorem sumO_rep (k o : Int) : ∀ n : Nat, sumO (List.replicate n (k, o)) = (n : Int) * o
  | 0 => by simp [sumO]
  | n + 1 => by rw [List.replicate_succ, sumO_cons, sumO_rep k o n, Int.natCast_add, Int.add_mul]; simp; omega
theorem exp_ohms {ss : List Sec} (h : NonN ss) : sumO (expL ss) = ohmsL ss := by
  induction ss with
  | nil => rfl
  | cons s r ih =>
    rw [expL_cons, sumO_append, ih h.tail, ohmsL_cons]
    unfold expS
    rw [sumO_rep, Int.toNat_of_nonneg h.head]

/-! ### what lies between two miles -/
theorem exp_piece (f t a : Int) {s : Sec} (h : 0 ≤ s.m) : expL (pieceL f t a s) = ((expS s).take (t - a).toNat).drop (f - a).toNat := by
  unfold pieceL expS
  rw [List.take_replicate, List.drop_replicate]
  split
  · rw [expL_one]
    unfold expS
    dsimp only
    congr 1
    omega
  · rw [expL_nil]
    have : min (t - a).toNat s.m.toNat - (f - a).toNat = 0 := by omega
    rw [this]
    rfl
theorem exp_part (f t : Int) {ss : List Sec} (h : NonN ss) : ∀ a, expL (partFrom f t a ss) = ((expL ss).take (t - a).toNat).drop (f - a).toNat := by
  induction ss with
  | nil => intro a; simp [partFrom, expL_nil]
  | cons s r ih =>
    intro a
    have hm := h.head
    have hl : (expS s).length = s.m.toNat := by unfold expS; simp
    rw [partFrom, expL_append, exp_piece f t a hm, ih h.tail, expL_cons, List.take_append, List.drop_append, hl, List.length_take, hl]
    congr 1
    rcases Nat.lt_or_ge (t - a).toNat s.m.toNat with h1 | h1
    · rw [show (t - (a + s.m)).toNat = 0 by omega, show (t - a).toNat - s.m.toNat = 0 by omega]
      simp
    · rw [show (t - a).toNat - s.m.toNat = (t - (a + s.m)).toNat by omega, show (f - a).toNat - min (t - a).toNat s.m.toNat = (f - (a + s.m)).toNat by omega]
theorem exp_partL (f t : Int) {ss : List Sec} (h : NonN ss) : expL (partL ss f t) = ((expL ss).take t.toNat).drop f.toNat := by
  unfold partL
  rw [exp_part f t h 0, Int.sub_zero, Int.sub_zero]
theorem part_nonN (f t : Int) (ss : List Sec) : ∀ a, NonN (partFrom f t a ss) := by
  induction ss with
  | nil => intro a s hs; cases hs
  | cons s r ih =>
    intro a x hx
    rw [partFrom, List.mem_append] at hx
    rcases hx with hx | hx
    · unfold pieceL at hx
      split at hx
      · simp only [List.mem_singleton] at hx
        subst hx
        dsimp only
        omega
      · cases hx
    · exact ih _ x hx
theorem partL_nonN (f t : Int) (ss : List Sec) : NonN (partL ss f t) := part_nonN f t ss 0
/-- each part of a good section is good -/
theorem part_ok {ss : List Sec} (h : ∀ s ∈ ss, secOk s = true) (f t : Int) : ∀ a, ∀ s ∈ partFrom f t a ss, secOk s = true := by
  induction ss with
  | nil => intro a s hs; cases hs
  | cons s r ih =>
    intro a x hx
    rw [partFrom, List.mem_append] at hx
    rcases hx with hx | hx
    · have hs := secOk_true.1 (h s (by simp))
      unfold pieceL at hx
      split at hx
      · simp only [List.mem_singleton] at hx
        subst hx
        rw [secOk_true]
        dsimp only
        omega
      · cases hx
    · exact ih (fun y hy => h y (by simp [hy])) _ x hx
theorem exp_pos {ss : List Sec} (h : ∀ s ∈ ss, secOk s = true) (hn : 1 ≤ ss.length) : 1 ≤ milesL ss := by
  cases ss with
  | nil => simp at hn
  | cons s r =>
    have h1 := secOk_true.1 (h s (by simp))
    have h2 := (milesL_bd (small_of_ok (fun y hy => h y (by simp [hy] : y ∈ s :: r)) : small 50 r)).1
    rw [milesL_cons]
    omega
theorem part_cab {ss : List Sec} (h : cabB ss = true) {f t : Int} (h0 : 0 ≤ f) (h1 : f < t) (h2 : t ≤ milesL ss) : cabB (partL ss f t) = true ∧ milesL (partL ss f t) = t - f := by
  obtain ⟨hl, hok⟩ := cabB_true.1 h
  have hn := nonN_ok hok
  have e := exp_partL f t hn
  have l1 := exp_length hn
  have l2 := exp_length (partL_nonN f t ss)
  have l3 : (expL (partL ss f t)).length = t.toNat - f.toNat := by rw [e, List.length_drop, List.length_take]; omega
  refine ⟨cabB_true.2 ⟨⟨?_, by have := partL_length ss f t; omega⟩, part_ok hok f t 0⟩, by omega⟩
  cases hp : partL ss f t with
  | nil => rw [hp, expL_nil] at l3; simp at l3; omega
  | cons => simp
theorem exp_two (ss : List Sec) (hn : NonN ss) {x : Int} : expL (partL ss 0 x ++ partL ss x (milesL ss)) = expL ss := by
  have l1 := exp_length hn
  rw [expL_append, exp_partL _ _ hn, exp_partL _ _ hn, show (0 : Int).toNat = 0 from rfl, List.drop_zero, show (milesL ss).toNat = (expL ss).length by omega, List.take_length, List.take_append_drop]

/-! ### kinds and ohms of a mile -/
theorem exp_kind {ss : List Sec} (h : NonN ss) : ∀ x, 0 ≤ x → kindAt ss x = (((expL ss)[x.toNat]?).map fun p => p.1).getD (-1) := by
  induction ss with
  | nil => intro x _; rfl
  | cons s r ih =>
    intro x hx
    have hm := h.head
    have hl : (expS s).length = s.m.toNat := by unfold expS; simp
    rw [expL_cons]
    by_cases hc : x < s.m
    · rw [kindAt_here hc, List.getElem?_append_left (by omega)]
      unfold expS
      rw [List.getElem?_replicate, if_pos (by omega)]
      rfl
    · rw [kindAt_on hc, ih h.tail _ (by omega), List.getElem?_append_right (by omega), hl, show x.toNat - s.m.toNat = (x - s.m).toNat by omega]
theorem exp_ohmsTo {ss : List Sec} (h : ∀ s ∈ ss, secOk s = true) {x : Int} (hx : 0 ≤ x) : ohmsTo ss x = sumO ((expL ss).take x.toNat) := by
  rw [← ohmsTo_eq (small_of_ok h) hx, ← exp_ohms (partL_nonN 0 x ss), exp_partL _ _ (nonN_ok h), show (0 : Int).toNat = 0 from rfl, List.drop_zero]
theorem exp_mem {ss : List Sec} (h : ∀ s ∈ ss, secOk s = true) : ∀ p ∈ expL ss, (0 ≤ p.1 ∧ p.1 ≤ 3) ∧ 1 ≤ p.2 ∧ p.2 ≤ 20 := by
  intro p hp
  unfold expL at hp
  rw [List.mem_flatMap] at hp
  obtain ⟨s, hs, hp⟩ := hp
  have := secOk_true.1 (h s hs)
  unfold expS at hp
  rw [List.mem_replicate] at hp
  rw [hp.2]
  dsimp only
  omega
theorem sum_bd {l : List (Int × Int)} (h : ∀ p ∈ l, (0 ≤ p.1 ∧ p.1 ≤ 3) ∧ 1 ≤ p.2 ∧ p.2 ≤ 20) : (l.length : Int) ≤ sumO l ∧ sumO l ≤ 20 * (l.length : Int) := by
  induction l with
  | nil => simp [sumO]
  | cons a r ih =>
    have h1 := h a (by simp)
    have h2 := ih fun p hp => h p (by simp [hp])
    rw [sumO_cons, List.length_cons]
    omega

/-! ### plain cables -/
/-- neighbours differ -/
def difs (ss : List Sec) : Prop := ∀ i, i + 1 < ss.length → ¬ ((secAt ss i).k = (secAt ss (i + 1)).k ∧ (secAt ss i).o = (secAt ss (i + 1)).o)
theorem secAt_left {a b : List Sec} {i : Nat} (h : i < a.length) : secAt (a ++ b) i = secAt a i := by unfold secAt; rw [List.getElem?_append_left h]
theorem secAt_last (a : List Sec) (s : Sec) : secAt (a ++ [s]) a.length = s := by unfold secAt; simp
theorem difs_snoc {xs : List Sec} {l s : Sec} (h : difs (xs ++ [l])) (hn : ¬ (l.k = s.k ∧ l.o = s.o)) : difs (xs ++ [l] ++ [s]) := by
  intro i hi
  simp only [List.length_append, List.length_singleton] at hi
  rcases Nat.lt_or_ge (i + 1) (xs ++ [l]).length with h1 | h1
  · rw [secAt_left (a := xs ++ [l]) (by omega), secAt_left h1]
    exact h i h1
  · simp only [List.length_append, List.length_singleton] at h1
    obtain rfl : i = xs.length := by omega
    have e1 : secAt (xs ++ [l] ++ [s]) xs.length = l := by rw [secAt_left (by simp), secAt_last]
    have e2 : secAt (xs ++ [l] ++ [s]) (xs.length + 1) = s := by
      have := secAt_last (xs ++ [l]) s
      rwa [List.length_append, List.length_singleton] at this
    rw [e1, e2]
    exact hn
theorem difs_more {xs : List Sec} {l : Sec} (z : Int) (h : difs (xs ++ [l])) : difs (xs ++ [⟨z, l.k, l.o⟩]) := by
  intro i hi
  simp only [List.length_append, List.length_singleton] at hi
  have := h i (by simp; omega)
  rcases Nat.lt_or_ge (i + 1) xs.length with h1 | h1
  · rw [secAt_left (by omega), secAt_left h1] at this ⊢
    exact this
  · have e : i + 1 = xs.length := by omega
    rw [secAt_left (by omega), e, secAt_last] at this ⊢
    exact this
theorem difs_step {out : List Sec} {s : Sec} (h : difs out) (hp : ∀ x ∈ out, 1 ≤ x.m) (hs : 1 ≤ s.m) : difs (plainStep out s) ∧ (∀ x ∈ plainStep out s, 1 ≤ x.m) ∧ expL (plainStep out s) = expL out ++ expS s := by
  rcases List.eq_nil_or_concat out with rfl | ⟨xs, l, rfl⟩
  · rw [plainStep_nil]
    exact ⟨fun i hi => by simp at hi, by simpa using hs, by rw [expL_one, expL_nil, List.nil_append]⟩
  · rw [List.concat_eq_append] at h hp ⊢
    have hl := hp l (by simp)
    by_cases hc : l.k = s.k ∧ l.o = s.o
    · rw [plainStep_same xs hc.1 hc.2]
      refine ⟨difs_more _ h, fun x hx => ?_, ?_⟩
      · rw [List.mem_append] at hx
        rcases hx with hx | hx
        · exact hp x (by simp [hx])
        · simp only [List.mem_singleton] at hx
          subst hx
          dsimp only
          omega
      · rw [expL_append, expL_append, expL_one, expL_one, List.append_assoc]
        congr 1
        unfold expS
        dsimp only
        rw [hc.1, hc.2, Int.toNat_add (by omega) (by omega), List.replicate_append_replicate]
    · rw [plainStep_other xs hc]
      refine ⟨difs_snoc h hc, fun x hx => ?_, by rw [expL_append, expL_one]⟩
      rw [List.mem_append] at hx
      rcases hx with hx | hx
      · exact hp x hx
      · simp only [List.mem_singleton] at hx
        subst hx
        exact hs
theorem difs_fold (ss : List Sec) (hs : ∀ s ∈ ss, 1 ≤ s.m) : ∀ out, difs out → (∀ x ∈ out, 1 ≤ x.m) → difs (ss.foldl plainStep out) ∧ (∀ x ∈ ss.foldl plainStep out, 1 ≤ x.m) ∧ expL (ss.foldl plainStep out) = expL out ++ expL ss := by
  induction ss with
  | nil => intro out h1 h2; exact ⟨h1, h2, by rw [List.foldl_nil, expL_nil, List.append_nil]⟩
  | cons s r ih =>
    intro out h1 h2
    obtain ⟨a, b, c⟩ := difs_step h1 h2 (hs s (by simp))
    obtain ⟨d, e, f⟩ := ih (fun x hx => hs x (by simp [hx])) _ a b
    rw [List.foldl_cons]
    exact ⟨d, e, by rw [f, c, expL_cons, List.append_assoc]⟩
theorem plain_factsE {ss : List Sec} (hs : ∀ s ∈ ss, 1 ≤ s.m) : difs (plainL ss) ∧ (∀ x ∈ plainL ss, 1 ≤ x.m) ∧ expL (plainL ss) = expL ss := by
  have := difs_fold ss hs [] (fun i hi => by simp at hi) (fun x hx => by cases hx)
  rwa [expL_nil, List.nil_append] at this
theorem expL_head {s : Sec} {r : List Sec} (h : 1 ≤ s.m) : (expL (s :: r))[0]? = some (s.k, s.o) := by
  rw [expL_cons, List.getElem?_append_left (by unfold expS; simp; omega)]
  unfold expS
  rw [List.getElem?_replicate, if_pos (by omega)]
theorem no_more {s t : Sec} {r q : List Sec} (hr : ∀ x ∈ r, 1 ≤ x.m) (hs : 1 ≤ s.m) (hd : difs (s :: r)) (hk : s.k = t.k) (ho : s.o = t.o) (he : expL (s :: r) = expL (t :: q)) : ¬ s.m < t.m := by
  intro hlt
  have e1 : expS t = expS s ++ List.replicate (t.m.toNat - s.m.toNat) (s.k, s.o) := by
    unfold expS
    rw [← hk, ← ho, List.replicate_append_replicate]
    congr 1
    omega
  rw [expL_cons, expL_cons, e1, List.append_assoc] at he
  have he := List.append_cancel_left he
  cases r with
  | nil =>
    have := congrArg List.length he
    rw [expL_nil, List.length_append, List.length_replicate, List.length_nil] at this
    omega
  | cons x r =>
    have h0 := expL_head (s := x) (r := r) (hr x (by simp))
    rw [he, List.getElem?_append_left (by rw [List.length_replicate]; omega), List.getElem?_replicate, if_pos (by omega)] at h0
    have := hd 0 (by simp)
    injection h0 with h0
    injection h0 with h1 h2
    exact this ⟨h1, h2⟩
theorem difs_tail {s : Sec} {r : List Sec} (h : difs (s :: r)) : difs r := fun i hi => by
  have := h (i + 1) (by simp; omega)
  exact this
theorem plain_uniq : ∀ a b : List Sec, (∀ x ∈ a, 1 ≤ x.m) → (∀ x ∈ b, 1 ≤ x.m) → difs a → difs b → expL a = expL b → a = b
  | [], [], _, _, _, _, _ => rfl
  | [], t :: q, _, hb, _, _, he => by
    have := expL_head (r := q) (hb t (by simp))
    rw [← he] at this
    cases this
  | s :: r, [], ha, _, _, _, he => by
    have := expL_head (r := r) (ha s (by simp))
    rw [he] at this
    cases this
  | s :: r, t :: q, ha, hb, hda, hdb, he => by
    have h0 := expL_head (r := r) (ha s (by simp))
    rw [he, expL_head (r := q) (hb t (by simp))] at h0
    injection h0 with h0
    injection h0 with hk ho
    have hm : s.m = t.m := by
      have h1 := no_more (t := t) (q := q) (fun x hx => ha x (by simp [hx])) (ha s (by simp)) hda hk.symm ho.symm he
      have h2 := no_more (t := s) (q := r) (fun x hx => hb x (by simp [hx])) (hb t (by simp)) hdb hk ho he.symm
      omega
    have hst : s = t := Sec.ext_ hm hk.symm ho.symm
    subst hst
    rw [expL_cons, expL_cons] at he
    rw [plain_uniq r q (fun x hx => ha x (by simp [hx])) (fun x hx => hb x (by simp [hx])) (difs_tail hda) (difs_tail hdb) (List.append_cancel_left he)]
theorem one_ok {ss : List Sec} (h : ∀ s ∈ ss, secOk s = true) : ∀ s ∈ ss, 1 ≤ s.m := fun s hs => (secOk_true.1 (h s hs)).1.1
/-- cables of the same miles have the same plain cable -/
theorem plain_same {a b : List Sec} (ha : ∀ x ∈ a, 1 ≤ x.m) (hb : ∀ x ∈ b, 1 ≤ x.m) (h : expL a = expL b) : plainL a = plainL b := by
  obtain ⟨a1, a2, a3⟩ := plain_factsE ha
  obtain ⟨b1, b2, b3⟩ := plain_factsE hb
  exact plain_uniq _ _ a2 b2 a1 b1 (by rw [a3, b3, h])
theorem plain_plain {ss : List Sec} (h : ∀ x ∈ ss, 1 ≤ x.m) : plainL (plainL ss) = plainL ss := by
  obtain ⟨a1, a2, a3⟩ := plain_factsE h
  exact plain_same a2 h a3
theorem difs_reverse {ss : List Sec} (h : difs ss) : difs ss.reverse := by
  intro i hi
  rw [List.length_reverse] at hi
  have e : ∀ j, j < ss.length → secAt ss.reverse j = secAt ss (ss.length - 1 - j) := fun j hj => by unfold secAt; rw [List.getElem?_reverse hj]
  rw [e i (by omega), e (i + 1) hi]
  have := h (ss.length - 1 - (i + 1)) (by omega)
  rw [show ss.length - 1 - (i + 1) + 1 = ss.length - 1 - i by omega] at this
  exact fun hh => this ⟨hh.1.symm, hh.2.symm⟩
theorem plain_reverse {ss : List Sec} (h : ∀ x ∈ ss, 1 ≤ x.m) : plainL ss.reverse = (plainL ss).reverse := by
  have h' : ∀ x ∈ ss.reverse, 1 ≤ x.m := fun x hx => h x (List.mem_reverse.1 hx)
  obtain ⟨a1, a2, a3⟩ := plain_factsE h
  obtain ⟨b1, b2, b3⟩ := plain_factsE h'
  exact plain_uniq _ _ b2 (fun x hx => a2 x (List.mem_reverse.1 hx)) b1 (difs_reverse a1) (by rw [b3, expL_reverse, expL_reverse, a3])

/-! ### a spliced cable is cut where it was spliced -/
theorem part_all (xs : List Sec) (hx : ∀ s ∈ xs, 1 ≤ s.m) (f t : Int) : ∀ a, f ≤ a → a + milesL xs ≤ t → partFrom f t a xs = xs := by
  induction xs with
  | nil => intro a _ _; rfl
  | cons s r ih =>
    intro a h1 h2
    have hs := hx s (by simp)
    have hr : 0 ≤ milesL r := by
      have : NonN r := fun y hy => by have := hx y (by simp [hy]); omega
      have := exp_length this
      omega
    rw [milesL_cons] at h2
    rw [partFrom, ih (fun y hy => hx y (by simp [hy])) _ (by omega) (by omega)]
    unfold pieceL
    rw [if_pos (by omega), show min t (a + s.m) - max f a = s.m by omega]
    rfl
theorem part_none (xs : List Sec) (hx : ∀ s ∈ xs, 1 ≤ s.m) (f t : Int) : ∀ a, (t ≤ a ∨ a + milesL xs ≤ f) → partFrom f t a xs = [] := by
  induction xs with
  | nil => intro a _; rfl
  | cons s r ih =>
    intro a h
    have hs := hx s (by simp)
    have hr : 0 ≤ milesL r := by
      have : NonN r := fun y hy => by have := hx y (by simp [hy]); omega
      have := exp_length this
      omega
    rw [milesL_cons] at h
    rw [partFrom, ih (fun y hy => hx y (by simp [hy])) _ (by omega)]
    unfold pieceL
    rw [if_neg (by omega)]
    rfl
theorem cut_splice {xs ys : List Sec} (hx : ∀ s ∈ xs, 1 ≤ s.m) (hy : ∀ s ∈ ys, 1 ≤ s.m) : partL (xs ++ ys) 0 (milesL xs) = xs ∧ partL (xs ++ ys) (milesL xs) (milesL (xs ++ ys)) = ys := by
  have h1 : 0 ≤ milesL xs := by
    have : NonN xs := fun y hy => by have := hx y hy; omega
    have := exp_length this
    omega
  unfold partL
  rw [partFrom_append, partFrom_append, Int.zero_add, milesL_append]
  rw [part_all xs hx 0 _ 0 (by omega) (by omega), part_none ys hy 0 _ _ (.inl (by omega)), part_none xs hx _ _ 0 (.inr (by omega)), part_all ys hy _ _ _ (by omega) (by omega)]
  simp
end Go.Proofs.Ytndpdoiomoefpaa
