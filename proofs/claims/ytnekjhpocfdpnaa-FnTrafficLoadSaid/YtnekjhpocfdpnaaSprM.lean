/-
  Mathematics of spares: rows of indexes, the first of the least ones, joints, sorted spares. Nothing here speaks of the program.
-/
import Derived.Test.YtnekjhpocfdpnaaMemZ
namespace Go.Proofs.Ytnekjhpocfdpnaa

/-- the rows that follow a row by one index more, of the first n ones -/
def ext (f : List Int → Int → Bool) (n : Nat) (r : List Int) : List (List Int) := ((List.range n).filter (fun (i : Nat) => f r (i : Int))).map (fun (i : Nat) => r ++ [(i : Int)])
theorem ext_zero (f : List Int → Int → Bool) (r : List Int) : ext f 0 r = [] := rfl
theorem ext_succ (f : List Int → Int → Bool) (n : Nat) (r : List Int) : ext f (n + 1) r = ext f n r ++ (if f r (n : Int) then [r ++ [(n : Int)]] else []) := by
  unfold ext
  rw [List.range_succ, List.filter_append, List.map_append]
  by_cases h : f r (n : Int) = true <;> simp [h]
theorem ext_mem {f : List Int → Int → Bool} {n : Nat} {r x : List Int} : x ∈ ext f n r ↔ ∃ i : Nat, i < n ∧ f r (i : Int) = true ∧ x = r ++ [(i : Int)] := by
  unfold ext
  simp only [List.mem_map, List.mem_filter, List.mem_range]
  constructor
  · rintro ⟨i, ⟨h1, h2⟩, rfl⟩; exact ⟨i, h1, h2, rfl⟩
  · rintro ⟨i, h1, h2, rfl⟩; exact ⟨i, ⟨h1, h2⟩, rfl⟩
/-- all rows of so many indexes -/
def rows (f : List Int → Int → Bool) (n : Nat) : Nat → List (List Int)
  | 0 => [[]]
  | k + 1 => (rows f n k).flatMap (ext f n)
/-- all rows of so many indexes more behind one -/
def fromR (f : List Int → Int → Bool) (n : Nat) : Nat → List Int → List (List Int)
  | 0, r => [r]
  | k + 1, r => (ext f n r).flatMap (fromR f n k)
theorem fromR_snoc (f : List Int → Int → Bool) (n : Nat) : ∀ (k : Nat) (r : List Int), (fromR f n k r).flatMap (ext f n) = fromR f n (k + 1) r
  | 0, r => by
    show [r].flatMap (ext f n) = (ext f n r).flatMap (fun x => [x])
    rw [List.flatMap_cons, List.flatMap_nil, List.append_nil]
    induction ext f n r with
    | nil => rfl
    | cons a t ih => rw [List.flatMap_cons, ← ih]; rfl
  | k + 1, r => by
    show ((ext f n r).flatMap (fromR f n k)).flatMap (ext f n) = (ext f n r).flatMap (fromR f n (k + 1))
    rw [List.flatMap_assoc]
    exact congrArg (fun g => (ext f n r).flatMap g) (funext fun x => fromR_snoc f n k x)
theorem rows_from (f : List Int → Int → Bool) (n : Nat) : ∀ k, rows f n k = fromR f n k []
  | 0 => rfl
  | k + 1 => by rw [rows, rows_from f n k, fromR_snoc]
theorem fromR_len {f : List Int → Int → Bool} {n : Nat} : ∀ {k : Nat} {r x : List Int}, x ∈ fromR f n k r → x.length = r.length + k
  | 0, r, x, h => by simp [fromR] at h; simp [h]
  | k + 1, r, x, h => by
    rw [fromR, List.mem_flatMap] at h
    obtain ⟨y, hy, hx⟩ := h
    obtain ⟨i, _, _, rfl⟩ := ext_mem.1 hy
    have := fromR_len hx
    simp at this; omega
theorem rows_len {f : List Int → Int → Bool} {n k : Nat} {x : List Int} (h : x ∈ rows f n k) : x.length = k := by
  rw [rows_from] at h
  have := fromR_len h
  simpa using this
theorem rows_bd {f : List Int → Int → Bool} {n : Nat} : ∀ {k : Nat} {x : List Int}, x ∈ rows f n k → ∀ i ∈ x, 0 ≤ i ∧ i < (n : Int)
  | 0, x, h => by simp [rows] at h; simp [h]
  | k + 1, x, h => by
    rw [rows, List.mem_flatMap] at h
    obtain ⟨y, hy, hx⟩ := h
    obtain ⟨i, hi, _, rfl⟩ := ext_mem.1 hx
    intro j hj
    rcases List.mem_append.1 hj with h1 | h1
    · exact rows_bd hy j h1
    · simp at h1; omega

/-- of two, the lesser one, the first one of equals -/
def mrg {α : Type} (c : α → Int) : Option α → Option α → Option α
  | none, b => b
  | some x, none => some x
  | some x, some y => if c y < c x then some y else some x
/-- the first one with the least cost -/
def bst {α : Type} (c : α → Int) : List α → Option α
  | [] => none
  | x :: t => mrg c (some x) (bst c t)
theorem mrg_none {α : Type} (c : α → Int) (a : Option α) : mrg c a none = a := by cases a <;> rfl
theorem mrg_assoc {α : Type} (c : α → Int) (a b d : Option α) : mrg c (mrg c a b) d = mrg c a (mrg c b d) := by
  cases a with
  | none => rfl
  | some x =>
    cases b with
    | none => rfl
    | some y =>
      cases d with
      | none => rw [mrg_none, mrg_none]
      | some z =>
        simp only [mrg]
        by_cases h1 : c y < c x <;> by_cases h2 : c z < c y <;> simp only [h1, h2, if_true, if_false]
        · rw [if_pos (by omega)]
        · rw [if_neg (by omega)]
theorem bst_append {α : Type} (c : α → Int) (a b : List α) : bst c (a ++ b) = mrg c (bst c a) (bst c b) := by
  induction a with
  | nil => rfl
  | cons x t ih => rw [List.cons_append, bst, ih, bst, mrg_assoc]
theorem bst_snoc {α : Type} (c : α → Int) (a : List α) (x : α) : bst c (a ++ [x]) = mrg c (bst c a) (some x) := bst_append c a [x]
theorem bst_nil {α : Type} {c : α → Int} {l : List α} (h : bst c l = none) : l = [] := by
  cases l with
  | nil => rfl
  | cons x t => unfold bst at h; cases hb : bst c t <;> rw [hb] at h <;> simp only [mrg] at h <;> (try split at h) <;> simp at h
theorem bst_split {α : Type} {c : α → Int} {l : List α} {x : α} (h : bst c l = some x) : ∃ a b, l = a ++ x :: b ∧ (∀ y ∈ a, c x < c y) ∧ ∀ y ∈ b, c x ≤ c y := by
  induction l generalizing x with
  | nil => simp [bst] at h
  | cons z t ih =>
    unfold bst at h
    cases hb : bst c t with
    | none => rw [hb, mrg_none] at h; injection h with h; subst h; rw [bst_nil hb]; exact ⟨[], [], rfl, by simp, by simp⟩
    | some y =>
      rw [hb] at h
      obtain ⟨a, b, e, h1, h2⟩ := ih hb
      simp only [mrg] at h
      by_cases hc : c y < c z
      · rw [if_pos hc] at h; injection h with h; subst h
        refine ⟨z :: a, b, by rw [e]; rfl, ?_, h2⟩
        intro u hu
        rcases List.mem_cons.1 hu with rfl | hu
        · exact hc
        · exact h1 u hu
      · rw [if_neg hc] at h; injection h with h; subst h
        refine ⟨[], t, rfl, by simp, ?_⟩
        intro u hu
        rw [e] at hu
        rcases List.mem_append.1 hu with hu | hu
        · have := h1 u hu; omega
        · rcases List.mem_cons.1 hu with rfl | hu
          · omega
          · have := h2 u hu; omega
theorem bst_mem {α : Type} {c : α → Int} {l : List α} {x : α} (h : bst c l = some x) : x ∈ l := by
  obtain ⟨a, b, e, _⟩ := bst_split h
  rw [e]; simp
theorem bst_le {α : Type} {c : α → Int} {l : List α} {x : α} (h : bst c l = some x) : ∀ y ∈ l, c x ≤ c y := by
  obtain ⟨a, b, e, h1, h2⟩ := bst_split h
  intro y hy
  rw [e] at hy
  rcases List.mem_append.1 hy with hu | hu
  · have := h1 y hu; omega
  · rcases List.mem_cons.1 hu with rfl | hu
    · omega
    · exact h2 y hu
theorem bst_some {α : Type} {c : α → Int} {l : List α} (h : l ≠ []) : ∃ x, bst c l = some x := by
  cases hb : bst c l with
  | none => exact absurd (bst_nil hb) h
  | some x => exact ⟨x, rfl⟩
theorem bst_congr {α : Type} {c d : α → Int} {l : List α} (h : ∀ x ∈ l, ∀ y ∈ l, (c y < c x ↔ d y < d x)) : bst c l = bst d l := by
  induction l with
  | nil => rfl
  | cons x t ih =>
    have ih' := ih (fun a ha b hb => h a (List.mem_cons_of_mem _ ha) b (List.mem_cons_of_mem _ hb))
    unfold bst
    rw [ih']
    cases hb : bst d t with
    | none => rfl
    | some y =>
      have hm : y ∈ t := bst_mem hb
      have h1 := h x (by simp) y (by simp [hm])
      simp only [mrg]
      by_cases hc : c y < c x
      · rw [if_pos hc, if_pos (h1.1 hc)]
      · rw [if_neg hc, if_neg (fun q => hc (h1.2 q))]

/-! ## Spares -/
def sprOk (s : Spr) : Bool := (decide (1 ≤ s.m) && decide (s.m ≤ 50)) && (decide (0 ≤ s.k) && decide (s.k ≤ 3))
theorem sprOk_true {s : Spr} : sprOk s = true ↔ (1 ≤ s.m ∧ s.m ≤ 50) ∧ 0 ≤ s.k ∧ s.k ≤ 3 := by simp [sprOk]
def sprB (n : Nat) (L : List Spr) : Bool := decide (L.length ≤ n) && L.all sprOk
theorem sprB_true {n : Nat} {L : List Spr} : sprB n L = true ↔ L.length ≤ n ∧ ∀ s ∈ L, sprOk s = true := by simp [sprB]
theorem sprAt_mem {L : List Spr} {k : Nat} (h : k < L.length) : sprAt L k ∈ L := by rw [sprAt_lt h]; exact List.getElem_mem h
theorem sprB_at {n : Nat} {L : List Spr} (h : sprB n L = true) {k : Nat} (hk : k < L.length) : (1 ≤ (sprAt L k).m ∧ (sprAt L k).m ≤ 50) ∧ 0 ≤ (sprAt L k).k ∧ (sprAt L k).k ≤ 3 :=
  sprOk_true.1 ((sprB_true.1 h).2 _ (sprAt_mem hk))
def milesZ : List Spr → Int
  | [] => 0
  | s :: r => s.m + milesZ r
theorem milesZ_append (a b : List Spr) : milesZ (a ++ b) = milesZ a + milesZ b := by
  induction a with
  | nil => simp [milesZ]
  | cons x t ih => rw [List.cons_append, milesZ, milesZ, ih]; omega
theorem milesZ_perm {a b : List Spr} (h : a.Perm b) : milesZ a = milesZ b := by
  induction h with
  | nil => rfl
  | cons x _ ih => rw [milesZ, milesZ, ih]
  | swap x y t => simp only [milesZ]; omega
  | trans _ _ ih1 ih2 => exact ih1.trans ih2
def ofKind (kind : Int) (s : Spr) : Bool := decide (s.k = kind)
def kindZ (L : List Spr) (kind : Int) : Int := milesZ (L.filter (ofKind kind))
/-- the sum of miles of the spares with some indexes -/
def sumZ (L : List Spr) : List Int → Int
  | [] => 0
  | i :: r => (sprAt L i.toNat).m + sumZ L r
theorem sumZ_append (L : List Spr) (a b : List Int) : sumZ L (a ++ b) = sumZ L a + sumZ L b := by
  induction a with
  | nil => simp [sumZ]
  | cons x t ih => rw [List.cons_append, sumZ, sumZ, ih]; omega
theorem sumZ_snoc (L : List Spr) (a : List Int) (i : Int) : sumZ L (a ++ [i]) = sumZ L a + (sprAt L i.toNat).m := by rw [sumZ_append]; simp [sumZ]
def atsZ (L : List Spr) (x : List Int) : List Spr := x.map (fun i => sprAt L i.toNat)
theorem sumZ_ats (L : List Spr) (x : List Int) : sumZ L x = milesZ (atsZ L x) := by
  induction x with
  | nil => rfl
  | cons i t ih => rw [sumZ, ih]; rfl
theorem sumZ_bd {n : Nat} {L : List Spr} (h : sprB n L = true) (x : List Int) (hx : ∀ i ∈ x, 0 ≤ i ∧ i < (L.length : Int)) : 0 ≤ sumZ L x ∧ sumZ L x ≤ 50 * x.length := by
  induction x with
  | nil => simp [sumZ]
  | cons i t ih =>
    have h1 := ih (fun j hj => hx j (List.mem_cons_of_mem _ hj))
    have h2 := hx i (by simp)
    have h3 := sprB_at h (k := i.toNat) (by omega)
    rw [sumZ, List.length_cons]; omega

/-! ## Joints -/
def lastI (r : List Int) : Int := r[r.length - 1]?.getD 0
/-- the index ascends and is of the kind -/
def jf (L : List Spr) (kind : Int) (r : List Int) (i : Int) : Bool := (decide (r.length = 0) || decide (lastI r < i)) && ofKind kind (sprAt L i.toNat)
/-- ascending, of the first n -/
def ascP (n : Nat) (x : List Int) : Prop := x.Pairwise (· < ·) ∧ ∀ i ∈ x, 0 ≤ i ∧ i < (n : Int)
def allK (L : List Spr) (kind : Int) (x : List Int) : Prop := ∀ i ∈ x, ofKind kind (sprAt L i.toNat) = true
theorem lastI_snoc (r : List Int) (i : Int) : lastI (r ++ [i]) = i := by simp [lastI]
theorem asc_snoc {n : Nat} {r : List Int} {i : Int} : ascP n (r ++ [i]) ↔ ascP n r ∧ (0 ≤ i ∧ i < (n : Int)) ∧ (r.length = 0 ∨ lastI r < i) := by
  unfold ascP
  rw [List.pairwise_append]
  constructor
  · rintro ⟨⟨h1, _, h3⟩, h4⟩
    refine ⟨⟨h1, fun j hj => h4 j (by simp [hj])⟩, h4 i (by simp), ?_⟩
    rcases List.eq_nil_or_concat r with rfl | ⟨r', j, rfl⟩
    · exact .inl rfl
    · right
      rw [List.concat_eq_append, lastI_snoc]
      exact h3 j (by simp) i (by simp)
  · rintro ⟨⟨h1, h2⟩, h3, h4⟩
    refine ⟨⟨h1, by simp, ?_⟩, ?_⟩
    · intro a ha b hb
      simp at hb; subst hb
      rcases List.eq_nil_or_concat r with rfl | ⟨r', j, rfl⟩
      · simp at ha
      · rw [List.concat_eq_append] at *
        rw [lastI_snoc] at h4
        have h5 : j < b := by rcases h4 with h4 | h4; simp at h4; exact h4
        rw [List.pairwise_append] at h1
        rcases List.mem_append.1 ha with h6 | h6
        · have := h1.2.2 a h6 j (by simp); omega
        · simp at h6; omega
    · intro a ha
      rcases List.mem_append.1 ha with h6 | h6
      · exact h2 a h6
      · simp at h6; subst h6; exact h3
theorem jrows_mem {L : List Spr} {kind : Int} {n : Nat} : ∀ {k : Nat} {x : List Int}, x ∈ rows (jf L kind) n k ↔ x.length = k ∧ ascP n x ∧ allK L kind x
  | 0, x => by
    simp only [rows, List.mem_singleton]
    constructor
    · rintro rfl; exact ⟨rfl, ⟨by simp, by simp⟩, by simp [allK]⟩
    · rintro ⟨h, _⟩; exact List.eq_nil_of_length_eq_zero h
  | k + 1, x => by
    rw [rows, List.mem_flatMap]
    constructor
    · rintro ⟨r, hr, hx⟩
      obtain ⟨i, hi, hf, rfl⟩ := ext_mem.1 hx
      obtain ⟨h1, h2, h3⟩ := jrows_mem.1 hr
      simp only [jf, Bool.and_eq_true, Bool.or_eq_true, decide_eq_true_eq] at hf
      refine ⟨by simp [h1], asc_snoc.2 ⟨h2, by omega, hf.1⟩, ?_⟩
      intro j hj
      rcases List.mem_append.1 hj with h6 | h6
      · exact h3 j h6
      · simp at h6; subst h6; exact hf.2
    · rintro ⟨h1, h2, h3⟩
      rcases List.eq_nil_or_concat x with rfl | ⟨r, i, rfl⟩
      · simp at h1
      · rw [List.concat_eq_append] at *
        obtain ⟨h4, h5, h6⟩ := asc_snoc.1 h2
        refine ⟨r, jrows_mem.2 ⟨by simpa using h1, h4, fun j hj => h3 j (by simp [hj])⟩, ?_⟩
        refine ext_mem.2 ⟨i.toNat, by omega, ?_, by rw [Int.toNat_of_nonneg h5.1]⟩
        rw [Int.toNat_of_nonneg h5.1]
        simp only [jf, Bool.and_eq_true, Bool.or_eq_true, decide_eq_true_eq]
        exact ⟨h6, h3 i (by simp)⟩

/-- at the first place at which two rows differ the first one is less -/
def lexB : List Int → List Int → Bool
  | x :: a, y :: b => if x = y then lexB a b else decide (x < y)
  | _, _ => false
theorem lexB_irrefl (a : List Int) : lexB a a = false := by
  induction a with
  | nil => rfl
  | cons x t ih => simp [lexB, ih]
theorem lexB_right {a b : List Int} (h : lexB a b = true) (c d : List Int) : lexB (a ++ c) (b ++ d) = true := by
  induction a generalizing b with
  | nil => simp [lexB] at h
  | cons x t ih =>
    cases b with
    | nil => simp [lexB] at h
    | cons y u =>
      rw [List.cons_append, List.cons_append]
      unfold lexB at h ⊢
      by_cases e : x = y
      · rw [if_pos e] at h ⊢; exact ih h
      · rw [if_neg e] at h ⊢; exact h
theorem lexB_left (r : List Int) (a b : List Int) : lexB (r ++ a) (r ++ b) = lexB a b := by
  induction r with
  | nil => rfl
  | cons x t ih => rw [List.cons_append, List.cons_append, lexB, if_pos rfl, ih]
theorem lexB_asymm {a b : List Int} (h : lexB a b = true) : lexB b a = false := by
  induction a generalizing b with
  | nil => simp [lexB] at h
  | cons x t ih =>
    cases b with
    | nil => rfl
    | cons y u =>
      unfold lexB at h ⊢
      by_cases e : x = y
      · rw [if_pos e] at h; rw [if_pos e.symm]; exact ih h
      · rw [if_neg e] at h; rw [if_neg (Ne.symm e)]; simp at h ⊢; omega
theorem lexB_trans {a b c : List Int} (h : lexB a b = true) (g : lexB b c = true) : lexB a c = true := by
  induction a generalizing b c with
  | nil => simp [lexB] at h
  | cons x t ih =>
    cases b with
    | nil => simp [lexB] at h
    | cons y u =>
      cases c with
      | nil => simp [lexB] at g
      | cons z v =>
        unfold lexB at h g ⊢
        by_cases e : x = y
        · by_cases e2 : y = z
          · rw [if_pos e] at h; rw [if_pos e2] at g; rw [if_pos (e.trans e2)]; exact ih h g
          · rw [if_neg e2] at g; rw [if_neg (e ▸ e2)]; simp at g ⊢; omega
        · by_cases e2 : y = z
          · rw [if_neg e] at h; rw [if_neg (e2 ▸ e)]; simp at h ⊢; omega
          · rw [if_neg e] at h; rw [if_neg e2] at g; simp at h g; rw [if_neg (by omega)]; simp; omega
theorem lexB_total {a b : List Int} (hl : a.length = b.length) (h : lexB a b = false) (g : lexB b a = false) : a = b := by
  induction a generalizing b with
  | nil => cases b with
    | nil => rfl
    | cons y u => simp at hl
  | cons x t ih =>
    cases b with
    | nil => simp at hl
    | cons y u =>
      unfold lexB at h g
      by_cases e : x = y
      · rw [if_pos e] at h; rw [if_pos e.symm] at g; rw [e, ih (by simpa using hl) h g]
      · rw [if_neg e] at h; rw [if_neg (Ne.symm e)] at g; simp at h g; omega
theorem rows_lex (f : List Int → Int → Bool) (n : Nat) : ∀ k, (rows f n k).Pairwise (fun a b => lexB a b = true)
  | 0 => by simp [rows]
  | k + 1 => by
    rw [rows, List.pairwise_flatMap]
    refine ⟨fun r _ => ?_, ?_⟩
    · unfold ext
      rw [List.pairwise_map]
      refine (List.pairwise_lt_range.filter _).imp ?_
      intro i j hij
      rw [lexB_left]
      unfold lexB
      rw [if_neg (by omega)]
      simp; omega
    · refine (rows_lex f n k).imp ?_
      intro a b hab x hx y hy
      obtain ⟨i, _, _, rfl⟩ := ext_mem.1 hx
      obtain ⟨j, _, _, rfl⟩ := ext_mem.1 hy
      exact lexB_right hab _ _

/-- fewer spares, fewer miles, lesser indexes -/
def ahead (L : List Spr) (a b : List Int) : Bool := if a.length = b.length then (if sumZ L a = sumZ L b then lexB a b else decide (sumZ L a < sumZ L b)) else decide (a.length < b.length)
theorem ahead_asymm {L : List Spr} {a b : List Int} (h : ahead L a b = true) : ahead L b a = false := by
  unfold ahead at *
  by_cases h1 : a.length = b.length
  · rw [if_pos h1] at h; rw [if_pos h1.symm]
    by_cases h2 : sumZ L a = sumZ L b
    · rw [if_pos h2] at h; rw [if_pos h2.symm]; exact lexB_asymm h
    · rw [if_neg h2] at h; rw [if_neg (Ne.symm h2)]; simp at h ⊢; omega
  · rw [if_neg h1] at h; rw [if_neg (Ne.symm h1)]; simp at h ⊢; omega
theorem ahead_trans {L : List Spr} {a b c : List Int} (h : ahead L a b = true) (g : ahead L b c = true) : ahead L a c = true := by
  unfold ahead at *
  by_cases h1 : a.length = b.length <;> by_cases h2 : b.length = c.length
  · rw [if_pos h1] at h; rw [if_pos h2] at g; rw [if_pos (h1.trans h2)]
    by_cases h3 : sumZ L a = sumZ L b <;> by_cases h4 : sumZ L b = sumZ L c
    · rw [if_pos h3] at h; rw [if_pos h4] at g; rw [if_pos (h3.trans h4)]; exact lexB_trans h g
    · rw [if_neg h4] at g; rw [if_neg (by omega)]; simp at g ⊢; omega
    · rw [if_neg h3] at h; rw [if_neg (by omega)]; simp at h ⊢; omega
    · rw [if_neg h3] at h; rw [if_neg h4] at g; simp at h g; rw [if_neg (by omega)]; simp; omega
  · rw [if_neg h2] at g; rw [if_neg (by omega)]; simp at g ⊢; omega
  · rw [if_neg h1] at h; rw [if_neg (by omega)]; simp at h ⊢; omega
  · rw [if_neg h1] at h; rw [if_neg h2] at g; simp at h g; rw [if_neg (by omega)]; simp; omega
theorem ahead_total {L : List Spr} {a b : List Int} (h : ahead L a b = false) (g : ahead L b a = false) : a = b := by
  unfold ahead at *
  by_cases h1 : a.length = b.length
  · rw [if_pos h1] at h; rw [if_pos h1.symm] at g
    by_cases h2 : sumZ L a = sumZ L b
    · rw [if_pos h2] at h; rw [if_pos h2.symm] at g; exact lexB_total h1 h g
    · rw [if_neg h2] at h; rw [if_neg (Ne.symm h2)] at g; simp at h g; omega
  · rw [if_neg h1] at h; rw [if_neg (Ne.symm h1)] at g; simp at h g; omega

/-- a joint that is long enough -/
def joinP (L : List Spr) (kind miles : Int) (x : List Int) : Prop := ascP L.length x ∧ allK L kind x ∧ miles ≤ sumZ L x
/-- the one that comes ahead of all others -/
def bestP (L : List Spr) (kind miles : Int) (x : List Int) : Prop := joinP L kind miles x ∧ ∀ y, joinP L kind miles y → ahead L y x = false
theorem bestP_one {L : List Spr} {kind miles : Int} {x y : List Int} (h : bestP L kind miles x) (g : bestP L kind miles y) : x = y := ahead_total (g.2 x h.1) (h.2 y g.1)
/-- what the program keeps of the rows of as few as can be is the best one -/
theorem bst_best {L : List Spr} {kind miles : Int} {k : Nat} {x : List Int} (hk : ∀ y, joinP L kind miles y → k ≤ y.length) (h : bst (sumZ L) ((rows (jf L kind) L.length k).filter (fun y => decide (miles ≤ sumZ L y))) = some x) : bestP L kind miles x ∧ x.length = k := by
  obtain ⟨a, b, e, h1, h2⟩ := bst_split h
  have hm := bst_mem h
  simp only [List.mem_filter, decide_eq_true_eq] at hm
  obtain ⟨g1, g2, g3⟩ := jrows_mem.1 hm.1
  refine ⟨⟨⟨g2, g3, hm.2⟩, ?_⟩, g1⟩
  intro y hy
  have hky := hk y hy
  unfold ahead
  by_cases hl : y.length = x.length
  · rw [if_pos hl]
    have hmem : y ∈ (rows (jf L kind) L.length k).filter (fun y => decide (miles ≤ sumZ L y)) := by
      simp only [List.mem_filter, decide_eq_true_eq]
      exact ⟨jrows_mem.2 ⟨by omega, hy.1, hy.2.1⟩, hy.2.2⟩
    have hp := (rows_lex (jf L kind) L.length k).filter (fun y => decide (miles ≤ sumZ L y))
    rw [e] at hmem hp
    rcases List.mem_append.1 hmem with h6 | h6
    · have := h1 y h6
      rw [if_neg (by omega)]; simp; omega
    · rcases List.mem_cons.1 h6 with rfl | h6
      · rw [if_pos rfl]; exact lexB_irrefl _
      · have h7 := h2 y h6
        by_cases h8 : sumZ L y = sumZ L x
        · rw [if_pos h8]
          rw [List.pairwise_append] at hp
          exact lexB_asymm ((List.pairwise_cons.1 hp.2.1).1 y h6)
        · rw [if_neg h8]; simp; omega
  · rw [if_neg hl]; simp; omega

/-! ## Sorted spares -/
def leS (a b : Spr) : Bool := decide (a.k < b.k) || (decide (a.k = b.k) && decide (b.m ≤ a.m))
theorem leS_true {a b : Spr} : leS a b = true ↔ a.k < b.k ∨ (a.k = b.k ∧ b.m ≤ a.m) := by simp [leS]
def sortZ (L : List Spr) : List Spr := L.mergeSort leS
theorem sortZ_perm (L : List Spr) : (sortZ L).Perm L := List.mergeSort_perm L leS
theorem sortZ_pw (L : List Spr) : (sortZ L).Pairwise (fun a b => leS a b = true) := by
  refine List.pairwise_mergeSort ?_ ?_ L
  · intro a b c h1 h2
    rw [leS_true] at *; omega
  · intro a b
    rw [Bool.or_eq_true, leS_true, leS_true]; omega
theorem sortZ_one {L S : List Spr} (hp : S.Perm L) (hs : S.Pairwise (fun a b => leS a b = true)) : S = sortZ L := by
  refine List.Perm.eq_of_pairwise (le := fun a b => leS a b = true) ?_ hs (sortZ_pw L) (hp.trans (sortZ_perm L).symm)
  intro a b _ _ h1 h2
  rw [leS_true] at h1 h2
  exact Spr.ext_ (by omega) (by omega)
theorem sortZ_length (L : List Spr) : (sortZ L).length = L.length := (sortZ_perm L).length_eq
theorem sortZ_ok {n : Nat} {L : List Spr} (h : sprB n L = true) : sprB n (sortZ L) = true := by
  rw [sprB_true] at *
  exact ⟨by rw [sortZ_length]; exact h.1, fun s hs => h.2 s ((sortZ_perm L).mem_iff.1 hs)⟩

/-- spares are counted from the first one on until the miles are there -/
def grG (kind : Int) : Int → Int → List Spr → Int
  | _, _, [] => -1
  | c, m, s :: t => if s.k = kind then (if m - s.m ≤ 0 then c else grG kind (c + 1) (m - s.m) t) else grG kind c m t
theorem grG_skip (kind c m : Int) (S : List Spr) : grG kind c m S = grG kind c m (S.filter (ofKind kind)) := by
  induction S generalizing c m with
  | nil => rfl
  | cons s t ih =>
    by_cases h : s.k = kind
    · rw [List.filter_cons_of_pos (by simp [ofKind, h])]
      show (if s.k = kind then _ else _) = (if s.k = kind then _ else _)
      rw [if_pos h, if_pos h, ih]
    · rw [List.filter_cons_of_neg (by simp [ofKind, h])]
      show (if s.k = kind then _ else _) = _
      rw [if_neg h, ih]
theorem grG_spec (kind : Int) : ∀ (T : List Spr) (c m : Int), 1 ≤ m → (∀ s ∈ T, s.k = kind) →
    (grG kind c m T = -1 ∧ milesZ T < m ∧ (∀ j, milesZ (T.take j) < m ∨ ∃ s ∈ T, s.m < 0)) ∨ ∃ j : Nat, j < T.length ∧ grG kind c m T = c + j ∧ m ≤ milesZ (T.take (j + 1)) ∧ milesZ (T.take j) < m
  | [], c, m, h, _ => .inl ⟨rfl, by simp [milesZ]; omega, fun j => by left; simp [milesZ]; omega⟩
  | s :: t, c, m, h, hk => by
    unfold grG
    rw [if_pos (hk s (by simp))]
    by_cases h1 : m - s.m ≤ 0
    · rw [if_pos h1]
      exact .inr ⟨0, by simp, by omega, by simp [milesZ]; omega, by simp [milesZ]; omega⟩
    · rw [if_neg h1]
      rcases grG_spec kind t (c + 1) (m - s.m) (by omega) (fun u hu => hk u (by simp [hu])) with ⟨h2, h3, h4⟩ | ⟨j, h2, h3, h4, h5⟩
      · refine .inl ⟨h2, by rw [milesZ]; omega, fun j => ?_⟩
        cases j with
        | zero => left; simp [milesZ]; omega
        | succ j =>
          rcases h4 j with h4 | ⟨u, hu, hu2⟩
          · left; rw [List.take_succ_cons, milesZ]; omega
          · right; exact ⟨u, by simp [hu], hu2⟩
      · refine .inr ⟨j + 1, by simpa using h2, by omega, by rw [List.take_succ_cons, milesZ]; omega, by rw [List.take_succ_cons, milesZ]; omega⟩
/-- the miles of some of a falling list are no more than of as many first ones -/
theorem sub_top {z T : List Spr} (h : z.Sublist T) : T.Pairwise (fun a b => b.m ≤ a.m) → milesZ z ≤ milesZ (T.take z.length) := by
  induction h with
  | slnil => intro _; simp [milesZ]
  | cons a h ih =>
    rename_i z' t
    intro hp
    have h1 := ih (List.pairwise_cons.1 hp).2
    refine Int.le_trans h1 ?_
    have hle : ∀ (u : List Spr) (a : Spr) (j : Nat), u.Pairwise (fun a b => b.m ≤ a.m) → (∀ s ∈ u, s.m ≤ a.m) → j ≤ u.length → milesZ (u.take j) ≤ milesZ ((a :: u).take j) := by
      intro u
      induction u with
      | nil => intro a j _ _ hj; simp at hj; subst hj; simp
      | cons b v ihv =>
        intro a j hp2 hle hj
        cases j with
        | zero => simp
        | succ j =>
          have h5 := ihv b j (List.pairwise_cons.1 hp2).2 (List.pairwise_cons.1 hp2).1 (by simpa using hj)
          have h6 := hle b (by simp)
          rw [List.take_succ_cons, List.take_succ_cons, milesZ, milesZ]
          omega
    exact hle t a z'.length (List.pairwise_cons.1 hp).2 (List.pairwise_cons.1 hp).1 h.length_le
  | cons_cons a h ih =>
    intro hp
    have h1 := ih (List.pairwise_cons.1 hp).2
    rw [List.length_cons, List.take_succ_cons, milesZ, milesZ]
    omega
/-- the spares of an ascending row are some of the list, in their order -/
theorem ats_sub (L : List Spr) : ∀ (x : List Int) (d : Nat), x.Pairwise (· < ·) → (∀ i ∈ x, (d : Int) ≤ i ∧ i < (L.length : Int)) → (atsZ L x).Sublist (L.drop d)
  | [], d, _, _ => List.nil_sublist _
  | i :: t, d, hp, hb => by
    have h1 := hb i (by simp)
    have hp2 := List.pairwise_cons.1 hp
    have h2 := ats_sub L t (i.toNat + 1) hp2.2 (fun j hj => by have := hp2.1 j hj; have := hb j (by simp [hj]); omega)
    have h3 : (sprAt L i.toNat :: L.drop (i.toNat + 1)).Sublist (L.drop d) := by
      have h4 : L.drop i.toNat = sprAt L i.toNat :: L.drop (i.toNat + 1) := by rw [sprAt_lt (by omega)]; exact List.drop_eq_getElem_cons (by omega)
      rw [← h4]
      have h5 : i.toNat = d + (i.toNat - d) := by omega
      rw [h5, ← List.drop_drop]
      exact List.drop_sublist _ _
    exact (List.Sublist.cons_cons _ h2).trans h3
theorem sub_ats (L : List Spr) : ∀ (z : List Spr) (d : Nat), z.Sublist (L.drop d) → ∃ x : List Int, x.Pairwise (· < ·) ∧ (∀ i ∈ x, (d : Int) ≤ i ∧ i < (L.length : Int)) ∧ atsZ L x = z := by
  intro z d h
  generalize hn : L.drop d = T at h
  induction h generalizing d with
  | slnil => exact ⟨[], by simp, by simp, rfl⟩
  | cons a h ih =>
    rename_i z' t
    have hd : d < L.length := by
      by_cases hd : d < L.length
      · exact hd
      · rw [List.drop_eq_nil_of_le (by omega)] at hn; simp at hn
    rw [List.drop_eq_getElem_cons hd] at hn
    injection hn with e1 e2
    obtain ⟨x, h1, h2, h3⟩ := ih (d + 1) e2
    exact ⟨x, h1, fun i hi => by have := h2 i hi; omega, h3⟩
  | cons_cons a h ih =>
    rename_i z' t
    have hd : d < L.length := by
      by_cases hd : d < L.length
      · exact hd
      · rw [List.drop_eq_nil_of_le (by omega)] at hn; simp at hn
    rw [List.drop_eq_getElem_cons hd] at hn
    injection hn with e1 e2
    obtain ⟨x, h1, h2, h3⟩ := ih (d + 1) e2
    refine ⟨(d : Int) :: x, List.pairwise_cons.2 ⟨fun j hj => by have := h2 j hj; omega, h1⟩, ?_, ?_⟩
    · intro i hi
      rcases List.mem_cons.1 hi with rfl | hi
      · omega
      · have := h2 i hi; omega
    · show sprAt L (d : Int).toNat :: atsZ L x = a :: z'
      rw [h3, Int.toNat_natCast, sprAt_lt hd, e1]
theorem atsZ_length (L : List Spr) (x : List Int) : (atsZ L x).length = x.length := by simp [atsZ]
theorem atsZ_allK {L : List Spr} {kind : Int} {x : List Int} (h : allK L kind x) : (atsZ L x).filter (ofKind kind) = atsZ L x := by
  rw [List.filter_eq_self]
  intro s hs
  simp only [atsZ, List.mem_map] at hs
  obtain ⟨i, hi, rfl⟩ := hs
  exact h i hi
theorem kindSorted (L : List Spr) (kind : Int) : ((sortZ L).filter (ofKind kind)).Pairwise (fun a b => b.m ≤ a.m) := by
  have h := (sortZ_pw L).filter (ofKind kind)
  refine h.imp_of_mem ?_
  intro a b ha hb hab
  simp only [List.mem_filter, ofKind, decide_eq_true_eq] at ha hb
  rw [leS_true] at hab
  omega
/-- a joint is some of the sorted ones of the kind -/
theorem join_top {L : List Spr} {kind miles : Int} {x : List Int} (h : joinP L kind miles x) : miles ≤ milesZ (((sortZ L).filter (ofKind kind)).take x.length) ∧ x.length ≤ ((sortZ L).filter (ofKind kind)).length := by
  obtain ⟨⟨h1, h2⟩, h3, h4⟩ := h
  have hs := ats_sub L x 0 h1 h2
  rw [List.drop_zero] at hs
  obtain ⟨z, hz1, hz2⟩ := List.exists_perm_sublist hs (sortZ_perm L).symm
  have hz3 := hz2.filter (ofKind kind)
  have hz4 := hz1.filter (ofKind kind)
  rw [atsZ_allK h3] at hz4
  have h5 := sub_top hz3 (kindSorted L kind)
  rw [milesZ_perm hz4, hz4.length_eq, atsZ_length, ← sumZ_ats] at h5
  have h6 := hz3.length_le
  rw [hz4.length_eq, atsZ_length] at h6
  exact ⟨by omega, h6⟩
/-- as many first ones of the sorted kind are a joint -/
theorem top_join {L : List Spr} {kind miles : Int} {j : Nat} (hj : j ≤ ((sortZ L).filter (ofKind kind)).length) (h : miles ≤ milesZ (((sortZ L).filter (ofKind kind)).take j)) : ∃ x, joinP L kind miles x ∧ x.length = j := by
  have h1 : (((sortZ L).filter (ofKind kind)).take j).Sublist (sortZ L) := (List.take_sublist _ _).trans List.filter_sublist
  obtain ⟨z, hz1, hz2⟩ := List.exists_perm_sublist h1 (sortZ_perm L)
  obtain ⟨x, h2, h3, h4⟩ := sub_ats L z 0 (by simpa using hz2)
  refine ⟨x, ⟨⟨h2, h3⟩, ?_, ?_⟩, ?_⟩
  · intro i hi
    have h5 : sprAt L i.toNat ∈ z := by rw [← h4]; exact List.mem_map_of_mem (f := fun i : Int => sprAt L i.toNat) hi
    have h6 := hz1.mem_iff.1 h5
    have h7 := List.mem_of_mem_take h6
    exact (List.mem_filter.1 h7).2
  · rw [sumZ_ats, h4, milesZ_perm hz1]; exact h
  · rw [← atsZ_length L x, h4, hz1.length_eq, List.length_take]; omega
theorem milesZ_nonneg {T : List Spr} (h : ∀ s ∈ T, 0 ≤ s.m) : 0 ≤ milesZ T := by
  induction T with
  | nil => simp [milesZ]
  | cons s t ih => have h1 := h s (by simp); have h2 := ih (fun u hu => h u (by simp [hu])); rw [milesZ]; omega
theorem milesZ_take_le {T : List Spr} (h : ∀ s ∈ T, 0 ≤ s.m) (i j : Nat) (hij : i ≤ j) : milesZ (T.take i) ≤ milesZ (T.take j) := by
  have e : T.take j = T.take i ++ (T.take j).drop i := by
    have := List.take_append_drop i (T.take j)
    rw [List.take_take, Nat.min_eq_left hij] at this
    exact this.symm
  rw [e, milesZ_append]
  have := milesZ_nonneg (T := (T.take j).drop i) (fun s hs => h s (List.mem_of_mem_take (List.mem_of_mem_drop hs)))
  omega

/-- THE FEWEST SPLICES, as the program counts them -/
def fewG (L : List Spr) (kind miles : Int) : Int := grG kind 0 miles (sortZ L)
theorem few_spec {n : Nat} {L : List Spr} (hL : sprB n L = true) (kind : Int) {miles : Int} (hm : 1 ≤ miles) :
    (fewG L kind miles = -1 ∧ ∀ x, ¬ joinP L kind miles x) ∨ ∃ j : Nat, fewG L kind miles = j ∧ j < L.length ∧ (∃ x, joinP L kind miles x ∧ x.length = j + 1) ∧ ∀ x, joinP L kind miles x → j + 1 ≤ x.length := by
  have hok : ∀ s ∈ (sortZ L).filter (ofKind kind), 0 ≤ s.m := by
    intro s hs
    have h1 := (sprB_true.1 hL).2 s ((sortZ_perm L).mem_iff.1 (List.mem_filter.1 hs).1)
    have := (sprOk_true.1 h1).1
    omega
  unfold fewG
  rw [grG_skip]
  rcases grG_spec kind ((sortZ L).filter (ofKind kind)) 0 miles hm (fun s hs => by have := (List.mem_filter.1 hs).2; simpa [ofKind] using this) with ⟨h1, h2, h3⟩ | ⟨j, h1, h2, h3, h4⟩
  · refine .inl ⟨h1, fun x hx => ?_⟩
    have h5 := (join_top hx).1
    rcases h3 x.length with h6 | ⟨s, hs, hs2⟩
    · omega
    · have := hok s hs; omega
  · refine .inr ⟨j, by omega, ?_, top_join h1 h3, fun x hx => ?_⟩
    · have h5 : ((sortZ L).filter (ofKind kind)).length ≤ (sortZ L).length := List.length_filter_le _ _
      rw [sortZ_length] at h5; omega
    · have h5 := (join_top hx).1
      by_cases h6 : x.length ≤ j
      · have := milesZ_take_le hok x.length j h6
        omega
      · omega

/-- WHAT JointBest HANDS BACK: none, or the best joint -/
def jointG (L : List Spr) (kind miles : Int) : Option (List Int) :=
  if sprB 10 L = true ∧ 1 ≤ miles ∧ miles ≤ 500 then (if fewG L kind miles < 0 then none else bst (sumZ L) ((rows (jf L kind) L.length (fewG L kind miles + 1).toNat).filter (fun y => decide (miles ≤ sumZ L y)))) else none
theorem joint_spec {L : List Spr} (hL : sprB 10 L = true) (kind : Int) {miles : Int} (hm : 1 ≤ miles ∧ miles ≤ 500) :
    (fewG L kind miles = -1 ∧ jointG L kind miles = none ∧ ∀ x, ¬ joinP L kind miles x) ∨ ∃ x, jointG L kind miles = some x ∧ bestP L kind miles x ∧ fewG L kind miles = (x.length : Int) - 1 ∧ 1 ≤ x.length ∧ x.length ≤ 10 := by
  unfold jointG
  rw [if_pos ⟨hL, hm.1, hm.2⟩]
  rcases few_spec hL kind hm.1 with ⟨h1, h2⟩ | ⟨j, h1, h2, ⟨x, h3, h4⟩, h5⟩
  · rw [if_pos (by omega)]; exact .inl ⟨h1, rfl, h2⟩
  · rw [if_neg (by omega), h1, show ((j : Int) + 1).toNat = j + 1 by omega]
    right
    obtain ⟨y, hy⟩ := bst_some (c := sumZ L) (l := (rows (jf L kind) L.length (j + 1)).filter (fun y => decide (miles ≤ sumZ L y))) (by
      intro e
      have hmem : x ∈ (rows (jf L kind) L.length (j + 1)).filter (fun y => decide (miles ≤ sumZ L y)) := by
        simp only [List.mem_filter, decide_eq_true_eq]
        exact ⟨jrows_mem.2 ⟨h4, h3.1, h3.2.1⟩, h3.2.2⟩
      rw [e] at hmem; simp at hmem)
    have hb := bst_best h5 hy
    have := (sprB_true.1 hL).1
    exact ⟨y, hy, hb.1, by omega, by omega, by omega⟩

end Go.Proofs.Ytnekjhpocfdpnaa
