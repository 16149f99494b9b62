/-
  Mathematics of traffic: nets, loads, free lines, ways that are added, the greatest load. Nothing here speaks of the program.
-/
import Derived.Test.YtnekjhpocfdpnaaMemL
import Derived.Test.YtnekjhpocfdpnaaTfD
import Derived.Test.YtnekjhpocfdpnaaInB
namespace Go.Proofs.Ytnekjhpocfdpnaa

/-! ## nets -/
/-- two different stations -/
def twoB (n a b : Int) : Bool := (inB a 0 (n - 1) && inB b 0 (n - 1)) && decide (a ≠ b)
theorem twoB_true {n a b : Int} : twoB n a b = true ↔ (0 ≤ a ∧ a < n) ∧ (0 ≤ b ∧ b < n) ∧ a ≠ b := by
  unfold twoB
  rw [Bool.and_eq_true, Bool.and_eq_true, inB_true, inB_true, decide_eq_true_eq]
  omega
def lnOk (n : Int) (s : Lin) : Bool := twoB n s.a s.b && inB s.c 1 9
theorem lnOk_true {n : Int} {s : Lin} : lnOk n s = true ↔ ((0 ≤ s.a ∧ s.a < n) ∧ (0 ≤ s.b ∧ s.b < n) ∧ s.a ≠ s.b) ∧ 1 ≤ s.c ∧ s.c ≤ 9 := by
  unfold lnOk
  rw [Bool.and_eq_true, twoB_true, inB_true]
/-- A NET -/
def netB (n : Int) (N : List Lin) : Bool := (inB n 2 6 && decide (N.length ≤ 10)) && N.all (lnOk n)
theorem netB_true {n : Int} {N : List Lin} : netB n N = true ↔ (2 ≤ n ∧ n ≤ 6) ∧ N.length ≤ 10 ∧ ∀ s ∈ N, lnOk n s = true := by
  unfold netB
  rw [Bool.and_eq_true, Bool.and_eq_true, inB_true, decide_eq_true_eq, List.all_eq_true, and_assoc]
/-- .. with two different stations -/
def endB (n : Int) (N : List Lin) (f t : Int) : Bool := netB n N && twoB n f t
theorem endB_true {n : Int} {N : List Lin} {f t : Int} : endB n N f t = true ↔ netB n N = true ∧ (0 ≤ f ∧ f < n) ∧ (0 ≤ t ∧ t < n) ∧ f ≠ t := by
  unfold endB
  rw [Bool.and_eq_true, twoB_true]
theorem linAt_mem {N : List Lin} {k : Nat} (h : k < N.length) : linAt N k ∈ N := by rw [linAt_lt h]; exact List.getElem_mem h
theorem netB_at {n : Int} {N : List Lin} (h : netB n N = true) {k : Nat} (hk : k < N.length) : ((0 ≤ (linAt N k).a ∧ (linAt N k).a < n) ∧ (0 ≤ (linAt N k).b ∧ (linAt N k).b < n) ∧ (linAt N k).a ≠ (linAt N k).b) ∧ 1 ≤ (linAt N k).c ∧ (linAt N k).c ≤ 9 :=
  lnOk_true.1 ((netB_true.1 h).2.2 _ (linAt_mem hk))

/-! ## loads -/
def ldAt (L : List Int) (k : Nat) : Int := L[k]?.getD 0
theorem ldAt_set {L : List Int} {i : Nat} (hi : i < L.length) (v : Int) (k : Nat) : ldAt (L.set i v) k = if k = i then v else ldAt L k := by
  unfold ldAt
  rw [List.getElem?_set]
  by_cases h : k = i
  · subst h; simp [hi]
  · rw [if_neg (Ne.symm h), if_neg h]
/-- what the line k brings out of a station -/
def outK (N : List Lin) (L : List Int) (s : Int) (k : Nat) : Int := (if (linAt N k).a = s then ldAt L k else 0) - (if (linAt N k).b = s then ldAt L k else 0)
def outT (N : List Lin) (L : List Int) (s : Int) : Nat → Int
  | 0 => 0
  | k + 1 => outT N L s k + outK N L s k
/-- what goes out of a station less what comes in -/
def outV (N : List Lin) (L : List Int) (s : Int) : Int := outT N L s N.length
def lnB (N : List Lin) (L : List Int) (k : Nat) : Bool := inB (ldAt L k) (-(linAt N k).c) (linAt N k).c
/-- a number for each line, not more than its channels -/
def chB (N : List Lin) (L : List Int) : Bool := decide (L.length = N.length) && (List.range N.length).all (lnB N L)
theorem chB_true {N : List Lin} {L : List Int} : chB N L = true ↔ L.length = N.length ∧ ∀ k, k < N.length → -(linAt N k).c ≤ ldAt L k ∧ ldAt L k ≤ (linAt N k).c := by
  unfold chB lnB
  rw [Bool.and_eq_true, decide_eq_true_eq, List.all_eq_true]
  constructor
  · rintro ⟨h1, h2⟩; exact ⟨h1, fun k hk => inB_true.1 (h2 k (List.mem_range.2 hk))⟩
  · rintro ⟨h1, h2⟩; exact ⟨h1, fun k hk => inB_true.2 (h2 k (List.mem_range.1 hk))⟩
/-- the station k keeps what it gets -/
def keepB (N : List Lin) (f t : Int) (L : List Int) (k : Int) : Bool := (decide (k = f) || decide (k = t)) || decide (outV N L k = 0)
def loadB (n : Int) (N : List Lin) (f t : Int) (L : List Int) : Bool := (endB n N f t && chB N L) && ((List.range n.toNat).all (fun k => keepB N f t L (k : Int)) && decide (0 ≤ outV N L f))
theorem keepB_true {N : List Lin} {f t : Int} {L : List Int} {k : Int} : keepB N f t L k = true ↔ (k ≠ f → k ≠ t → outV N L k = 0) := by
  unfold keepB
  simp only [Bool.or_eq_true, decide_eq_true_eq]
  constructor
  · rintro ((h | h) | h) h1 h2
    · exact absurd h h1
    · exact absurd h h2
    · exact h
  · intro h
    by_cases h1 : k = f
    · exact .inl (.inl h1)
    · by_cases h2 : k = t
      · exact .inl (.inr h2)
      · exact .inr (h h1 h2)
theorem loadB_true {n : Int} {N : List Lin} {f t : Int} {L : List Int} : loadB n N f t L = true ↔ endB n N f t = true ∧ chB N L = true ∧ (∀ k : Int, 0 ≤ k → k < n → k ≠ f → k ≠ t → outV N L k = 0) ∧ 0 ≤ outV N L f := by
  unfold loadB
  rw [Bool.and_eq_true, Bool.and_eq_true, Bool.and_eq_true, List.all_eq_true, decide_eq_true_eq, and_assoc]
  constructor
  · rintro ⟨h1, h2, h3, h4⟩
    refine ⟨h1, h2, fun k h0 hk => ?_, h4⟩
    have := h3 k.toNat (List.mem_range.2 (by omega))
    rw [Int.toNat_of_nonneg h0] at this
    exact keepB_true.1 this
  · rintro ⟨h1, h2, h3, h4⟩
    refine ⟨h1, h2, fun k hk => keepB_true.2 (h3 (k : Int) (by omega) ?_), h4⟩
    have := List.mem_range.1 hk
    omega
/-- the value of LoadTraffic -/
def trafV (n : Int) (N : List Lin) (f t : Int) (L : List Int) : Int := if loadB n N f t L then outV N L f else -1
theorem trafV_nonneg {n : Int} {N : List Lin} {f t : Int} {L : List Int} : decide (0 ≤ trafV n N f t L) = loadB n N f t L := by
  unfold trafV
  cases h : loadB n N f t L
  · rfl
  · simpa using (loadB_true.1 h).2.2.2

section
variable {N : List Lin} {L : List Int}
theorem outK_bd (hc : chB N L = true) (h9 : ∀ k, k < N.length → (linAt N k).c ≤ 9) (s : Int) {k : Nat} (hk : k < N.length) : -18 ≤ outK N L s k ∧ outK N L s k ≤ 18 := by
  have h1 := (chB_true.1 hc).2 k hk
  have h2 := h9 k hk
  unfold outK
  split <;> split <;> omega
theorem outT_bd (hc : chB N L = true) (h9 : ∀ k, k < N.length → (linAt N k).c ≤ 9) (s : Int) : ∀ k, k ≤ N.length → -18 * (k : Int) ≤ outT N L s k ∧ outT N L s k ≤ 18 * k
  | 0, _ => by simp [outT]
  | k + 1, hk => by
    have h1 := outT_bd hc h9 s k (by omega)
    have h2 := outK_bd hc h9 s (k := k) (by omega)
    rw [outT]; omega
theorem outV_bd {n : Int} (hn : netB n N = true) (hc : chB N L = true) (s : Int) : -180 ≤ outV N L s ∧ outV N L s ≤ 180 := by
  have h1 := outT_bd hc (fun k hk => (netB_at hn hk).2.2) s N.length (Nat.le_refl _)
  have h2 := (netB_true.1 hn).2.1
  unfold outV; omega
/-- no line leads to a station that the net has not -/
theorem outV_none {n : Int} (hn : netB n N = true) {s : Int} (hs : n ≤ s) : outV N L s = 0 := by
  have : ∀ k, k ≤ N.length → outT N L s k = 0 := by
    intro k
    induction k with
    | zero => intro _; rfl
    | succ k ih =>
      intro hk
      have := netB_at hn (k := k) (by omega)
      rw [outT, ih (by omega), outK, if_neg (by omega), if_neg (by omega)]; rfl
  exact this _ (Nat.le_refl _)
theorem outT_set {i : Nat} (hi : i < L.length) (v s : Int) : ∀ k, outT N (L.set i v) s k = outT N L s k + (if i < k then (if (linAt N i).a = s then v - ldAt L i else 0) - (if (linAt N i).b = s then v - ldAt L i else 0) else 0)
  | 0 => by simp [outT]
  | k + 1 => by
    rw [outT, outT, outT_set hi v s k, outK, outK, ldAt_set hi]
    by_cases h : k = i
    · subst h
      have g1 : ¬ k < k := by omega
      have g2 : k < k + 1 := by omega
      by_cases h3 : (linAt N k).a = s <;> by_cases h4 : (linAt N k).b = s <;> simp only [h3, h4, g1, g2, eq_self, ↓reduceIte] <;> omega
    · by_cases h2 : i < k
      · have g2 : i < k + 1 := by omega
        simp only [h, h2, g2, ↓reduceIte]; omega
      · have g2 : ¬ i < k + 1 := by omega
        simp only [h, h2, g2, ↓reduceIte]; omega
theorem outV_set {i : Nat} (hi : i < L.length) (hl : L.length = N.length) (v s : Int) : outV N (L.set i v) s = outV N L s + ((if (linAt N i).a = s then v - ldAt L i else 0) - (if (linAt N i).b = s then v - ldAt L i else 0)) := by
  unfold outV
  rw [outT_set hi, if_pos (by omega)]
theorem outV_zero (s : Int) : outV N (List.replicate N.length 0) s = 0 := by
  have h0 : ∀ k, ldAt (List.replicate N.length 0) k = 0 := by
    intro k
    unfold ldAt
    rw [List.getElem?_replicate]
    split <;> rfl
  have : ∀ k, outT N (List.replicate N.length 0) s k = 0 := by
    intro k
    induction k with
    | zero => rfl
    | succ k ih => rw [outT, ih, outK, h0]; simp
  exact this _
theorem chB_zero {n : Int} (hn : netB n N = true) : chB N (List.replicate N.length 0) = true := by
  refine chB_true.2 ⟨by simp, fun k hk => ?_⟩
  have h1 := netB_at hn hk
  have h0 : ldAt (List.replicate N.length 0) k = 0 := by
    unfold ldAt
    rw [List.getElem?_replicate]
    split <;> rfl
  omega
end

/-! ## free lines -/
/-- the line i has a free channel from a to b -/
def forthB (N : List Lin) (L : List Int) (a b : Int) (i : Nat) : Bool := (decide ((linAt N i).a = a) && decide ((linAt N i).b = b)) && decide (ldAt L i < (linAt N i).c)
def backB (N : List Lin) (L : List Int) (a b : Int) (i : Nat) : Bool := (decide ((linAt N i).a = b) && decide ((linAt N i).b = a)) && decide (-ldAt L i < (linAt N i).c)
def frAt (N : List Lin) (L : List Int) (a b : Int) (i : Nat) : Bool := forthB N L a b i || backB N L a b i
/-- the first one, or -1 -/
def frI (N : List Lin) (L : List Int) (a b : Int) : Int := ((List.range N.length).find? (frAt N L a b)).elim (-1) (fun (i : Nat) => (i : Int))
def fr (N : List Lin) (L : List Int) (a b : Int) : Bool := decide (0 ≤ frI N L a b)
/-- none of the first k is free -/
def frNo (N : List Lin) (L : List Int) (a b : Int) (k : Nat) : Prop := ∀ i, i < k → frAt N L a b i = false
theorem frNo_zero (N : List Lin) (L : List Int) (a b : Int) : frNo N L a b 0 := fun i h => by omega
theorem frNo_succ {N : List Lin} {L : List Int} {a b : Int} {k : Nat} (h : frNo N L a b k) (hk : frAt N L a b k = false) : frNo N L a b (k + 1) := fun i hi => by
  rcases (by omega : i < k ∨ i = k) with h1 | rfl
  · exact h i h1
  · exact hk
theorem find_range {p : Nat → Bool} {n y : Nat} (hy : y < n) (h : p y = true) (hno : ∀ z, z < y → p z = false) : (List.range n).find? p = some y := by
  rw [List.find?_eq_some_iff_append]
  refine ⟨h, List.range y, (List.range (n - (y + 1))).map (fun i => y + 1 + i), ?_, ?_⟩
  · have e1 : n = y + (1 + (n - (y + 1))) := by omega
    conv => lhs; rw [e1]
    rw [List.range_add, Nat.add_comm 1, List.range_succ_eq_map]
    simp [List.map_map, Function.comp_def]
    intro a _; omega
  · intro z hz
    rw [hno z (List.mem_range.1 hz)]; rfl
theorem range_find {p : Nat → Bool} {n y : Nat} (h : (List.range n).find? p = some y) : y < n ∧ p y = true ∧ ∀ z, z < y → p z = false := by
  obtain ⟨h2, as, bs, e, h3⟩ := List.find?_eq_some_iff_append.1 h
  have hm : y ∈ List.range n := by rw [e]; simp
  have hal : as.length = y := by
    have hlt : as.length < (List.range n).length := by rw [e]; simp
    have : (List.range n)[as.length]? = some y := by rw [e]; simp
    rw [List.getElem?_eq_getElem hlt, List.getElem_range] at this
    exact Option.some.inj this
  refine ⟨List.mem_range.1 hm, h2, fun z hz => ?_⟩
  have hz2 : z ∈ as := by
    have hlt : z < (List.range n).length := by rw [e]; simp; omega
    have h4 : (List.range n)[z]? = some z := by rw [List.getElem?_eq_getElem hlt, List.getElem_range]
    rw [e, List.getElem?_append_left (by omega)] at h4
    exact List.mem_of_getElem? h4
  have := h3 z hz2
  simpa only [Bool.not_eq_true'] using this
theorem frI_some {N : List Lin} {L : List Int} {a b : Int} {k : Nat} (hk : k < N.length) (h : frNo N L a b k) (hf : frAt N L a b k = true) : frI N L a b = (k : Int) := by
  unfold frI
  rw [find_range hk hf h]
  rfl
theorem frI_none {N : List Lin} {L : List Int} {a b : Int} (h : frNo N L a b N.length) : frI N L a b = -1 := by
  unfold frI
  rw [List.find?_eq_none.2 (fun x hx => by rw [h x (List.mem_range.1 hx)]; simp)]
  rfl
theorem frI_case (N : List Lin) (L : List Int) (a b : Int) : (frI N L a b = -1 ∧ fr N L a b = false ∧ ∀ i, i < N.length → frAt N L a b i = false) ∨ ∃ i : Nat, i < N.length ∧ frI N L a b = (i : Int) ∧ fr N L a b = true ∧ frAt N L a b i = true ∧ frNo N L a b i := by
  cases h : (List.range N.length).find? (frAt N L a b) with
  | none =>
    have e : frI N L a b = -1 := by unfold frI; rw [h]; rfl
    exact .inl ⟨e, by unfold fr; rw [e]; rfl, fun i hi => by
      have := List.find?_eq_none.1 h i (List.mem_range.2 hi)
      simpa using this⟩
  | some i =>
    obtain ⟨h1, h2, h3⟩ := range_find h
    have e : frI N L a b = (i : Int) := by unfold frI; rw [h]; rfl
    exact .inr ⟨i, h1, e, by unfold fr; rw [e]; simp, h2, h3⟩
theorem frAt_true {N : List Lin} {L : List Int} {a b : Int} {i : Nat} : frAt N L a b i = true ↔ ((linAt N i).a = a ∧ (linAt N i).b = b ∧ ldAt L i < (linAt N i).c) ∨ ((linAt N i).a = b ∧ (linAt N i).b = a ∧ -ldAt L i < (linAt N i).c) := by
  unfold frAt forthB backB
  simp only [Bool.or_eq_true, Bool.and_eq_true, decide_eq_true_eq, and_assoc]
theorem frI_congr {N : List Lin} {L M : List Int} {a b : Int} (h : ∀ i, i < N.length → frAt N L a b i = frAt N M a b i) : frI N L a b = frI N M a b := by
  rcases frI_case N M a b with ⟨e, _, h1⟩ | ⟨i, hi, e, _, h1, h2⟩
  · rw [e, frI_none (fun i hi => by rw [h i hi]; exact h1 i hi)]
  · rw [e, frI_some hi (fun j hj => by rw [h j (by omega)]; exact h2 j hj) (by rw [h i hi]; exact h1)]

/-- one channel more from a to b -/
def bumpV (N : List Lin) (L : List Int) (a : Int) (i : Nat) : Int := if (linAt N i).a = a then ldAt L i + 1 else ldAt L i - 1
def bump (N : List Lin) (L : List Int) (a b : Int) : List Int := L.set (frI N L a b).toNat (bumpV N L a (frI N L a b).toNat)
theorem bump_len (N : List Lin) (L : List Int) (a b : Int) : (bump N L a b).length = L.length := by simp [bump]
theorem bump_spec {n : Int} {N : List Lin} {L : List Int} {a b : Int} (hn : netB n N = true) (hc : chB N L = true) (hf : fr N L a b = true) :
    chB N (bump N L a b) = true ∧ (∀ s, outV N (bump N L a b) s = outV N L s + ((if a = s then 1 else 0) - (if b = s then 1 else 0))) ∧
      ∃ i, i < N.length ∧ frI N L a b = (i : Int) ∧ (((linAt N i).a = a ∧ (linAt N i).b = b) ∨ ((linAt N i).a = b ∧ (linAt N i).b = a)) ∧ ∀ k, k ≠ i → ldAt (bump N L a b) k = ldAt L k := by
  rcases frI_case N L a b with ⟨_, e, _⟩ | ⟨i, hi, e, _, h1, _⟩
  · rw [e] at hf; cases hf
  have hcl := chB_true.1 hc
  have hil : i < L.length := by omega
  have hlt := netB_at hn hi
  have hii := hcl.2 i hi
  have eb : bump N L a b = L.set i (bumpV N L a i) := by unfold bump; rw [e]; rfl
  refine ⟨?_, ?_, i, hi, e, ?_, ?_⟩
  · refine chB_true.2 ⟨by rw [bump_len]; exact hcl.1, fun k hk => ?_⟩
    rw [eb, ldAt_set hil]
    have hk2 := hcl.2 k hk
    split
    · rename_i ek; subst ek
      unfold bumpV
      rcases frAt_true.1 h1 with ⟨h3, h4, h5⟩ | ⟨h3, h4, h5⟩
      · rw [if_pos h3]; omega
      · rw [if_neg (by omega)]; omega
    · exact hk2
  · intro s
    rw [eb, outV_set hil hcl.1]
    unfold bumpV
    rcases frAt_true.1 h1 with ⟨h3, h4, h5⟩ | ⟨h3, h4, h5⟩
    · rw [if_pos h3, h3, h4]
      by_cases g1 : a = s <;> by_cases g2 : b = s <;> simp only [g1, g2, eq_self, ↓reduceIte] <;> omega
    · have h6 : ¬ (linAt N i).a = a := by omega
      rw [if_neg h6, h3, h4]
      by_cases g1 : a = s <;> by_cases g2 : b = s <;> simp only [g1, g2, eq_self, ↓reduceIte] <;> omega
  · rcases frAt_true.1 h1 with ⟨h3, h4, _⟩ | ⟨h3, h4, _⟩
    · exact .inl ⟨h3, h4⟩
    · exact .inr ⟨h3, h4⟩
  · intro k hk
    rw [eb, ldAt_set hil, if_neg hk]

/-- one channel more along a way -/
def addC (N : List Lin) : List Int → Int → List Int → List Int
  | L, _, [] => L
  | L, a, b :: s => addC N (bump N L a b) b s
/-- all along the way there is a free line -/
def wlkP (N : List Lin) : List Int → Int → List Int → Prop
  | _, _, [] => True
  | L, a, b :: s => (fr N L a b = true ∧ a ≠ b) ∧ wlkP N (bump N L a b) b s
theorem addC_len (N : List Lin) : ∀ (s : List Int) (L : List Int) (a : Int), (addC N L a s).length = L.length
  | [], L, a => rfl
  | b :: s, L, a => by rw [addC, addC_len N s, bump_len]
theorem addC_spec {n : Int} {N : List Lin} (hn : netB n N = true) : ∀ (s : List Int) (L : List Int) (a : Int), chB N L = true → wlkP N L a s →
    chB N (addC N L a s) = true ∧ ∀ x, outV N (addC N L a s) x = outV N L x + ((if a = x then 1 else 0) - (if lst a s = x then 1 else 0))
  | [], L, a, hc, _ => ⟨hc, fun x => by rw [addC, lst]; omega⟩
  | b :: s, L, a, hc, hw => by
    obtain ⟨h1, h2, _⟩ := bump_spec hn hc hw.1.1
    obtain ⟨h3, h4⟩ := addC_spec hn s _ b h1 hw.2
    refine ⟨h3, fun x => ?_⟩
    rw [addC, h4, h2, lst]
    omega

/-! ## the greatest load -/
def R0 (f : Int) : List Bool := (List.replicate 6 false).set f.toNat true
/-- the way of a load, or none -/
def wayV (N : List Lin) (m : Nat) (f t : Int) (L : List Int) : List Int := bfs (fr N L) m t 7 [[f]] (R0 f)
theorem rAt_R0 {f : Int} (h0 : 0 ≤ f) (h1 : f < 6) (x : Int) (hx : 0 ≤ x) : rAt (R0 f) x = decide (x = f) := by
  have := rAt_set (R := List.replicate 6 false) (k := f.toNat) (by simp; omega) x hx
  unfold R0
  rw [this, Int.toNat_of_nonneg h0]
  have : rAt (List.replicate 6 false) x = false := by
    unfold rAt
    rw [List.getElem?_replicate]
    split <;> rfl
  rw [this, Bool.or_false]
theorem R0_len (f : Int) : (R0 f).length = 6 := by simp [R0]
theorem R0_un {f : Int} (h0 : 0 ≤ f) (h1 : f < 6) : unR (R0 f) = 5 := by
  have h : ∀ k : Fin 6, unR (R0 (k.val : Int)) = 5 := by decide
  have := h ⟨f.toNat, by omega⟩
  rwa [show ((f.toNat : Nat) : Int) = f by omega] at this
section
variable {n : Int} {N : List Lin} {m : Nat} {f t : Int} {L : List Int}
theorem way_case (hm : m ≤ 6) (hf : 0 ≤ f ∧ f < (m : Int)) : (wayV N m f t L = [] ∧ ∀ r, Pth (fr N L) m f r → lastI r ≠ t) ∨ leastW (fr N L) m f t (wayV N m f t L) :=
  bfs_inv hf 7 [] [[f]] (R0 f) (BInv.first (by rw [R0_len]; exact hm) (rAt_R0 hf.1 (by omega))) (by rw [R0_un hf.1 (by omega)]; simp)
/-- THE FIRST WAY FOUND IS THAT DOWN THE NUMBERS -/
theorem way_steps (hm : m ≤ 6) (hf : 0 ≤ f ∧ f < (m : Int)) (ht : 0 ≤ t ∧ t < (m : Int)) :
    (oAt (stepL (fr N L) m t) f < 0 ∧ wayV N m f t L = []) ∨ ∃ F : Nat, oAt (stepL (fr N L) m t) f = (F : Int) ∧ wayV N m f t L = f :: grd (fr N L) m (stepL (fr N L) m t) F f := by
  have hD := stepL_dst (fr := fr N L) hm ht
  by_cases h : oAt (stepL (fr N L) m t) f < 0
  · refine .inl ⟨h, ?_⟩
    rcases way_case (N := N) (L := L) (t := t) hm hf with h1 | h1
    · exact h1.1
    · exact absurd h1.1.2 (hD.none hf.1 hf.2 h _ h1.1.1)
  · obtain ⟨F, e⟩ : ∃ F : Nat, oAt (stepL (fr N L) m t) f = (F : Int) := ⟨_, (Int.toNat_of_nonneg (by omega)).symm⟩
    refine .inr ⟨F, e, ?_⟩
    have h2 := hD.least hf.1 hf.2 e
    rcases way_case (N := N) (L := L) (t := t) hm hf with h1 | h1
    · exact absurd h2.1.2 (h1.2 _ h2.1.1)
    · exact leastW_one h1 h2

/-- M is as L at the lines that are no farther than a -/
def lowS (N : List Lin) (O L M : List Int) (a : Int) : Prop := ∀ i, i < N.length → oAt O (linAt N i).a ≤ oAt O a → oAt O (linAt N i).b ≤ oAt O a → ldAt M i = ldAt L i
theorem low_fr {O M : List Int} {a z : Int} (h : lowS N O L M a) (hz : oAt O z = oAt O a - 1) : frI N M a z = frI N L a z := by
  refine frI_congr fun i hi => ?_
  unfold frAt forthB backB
  by_cases h1 : (linAt N i).a = a ∧ (linAt N i).b = z
  · have := h i hi (by rw [h1.1]; omega) (by rw [h1.2]; omega)
    rw [this]
  · by_cases h2 : (linAt N i).a = z ∧ (linAt N i).b = a
    · have := h i hi (by rw [h2.1]; omega) (by rw [h2.2]; omega)
      rw [this]
    · have e1 : (decide ((linAt N i).a = a) && decide ((linAt N i).b = z)) = false := by
        rw [Bool.eq_false_iff]; intro h3; simp at h3; exact h1 h3
      have e2 : (decide ((linAt N i).a = z) && decide ((linAt N i).b = a)) = false := by
        rw [Bool.eq_false_iff]; intro h3; simp at h3; exact h2 h3
      rw [e1, e2]; rfl
/-- WHAT A STEP DOWN FINDS -/
theorem low_step {O M : List Int} {a : Int} {F : Nat} (hn : netB n N = true) (hD : Dst (fr N L) m t O) (hl : lowS N O L M a) (hc : chB N M = true) (h0 : 0 ≤ a) (h1 : a < (m : Int)) (he : oAt O a = ((F + 1 : Nat) : Int)) :
    ∃ y : Nat, nxtS (fr N L) m O a = (y : Int) ∧ y < m ∧ fr N M a (y : Int) = true ∧ oAt O (y : Int) = (F : Int) ∧ a ≠ (y : Int) ∧ (∀ z : Nat, z < y → frI N M a (z : Int) < 0 ∨ oAt O (z : Int) ≠ oAt O a - 1) ∧
      lowS N O L (bump N M a (y : Int)) (y : Int) ∧ chB N (bump N M a (y : Int)) = true := by
  obtain ⟨y, e, hy, hf, ho, hno⟩ := nxtS_spec hD h0 h1 (by omega)
  have hfM : fr N M a (y : Int) = true := by unfold fr at hf ⊢; rw [low_fr hl ho]; exact hf
  have hay : a ≠ (y : Int) := fun e2 => by rw [← e2] at ho; omega
  obtain ⟨h3, _, i, hi, _, h5, h6⟩ := bump_spec hn hc hfM
  refine ⟨y, e, hy, hfM, by omega, hay, ?_, ?_, h3⟩
  · intro z hz
    by_cases h7 : oAt O (z : Int) = oAt O a - 1
    · left
      have h8 := hno z hz
      rw [decide_eq_true h7, Bool.and_true] at h8
      unfold fr at h8
      rw [← low_fr hl h7, decide_eq_false_iff_not] at h8
      omega
    · exact .inr h7
  · intro k hk ha hb
    have hki : k ≠ i := by
      rintro rfl
      rcases h5 with ⟨h7, h8⟩ | ⟨h7, h8⟩
      · rw [h7] at ha; omega
      · rw [h8] at hb; omega
    rw [h6 k hki]
    exact hl k hk (by omega) (by omega)
theorem low_walk {O : List Int} (hn : netB n N = true) (hD : Dst (fr N L) m t O) : ∀ (F : Nat) (a : Int) (M : List Int), lowS N O L M a → chB N M = true → 0 ≤ a → a < (m : Int) → oAt O a = (F : Int) → wlkP N M a (grd (fr N L) m O F a)
  | 0, a, M, _, _, _, _, _ => trivial
  | F + 1, a, M, hl, hc, h0, h1, he => by
    obtain ⟨y, e, hy, hf, ho, hay, _, h3, h4⟩ := low_step hn hD hl hc h0 h1 he
    rw [grd, e]
    exact ⟨⟨hf, hay⟩, low_walk hn hD F (y : Int) _ h3 h4 (by omega) (by omega) ho⟩
theorem lowS_self (N : List Lin) (O L : List Int) (a : Int) : lowS N O L L a := fun _ _ _ _ => rfl
theorem way_walk (hn : netB n N = true) (hc : chB N L = true) (hm : m ≤ 6) (hf : 0 ≤ f ∧ f < (m : Int)) (ht : 0 ≤ t ∧ t < (m : Int)) :
    wayV N m f t L = [] ∨ ∃ s, wayV N m f t L = f :: s ∧ wlkP N L f s ∧ lst f s = t ∧ Ch (fr N L) m f s ∧ s.length ≤ m := by
  have hD := stepL_dst (fr := fr N L) hm ht
  rcases way_steps (N := N) (L := L) hm hf ht with h | ⟨F, e, h⟩
  · exact .inl h.2
  · refine .inr ⟨_, h, low_walk hn hD F f L (lowS_self _ _ _ _) hc hf.1 hf.2 e, (hD.grd_ch F f hf.1 hf.2 e).2.1, (hD.grd_ch F f hf.1 hf.2 e).1, ?_⟩
    have := (hD.grd_ch F f hf.1 hf.2 e).2.2
    have h2 := (hD.low f hf.1 hf.2).2
    omega
end

/-- ways are added as long as there is one -/
def trL (N : List Lin) (m : Nat) (f t : Int) : Nat → List Int → List Int
  | 0, L => L
  | F + 1, L => if wayV N m f t L = [] then L else trL N m f t F (addC N L f (wayV N m f t L).tail)
def ld0 (N : List Lin) : List Int := List.replicate N.length 0
/-- THE GREATEST LOAD -/
def TL (n : Int) (N : List Lin) (f t : Int) : List Int := trL N n.toNat f t 200 (ld0 N)
def TLv (n : Int) (N : List Lin) (f t : Int) : List Int := if endB n N f t then TL n N f t else []
/-- a load that keeps all but its ends -/
def flowP (N : List Lin) (f t : Int) (L : List Int) : Prop := chB N L = true ∧ (∀ x : Int, x ≠ f → x ≠ t → outV N L x = 0) ∧ 0 ≤ outV N L f
section
variable {n : Int} {N : List Lin} {f t : Int} {L : List Int}
theorem flow_zero (hn : netB n N = true) : flowP N f t (ld0 N) := ⟨chB_zero hn, fun x _ _ => outV_zero x, by unfold ld0; rw [outV_zero]; omega⟩
theorem ends_nat (h : endB n N f t = true) : ∃ m : Nat, n = (m : Int) ∧ (2 ≤ m ∧ m ≤ 6) ∧ (0 ≤ f ∧ f < (m : Int)) ∧ (0 ≤ t ∧ t < (m : Int)) ∧ f ≠ t := by
  obtain ⟨h1, h2, h3, h4⟩ := endB_true.1 h
  have h5 := (netB_true.1 h1).1
  refine ⟨n.toNat, by omega, by omega, by omega, by omega, h4⟩
theorem flow_add (h : endB n N f t = true) (hL : flowP N f t L) (hw : wayV N n.toNat f t L ≠ []) :
    flowP N f t (addC N L f (wayV N n.toNat f t L).tail) ∧ outV N (addC N L f (wayV N n.toNat f t L).tail) f = outV N L f + 1 := by
  obtain ⟨m, rfl, hm, hf, ht, hft⟩ := ends_nat h
  have hn := (endB_true.1 h).1
  rw [Int.toNat_natCast] at hw ⊢
  rcases way_walk hn hL.1 hm.2 hf ht with h1 | ⟨s, e, h2, h3, _, _⟩
  · exact absurd h1 hw
  rw [e, List.tail_cons]
  obtain ⟨h4, h5⟩ := addC_spec hn s L f hL.1 h2
  rw [h3] at h5
  refine ⟨⟨h4, fun x hx1 hx2 => ?_, ?_⟩, ?_⟩
  · rw [h5, hL.2.1 x hx1 hx2, if_neg (Ne.symm hx1), if_neg (Ne.symm hx2)]; rfl
  · have h6 := hL.2.2
    rw [h5, if_pos rfl, if_neg (Ne.symm hft)]; omega
  · rw [h5, if_pos rfl, if_neg (Ne.symm hft)]; omega
theorem trL_flow (h : endB n N f t = true) : ∀ (F : Nat) (L : List Int), flowP N f t L → 181 ≤ (F : Int) + outV N L f → flowP N f t (trL N n.toNat f t F L) ∧ wayV N n.toNat f t (trL N n.toNat f t F L) = []
  | 0, L, hL, hF => by
    have := outV_bd (endB_true.1 h).1 hL.1 f
    omega
  | F + 1, L, hL, hF => by
    rw [trL]
    split
    · rename_i e; exact ⟨hL, e⟩
    · rename_i e
      obtain ⟨h1, h2⟩ := flow_add h hL e
      exact trL_flow h F _ h1 (by omega)
theorem TL_flow (h : endB n N f t = true) : flowP N f t (TL n N f t) ∧ wayV N n.toNat f t (TL n N f t) = [] :=
  trL_flow h 200 _ (flow_zero (endB_true.1 h).1) (by unfold ld0; rw [outV_zero]; omega)
theorem TL_load (h : endB n N f t = true) : loadB n N f t (TL n N f t) = true := by
  obtain ⟨⟨h1, h2, h3⟩, _⟩ := TL_flow h
  exact loadB_true.2 ⟨h, h1, fun k _ _ hk1 hk2 => h2 k hk1 hk2, h3⟩
theorem TL_len (h : endB n N f t = true) : (TL n N f t).length = N.length := (chB_true.1 (TL_flow h).1.1).1
/-- the greatest traffic -/
def mostV (n : Int) (N : List Lin) (f t : Int) : Int := if endB n N f t then outV N (TL n N f t) f else -1
theorem mostV_traf (h : endB n N f t = true) : trafV n N f t (TL n N f t) = mostV n N f t := by
  unfold trafV mostV
  rw [TL_load h, h]
theorem mostV_bd (n : Int) (N : List Lin) (f t : Int) : -1 ≤ mostV n N f t ∧ mostV n N f t ≤ 180 := by
  unfold mostV
  split
  · rename_i h
    have h1 := outV_bd (endB_true.1 h).1 (TL_flow h).1.1 f
    have h2 := (TL_flow h).1.2.2
    omega
  · omega
end

end Go.Proofs.Ytnekjhpocfdpnaa
