/-
  Mathematics of ways: how many lines lead from each station to one; going down them is the least way. Nothing here speaks of the program.
-/
import Derived.Test.YtnekjhpocfdpnaaTfP
namespace Go.Proofs.Ytnekjhpocfdpnaa

/-! ## how many lines lead from each station to one -/
def oAt (O : List Int) (x : Int) : Int := O[x.toNat]?.getD 0
/-- the first k stations have been tried ahead of x -/
def stI (fr : Int → Int → Bool) (x : Int) (s : List Int × List Int) : Nat → List Int × List Int
  | 0 => s
  | k + 1 =>
    let t := stI fr x s k
    if oAt t.1 (k : Int) < 0 ∧ fr (k : Int) x = true then (t.1.set k (oAt t.1 x + 1), t.2 ++ [(k : Int)]) else t
def stO (fr : Int → Int → Bool) (m : Nat) : Nat → Nat → List Int × List Int → List Int
  | 0, _, s => s.1
  | F + 1, k, s => if k < s.2.length then stO fr m F (k + 1) (stI fr (s.2[k]?.getD 0) s m) else s.1
def st0 (m : Nat) (to : Int) : List Int × List Int := ((List.replicate m (-1)).set to.toNat 0, [to])
/-- HOW MANY LINES LEAD FROM EACH STATION TO ONE, or -1 -/
def stepL (fr : Int → Int → Bool) (m : Nat) (to : Int) : List Int := stO fr m 7 0 (st0 m to)

theorem oAt_set {O : List Int} {k : Nat} (hk : k < O.length) (v x : Int) (hx : 0 ≤ x) : oAt (O.set k v) x = if x = (k : Int) then v else oAt O x := by
  unfold oAt
  rw [List.getElem?_set]
  by_cases h : x = (k : Int)
  · subst h; simp [hk]
  · rw [if_neg (by omega), if_neg h]

/-- WHAT HOLDS OF THE NUMBERS: those of a list are told; the first k of it have been looked at -/
structure SInv (fr : Int → Int → Bool) (m : Nat) (to : Int) (O l : List Int) (k : Nat) : Prop where
  len : O.length = m
  nd : l.Nodup
  rng : ∀ x ∈ l, 0 ≤ x ∧ x < (m : Int)
  mem : ∀ x : Int, 0 ≤ x → x < (m : Int) → (x ∈ l ↔ 0 ≤ oAt O x)
  low : ∀ x : Int, 0 ≤ x → x < (m : Int) → -1 ≤ oAt O x
  bd : ∀ x ∈ l, oAt O x + 1 ≤ (l.length : Int)
  asc : l.Pairwise (fun a b => oAt O a ≤ oAt O b)
  zero : oAt O to = 0
  only : ∀ x ∈ l, oAt O x = 0 → x = to
  src : ∀ x ∈ l, 0 < oAt O x → ∃ y ∈ l, fr x y = true ∧ oAt O y = oAt O x - 1
  done : ∀ j, j < k → j < l.length → ∀ a : Int, 0 ≤ a → a < (m : Int) → fr a (l[j]?.getD 0) = true → 0 ≤ oAt O a ∧ oAt O a ≤ oAt O (l[j]?.getD 0) + 1
  near : ∀ x ∈ l, k < l.length → oAt O x ≤ oAt O (l[k]?.getD 0) + 1
  fst : l[0]?.getD 0 = to
/-- .. within a round -/
structure TInv (fr : Int → Int → Bool) (m : Nat) (to : Int) (O l : List Int) (k a : Nat) : Prop where
  inv : SInv fr m to O l k
  klt : k < l.length
  now : ∀ b : Int, 0 ≤ b → b < (a : Int) → fr b (l[k]?.getD 0) = true → 0 ≤ oAt O b ∧ oAt O b ≤ oAt O (l[k]?.getD 0) + 1

section
variable {fr : Int → Int → Bool} {m : Nat} {to : Int}
theorem at_snoc (l : List Int) (v : Int) {j : Nat} (h : j < l.length) : (l ++ [v])[j]?.getD 0 = l[j]?.getD 0 := by
  rw [List.getElem?_append_left h]
theorem mem_at {l : List Int} {j : Nat} (h : j < l.length) : l[j]?.getD 0 ∈ l := by
  rw [List.getElem?_eq_getElem h]; simp

theorem SInv.put {O l : List Int} {k a : Nat} (h : SInv fr m to O l k) (hk : k < l.length) (ha : a < m) (hn : oAt O (a : Int) < 0) (hf : fr (a : Int) (l[k]?.getD 0) = true) :
    SInv fr m to (O.set a (oAt O (l[k]?.getD 0) + 1)) (l ++ [(a : Int)]) k := by
  have hx := mem_at hk
  have hxr := h.rng _ hx
  obtain ⟨x, ex⟩ : ∃ x, l[k]?.getD 0 = x := ⟨_, rfl⟩
  rw [ex] at hx hxr hf ⊢
  have hlen := h.len
  have hx0 := (h.mem x hxr.1 hxr.2).1 hx
  have hal : (a : Int) ∉ l := fun h1 => by
    have := (h.mem _ (by omega) (by omega)).1 h1; omega
  have hset : ∀ y : Int, 0 ≤ y → oAt (O.set a (oAt O x + 1)) y = if y = (a : Int) then oAt O x + 1 else oAt O y := fun y hy => oAt_set (by omega) _ y hy
  have hold : ∀ y ∈ l, oAt (O.set a (oAt O x + 1)) y = oAt O y := fun y hy => by
    rw [hset y (h.rng y hy).1, if_neg (fun e : y = (a : Int) => hal (e ▸ hy))]
  have hnew : oAt (O.set a (oAt O x + 1)) (a : Int) = oAt O x + 1 := by rw [hset _ (by omega), if_pos rfl]
  have hmem : ∀ y, y ∈ l ++ [(a : Int)] ↔ y ∈ l ∨ y = (a : Int) := by intro y; simp
  have hnear := fun y hy => h.near y hy hk
  rw [ex] at hnear
  have hto : to ∈ l := by
    have := mem_at (l := l) (j := 0) (by omega)
    rwa [h.fst] at this
  refine ⟨by simpa using hlen, ?_, ?_, ?_, ?_, ?_, ?_, ?_, ?_, ?_, ?_, ?_, ?_⟩
  · refine List.nodup_append.2 ⟨h.nd, by simp, ?_⟩
    intro y hy z hz e
    simp at hz; subst hz; subst e
    exact hal hy
  · intro y hy
    rcases (hmem y).1 hy with h1 | rfl
    · exact h.rng y h1
    · omega
  · intro y h0 h1
    rw [hmem, hset y h0]
    by_cases e : y = (a : Int)
    · simp [e]; omega
    · simp only [e, or_false, if_false]; exact h.mem y h0 h1
  · intro y h0 h1
    rw [hset y h0]
    split
    · omega
    · exact h.low y h0 h1
  · intro y hy
    rw [List.length_append]
    rcases (hmem y).1 hy with h1 | rfl
    · rw [hold y h1]; have := h.bd y h1; simp; omega
    · rw [hnew]; have := h.bd x hx; simp; omega
  · rw [List.pairwise_append]
    refine ⟨?_, by simp, ?_⟩
    · refine h.asc.imp_of_mem ?_
      intro y z hy hz hle
      rw [hold y hy, hold z hz]; exact hle
    · intro y hy z hz
      simp at hz; subst hz
      rw [hold y hy, hnew]; exact hnear y hy
  · rw [hold to hto]; exact h.zero
  · intro y hy
    rcases (hmem y).1 hy with h1 | rfl
    · rw [hold y h1]; exact h.only y h1
    · rw [hnew]; intro e; omega
  · intro y hy
    rcases (hmem y).1 hy with h1 | rfl
    · rw [hold y h1]
      intro hp
      obtain ⟨z, hz, h2, h3⟩ := h.src y h1 hp
      exact ⟨z, by simp [hz], h2, by rw [hold z hz]; exact h3⟩
    · rw [hnew]
      intro _
      exact ⟨x, by simp [hx], hf, by rw [hold x hx]; omega⟩
  · intro j hj hjl b h0 h1 hfb
    have hjl2 : j < l.length := by omega
    rw [at_snoc l _ hjl2] at hfb ⊢
    have hm := mem_at hjl2
    rw [hold _ hm, hset b h0]
    have h2 := h.done j hj hjl2 b h0 h1 hfb
    split
    · rename_i e; subst e; omega
    · exact h2
  · intro y hy _
    rw [at_snoc l _ hk, ex, hold x hx]
    rcases (hmem y).1 hy with h1 | rfl
    · rw [hold y h1]; exact hnear y h1
    · rw [hnew]; omega
  · rw [at_snoc l _ (by omega)]; exact h.fst

theorem TInv.step {O l : List Int} {k a : Nat} (h : TInv fr m to O l k a) (ha : a < m) :
    (oAt O (a : Int) < 0 ∧ fr (a : Int) (l[k]?.getD 0) = true → TInv fr m to (O.set a (oAt O (l[k]?.getD 0) + 1)) (l ++ [(a : Int)]) k (a + 1)) ∧
    (¬ (oAt O (a : Int) < 0 ∧ fr (a : Int) (l[k]?.getD 0) = true) → TInv fr m to O l k (a + 1)) := by
  have hxr := h.inv.rng _ (mem_at h.klt)
  have hx0 := (h.inv.mem _ hxr.1 hxr.2).1 (mem_at h.klt)
  constructor
  · rintro ⟨hn, hf⟩
    refine ⟨h.inv.put h.klt ha hn hf, by simp; have := h.klt; omega, ?_⟩
    intro b h0 h1 hfb
    rw [at_snoc l _ h.klt] at hfb ⊢
    have hlen := h.inv.len
    rw [oAt_set (by omega) _ b h0, oAt_set (by omega) _ _ hxr.1]
    have hne : l[k]?.getD 0 ≠ (a : Int) := fun e => by rw [e] at hx0; omega
    rw [if_neg hne]
    split
    · omega
    · exact h.now b h0 (by omega) hfb
  · intro hc
    refine ⟨h.inv, h.klt, ?_⟩
    intro b h0 h1 hfb
    by_cases e : b = (a : Int)
    · subst e
      have h2 : ¬ oAt O (a : Int) < 0 := fun h3 => hc ⟨h3, hfb⟩
      have h3 := h.inv.near _ ((h.inv.mem _ h0 (by omega)).2 (by omega)) h.klt
      omega
    · exact h.now b h0 (by omega) hfb

theorem SInv.next {O l : List Int} {k : Nat} (h : TInv fr m to O l k m) : SInv fr m to O l (k + 1) := by
  have h' := h.inv
  refine ⟨h'.len, h'.nd, h'.rng, h'.mem, h'.low, h'.bd, h'.asc, h'.zero, h'.only, h'.src, ?_, ?_, h'.fst⟩
  · intro j hj hl a h0 h1 hf
    rcases (by omega : j < k ∨ j = k) with h2 | rfl
    · exact h'.done j h2 hl a h0 h1 hf
    · exact h.now a h0 h1 hf
  · intro x hx hk
    have h1 := h'.near x hx h.klt
    have h2 : oAt O (l[k]?.getD 0) ≤ oAt O (l[k + 1]?.getD 0) := by
      have hp := List.pairwise_iff_getElem.1 h'.asc k (k + 1) h.klt hk (by omega)
      rw [List.getElem?_eq_getElem h.klt, List.getElem?_eq_getElem hk]
      exact hp
    omega
theorem TInv.begin {O l : List Int} {k : Nat} (h : SInv fr m to O l k) (hk : k < l.length) : TInv fr m to O l k 0 := ⟨h, hk, fun b h0 h1 _ => by omega⟩

theorem stI_at (s : List Int × List Int) (x : Int) {k : Nat} (hk : k < s.2.length) : ∀ a, (stI fr x s a).2[k]?.getD 0 = s.2[k]?.getD 0 ∧ s.2.length ≤ (stI fr x s a).2.length
  | 0 => ⟨rfl, Nat.le_refl _⟩
  | a + 1 => by
    obtain ⟨h1, h2⟩ := stI_at s x hk a
    rw [stI]
    split
    · exact ⟨by rw [at_snoc _ _ (by omega)]; exact h1, by simp; omega⟩
    · exact ⟨h1, h2⟩
theorem stI_inv {O l : List Int} {k : Nat} (h : SInv fr m to O l k) (hk : k < l.length) : ∀ a, a ≤ m → TInv fr m to (stI fr (l[k]?.getD 0) (O, l) a).1 (stI fr (l[k]?.getD 0) (O, l) a).2 k a
  | 0, _ => TInv.begin h hk
  | a + 1, ha => by
    have ih := stI_inv h hk a (by omega)
    have h1 := (stI_at (fr := fr) (O, l) (l[k]?.getD 0) (k := k) hk a).1
    have h2 := ih.step (by omega)
    rw [h1] at h2
    rw [stI]
    split
    · rename_i hc; exact h2.1 hc
    · rename_i hc; exact h2.2 hc
theorem nodup_few : ∀ (n : Nat) (l : List Int), l.Nodup → (∀ x ∈ l, 0 ≤ x ∧ x < (n : Int)) → l.length ≤ n
  | 0, l, _, h => by
    cases l with
    | nil => simp
    | cons x t => have := h x (by simp); omega
  | n + 1, l, hd, h => by
    have h1 := nodup_few n (l.filter (fun x => decide (x ≠ (n : Int)))) (hd.filter _) (fun x hx => by
      obtain ⟨h2, h3⟩ := List.mem_filter.1 hx
      have := h x h2
      simp at h3
      omega)
    have h4 : l.length ≤ (l.filter (fun x => decide (x ≠ (n : Int)))).length + 1 := by
      have h5 := List.nodup_iff_count.1 hd (n : Int)
      have h6 : l.length = (l.filter (fun x => decide (x ≠ (n : Int)))).length + l.count (n : Int) := by
        clear h1 hd h h5
        induction l with
        | nil => rfl
        | cons y t ih =>
          rw [List.filter_cons, List.count_cons, List.length_cons]
          by_cases e : y = (n : Int)
          · subst e; simp; have := ih; simp at this; omega
          · simp [e]; simpa using (by omega : t.length + 1 = (t.filter (fun x => decide (x ≠ (n : Int)))).length + 1 + t.count (n : Int))
      omega
    omega
theorem SInv.few {O l : List Int} {k : Nat} (h : SInv fr m to O l k) : l.length ≤ m := nodup_few m l h.nd h.rng
theorem SInv.start (hto : 0 ≤ to ∧ to < (m : Int)) : SInv fr m to (st0 m to).1 (st0 m to).2 0 := by
  have hlt : to.toNat < (List.replicate m (-1 : Int)).length := by simp; omega
  have hrep : ∀ x : Int, 0 ≤ x → x < (m : Int) → oAt (List.replicate m (-1 : Int)) x = -1 := fun x h0 h1 => by
    unfold oAt
    rw [List.getElem?_replicate, if_pos (by omega)]
    rfl
  have hset : ∀ y : Int, 0 ≤ y → y < (m : Int) → oAt (st0 m to).1 y = if y = to then 0 else -1 := fun y h0 h1 => by
    unfold st0
    dsimp only
    rw [oAt_set hlt _ y h0, hrep y h0 h1]
    by_cases e : y = to
    · subst e; rw [if_pos (by omega), if_pos rfl]
    · rw [if_neg (by omega), if_neg e]
  have hz : oAt (st0 m to).1 to = 0 := by rw [hset to hto.1 hto.2, if_pos rfl]
  refine ⟨by simp [st0], by simp [st0], ?_, ?_, ?_, ?_, by simp [st0], hz, ?_, ?_, ?_, ?_, rfl⟩
  · intro x hx; simp [st0] at hx; subst hx; exact hto
  · intro x h0 h1
    rw [hset x h0 h1]
    simp only [st0, List.mem_singleton]
    by_cases e : x = to <;> simp [e]
  · intro x h0 h1
    rw [hset x h0 h1]
    split <;> omega
  · intro x hx; simp [st0] at hx; subst hx; rw [hz]; simp [st0]
  · intro x hx; simp [st0] at hx; intro _; exact hx
  · intro x hx; simp [st0] at hx; subst hx; rw [hz]; intro h; omega
  · intro j hj; omega
  · intro x hx _; simp [st0] at hx; subst hx; show oAt _ _ ≤ oAt _ _ + 1; simp only [st0, List.getElem?_cons_zero, Option.getD_some]; omega

/-- WHAT THE NUMBERS SAY -/
structure Dst (fr : Int → Int → Bool) (m : Nat) (to : Int) (O : List Int) : Prop where
  len : O.length = m
  zero : oAt O to = 0
  low : ∀ x : Int, 0 ≤ x → x < (m : Int) → -1 ≤ oAt O x ∧ oAt O x ≤ (m : Int)
  only : ∀ x : Int, 0 ≤ x → x < (m : Int) → oAt O x = 0 → x = to
  step : ∀ x : Int, 0 ≤ x → x < (m : Int) → 0 ≤ oAt O x → ∀ a : Int, 0 ≤ a → a < (m : Int) → fr a x = true → 0 ≤ oAt O a ∧ oAt O a ≤ oAt O x + 1
  src : ∀ x : Int, 0 ≤ x → x < (m : Int) → 0 < oAt O x → ∃ y : Int, (0 ≤ y ∧ y < (m : Int)) ∧ fr x y = true ∧ oAt O y = oAt O x - 1
theorem SInv.dst {O l : List Int} {k : Nat} (h : SInv fr m to O l k) (hk : l.length ≤ k) : Dst fr m to O := by
  refine ⟨h.len, h.zero, ?_, ?_, ?_, ?_⟩
  · intro x h0 h1
    refine ⟨h.low x h0 h1, ?_⟩
    by_cases hx : x ∈ l
    · have := h.bd x hx; have := h.few; omega
    · have := mt (h.mem x h0 h1).2 hx; omega
  · intro x h0 h1 e
    exact h.only x ((h.mem x h0 h1).2 (by omega)) e
  · intro x h0 h1 hx a ha0 ha1 hf
    have hm := (h.mem x h0 h1).2 hx
    obtain ⟨j, hj, e⟩ := List.getElem_of_mem hm
    have e2 : l[j]?.getD 0 = x := by rw [List.getElem?_eq_getElem hj]; exact e
    have := h.done j (by omega) hj a ha0 ha1 (by rw [e2]; exact hf)
    rwa [e2] at this
  · intro x h0 h1 hx
    obtain ⟨y, hy, h2, h3⟩ := h.src x ((h.mem x h0 h1).2 (by omega)) hx
    exact ⟨y, h.rng y hy, h2, h3⟩
theorem stO_inv (hm : m ≤ 6) : ∀ (F k : Nat) (s : List Int × List Int), SInv fr m to s.1 s.2 k → 7 ≤ F + k → Dst fr m to (stO fr m F k s)
  | 0, k, s, h, hF => h.dst (by have := h.few; omega)
  | F + 1, k, s, h, hF => by
    rw [stO]
    split
    · rename_i hk
      exact stO_inv hm F (k + 1) _ (SInv.next (stI_inv h hk m (Nat.le_refl _))) (by omega)
    · exact h.dst (by omega)
theorem stepL_dst (hm : m ≤ 6) (hto : 0 ≤ to ∧ to < (m : Int)) : Dst fr m to (stepL fr m to) := stO_inv hm 7 0 _ (SInv.start hto) (by omega)

/-! ## down the numbers -/
/-- the least station, from k on, that has a free line from a and is one line nearer -/
def nxtS (fr : Int → Int → Bool) (m : Nat) (O : List Int) (a : Int) : Int :=
  ((List.range m).find? (fun (i : Nat) => fr a (i : Int) && decide (oAt O (i : Int) = oAt O a - 1))).elim 0 (fun (i : Nat) => (i : Int))
def grd (fr : Int → Int → Bool) (m : Nat) (O : List Int) : Nat → Int → List Int
  | 0, _ => []
  | F + 1, a => nxtS fr m O a :: grd fr m O F (nxtS fr m O a)
theorem nxtS_of {O : List Int} {a : Int} {y : Nat} (hy : y < m) (h : (fr a (y : Int) && decide (oAt O (y : Int) = oAt O a - 1)) = true) (hno : ∀ z : Nat, z < y → (fr a (z : Int) && decide (oAt O (z : Int) = oAt O a - 1)) = false) : nxtS fr m O a = (y : Int) := by
  have : (List.range m).find? (fun (i : Nat) => fr a (i : Int) && decide (oAt O (i : Int) = oAt O a - 1)) = some y := by
    rw [List.find?_eq_some_iff_append]
    refine ⟨h, List.range y, (List.range (m - (y + 1))).map (fun i => y + 1 + i), ?_, ?_⟩
    · have e1 : m = y + (1 + (m - (y + 1))) := by omega
      conv => lhs; rw [e1]
      rw [List.range_add, Nat.add_comm 1, List.range_succ_eq_map]
      simp [List.map_map, Function.comp_def]
      intro a _; omega
    · intro z hz
      rw [hno z (List.mem_range.1 hz)]; rfl
  unfold nxtS
  rw [this]
  rfl
theorem nxtS_spec {O : List Int} (h : Dst fr m to O) {a : Int} (h0 : 0 ≤ a) (h1 : a < (m : Int)) (hp : 0 < oAt O a) :
    ∃ y : Nat, nxtS fr m O a = (y : Int) ∧ y < m ∧ fr a (y : Int) = true ∧ oAt O (y : Int) = oAt O a - 1 ∧ ∀ z : Nat, z < y → (fr a (z : Int) && decide (oAt O (z : Int) = oAt O a - 1)) = false := by
  unfold nxtS
  cases hfi : (List.range m).find? (fun (i : Nat) => fr a (i : Int) && decide (oAt O (i : Int) = oAt O a - 1)) with
  | none =>
    obtain ⟨y, ⟨hy0, hy1⟩, hf, he⟩ := h.src a h0 h1 hp
    have := List.find?_eq_none.1 hfi y.toNat (List.mem_range.2 (by omega))
    rw [Int.toNat_of_nonneg hy0] at this
    simp [hf, he] at this
  | some y =>
    obtain ⟨h2, as, bs, e, h3⟩ := List.find?_eq_some_iff_append.1 hfi
    have hm : y ∈ List.range m := by rw [e]; simp
    have hal : as.length = y := by
      have hlt : as.length < (List.range m).length := by rw [e]; simp
      have : (List.range m)[as.length]? = some y := by rw [e]; simp
      rw [List.getElem?_eq_getElem hlt, List.getElem_range] at this
      exact Option.some.inj this
    rw [Bool.and_eq_true, decide_eq_true_eq] at h2
    refine ⟨y, rfl, List.mem_range.1 hm, h2.1, h2.2, fun z hz => ?_⟩
    have hz2 : z ∈ as := by
      have hlt : z < (List.range m).length := by rw [e]; simp; omega
      have h4 : (List.range m)[z]? = some z := by rw [List.getElem?_eq_getElem hlt, List.getElem_range]
      rw [e, List.getElem?_append_left (by omega)] at h4
      exact List.mem_of_getElem? h4
    have := h3 z hz2
    simpa only [Bool.not_eq_true'] using this

/-- lines lead to a station at least as far as they are told -/
theorem Dst.far {O : List Int} (h : Dst fr m to O) : ∀ (s : List Int) (a : Int), 0 ≤ a → a < (m : Int) → Ch fr m a s → lst a s = to → 0 ≤ oAt O a ∧ oAt O a ≤ (s.length : Int)
  | [], a, h0, h1, _, e => by
    rw [lst] at e; subst e
    rw [h.zero]; simp
  | x :: s, a, h0, h1, hs, e => by
    obtain ⟨⟨hf, hx0, hx1⟩, hs⟩ := hs
    have h2 := h.far s x hx0 hx1 hs e
    have h3 := h.step x hx0 hx1 h2.1 a h0 h1 hf
    rw [List.length_cons]
    omega
theorem Dst.grd_ch {O : List Int} (h : Dst fr m to O) : ∀ (F : Nat) (a : Int), 0 ≤ a → a < (m : Int) → oAt O a = (F : Int) → Ch fr m a (grd fr m O F a) ∧ lst a (grd fr m O F a) = to ∧ (grd fr m O F a).length = F
  | 0, a, h0, h1, e => ⟨trivial, h.only a h0 h1 e, rfl⟩
  | F + 1, a, h0, h1, e => by
    obtain ⟨y, e2, hy, hf, he, _⟩ := nxtS_spec h h0 h1 (by omega)
    obtain ⟨h3, h4, h5⟩ := h.grd_ch F (y : Int) (by omega) (by omega) (by omega)
    rw [grd, e2]
    exact ⟨⟨⟨hf, by omega, by omega⟩, h3⟩, h4, by simp [h5]⟩
theorem Dst.grd_least {O : List Int} (h : Dst fr m to O) : ∀ (F : Nat) (a : Int) (s : List Int), 0 ≤ a → a < (m : Int) → oAt O a = (F : Int) → Ch fr m a s → lst a s = to → s.length = F → lexB s (grd fr m O F a) = false
  | 0, a, s, h0, h1, e, hs, hl, hn => by
    obtain rfl := List.length_eq_zero_iff.1 hn
    rfl
  | F + 1, a, [], h0, h1, e, hs, hl, hn => by simp at hn
  | F + 1, a, x :: s, h0, h1, e, hs, hl, hn => by
    obtain ⟨y, e2, hy, hf, he, hno⟩ := nxtS_spec h h0 h1 (by omega)
    obtain ⟨⟨hfx, hx0, hx1⟩, hs⟩ := hs
    have h2 := h.far s x hx0 hx1 hs hl
    have h3 := h.step x hx0 hx1 h2.1 a h0 h1 hfx
    simp only [List.length_cons] at hn
    have hox : oAt O x = oAt O a - 1 := by omega
    rw [grd, e2, lexB]
    by_cases hxy : x = (y : Int)
    · rw [if_pos hxy]
      subst hxy
      exact h.grd_least F (y : Int) s hx0 hx1 (by omega) hs hl (by omega)
    · rw [if_neg hxy, decide_eq_false_iff_not]
      intro hlt
      have h4 := hno x.toNat (by omega)
      rw [Int.toNat_of_nonneg hx0, hfx] at h4
      simp [hox] at h4
/-- GOING DOWN THE NUMBERS IS THE LEAST WAY -/
theorem Dst.least {O : List Int} (h : Dst fr m to O) {f : Int} (h0 : 0 ≤ f) (h1 : f < (m : Int)) {F : Nat} (e : oAt O f = (F : Int)) : leastW fr m f to (f :: grd fr m O F f) := by
  obtain ⟨h2, h3, h4⟩ := h.grd_ch F f h0 h1 e
  refine ⟨⟨⟨_, rfl, h2⟩, by rw [lst_lastI]; exact h3⟩, ?_⟩
  rintro r ⟨s, rfl, hs⟩ er
  rw [lst_lastI] at er
  have h5 := h.far s f h0 h1 hs er
  rcases Nat.lt_or_ge F s.length with h6 | h6
  · exact .inr (.inl (by simp [h4]; omega))
  · have h7 := h.grd_least F f s h0 h1 e hs er (by omega)
    by_cases h8 : lexB (grd fr m O F f) s = true
    · exact .inr (.inr ⟨by simp [h4]; omega, by rw [lexB, if_pos rfl]; exact h8⟩)
    · left
      rw [lexB_total (by omega) (by simpa using h8) h7]
theorem Dst.none {O : List Int} (h : Dst fr m to O) {f : Int} (h0 : 0 ≤ f) (h1 : f < (m : Int)) (e : oAt O f < 0) : ∀ r, Pth fr m f r → lastI r ≠ to := by
  rintro r ⟨s, rfl, hs⟩ er
  rw [lst_lastI] at er
  have := h.far s f h0 h1 hs er
  omega
end

end Go.Proofs.Ytnekjhpocfdpnaa
