/-
  Mathematics of crossings: orders counted by their last route. Nothing here speaks of the program.
-/
import Derived.Test.YtjboamhjfncgdaaRtZ
namespace Go.Proofs.Ytjboamhjfncgdaa

def lessL (l : List Nat) (k : Nat) : List Nat := l.filter fun i => decide (i ≠ k)
theorem lessL_mem {l : List Nat} {k i : Nat} : i ∈ lessL l k ↔ i ∈ l ∧ i ≠ k := by unfold lessL; rw [List.mem_filter, decide_eq_true_eq]
theorem lessL_comm (l : List Nat) (k j : Nat) : lessL (lessL l k) j = lessL (lessL l j) k := by
  unfold lessL; rw [List.filter_filter, List.filter_filter]; exact List.filter_congr fun i _ => Bool.and_comm _ _
/-- of those that are left, this one can be lifted last -/
def lastS (R : List Rot) (l : List Nat) (k : Nat) : Bool := decide (k ∈ l) && (List.range k).all fun i => !(decide (i ∈ l) && crI R i k)
theorem lastS_true {R : List Rot} {l : List Nat} {k : Nat} : lastS R l k = true ↔ k ∈ l ∧ ∀ i, i < k → i ∈ l → crI R i k = false := by
  unfold lastS
  rw [Bool.and_eq_true, decide_eq_true_eq, List.all_eq_true]
  refine and_congr_right fun _ => ⟨fun h i h1 h2 => ?_, fun h i hi => ?_⟩
  · have := h i (List.mem_range.2 h1)
    rw [decide_eq_true h2] at this
    simpa using this
  · by_cases h2 : i ∈ l
    · rw [h i (List.mem_range.1 hi) h2, Bool.and_false]; rfl
    · rw [decide_eq_false h2, Bool.false_and]; rfl
theorem pair_same {R : List Rot} {l : List Nat} {k j : Nat} (hl : ∀ x ∈ l, x < R.length) : (okS R l k && lastS R (lessL l k) j) = (lastS R l j && okS R (lessL l j) k) := by
  refine Bool.eq_iff_iff.2 ?_
  rw [Bool.and_eq_true, Bool.and_eq_true, okS_true, okS_true, lastS_true, lastS_true, lessL_mem, lessL_mem]
  constructor
  · rintro ⟨⟨h1, h2⟩, ⟨h3, h4⟩, h5⟩
    refine ⟨⟨h3, fun i hi hil => ?_⟩, ⟨h1, fun e => h4 e.symm⟩, fun i hi hin hc hm => h2 i hi hin hc (lessL_mem.1 hm).1⟩
    by_cases e : i = k
    · subst e
      cases hc : crI R i j
      · rfl
      · exact absurd h3 (h2 j hi (hl j h3) (by rw [crI_comm]; exact hc))
    · exact h5 i hi (lessL_mem.2 ⟨hil, e⟩)
  · rintro ⟨⟨h1, h2⟩, ⟨h3, h4⟩, h5⟩
    refine ⟨⟨h3, fun i hi hin hc hm => ?_⟩, ⟨h1, fun e => h4 e.symm⟩, fun i hi hm => h2 i hi (lessL_mem.1 hm).1⟩
    by_cases e : i = j
    · subst e
      have := h2 k hi h3
      rw [crI_comm, hc] at this
      cases this
    · exact h5 i hi hin hc (lessL_mem.2 ⟨hm, e⟩)
theorem sumTo_plus (f g : Nat → Nat) : ∀ m, sumTo (fun k => f k + g k) m = sumTo f m + sumTo g m
  | 0 => rfl
  | m + 1 => by rw [sumTo_succ, sumTo_succ, sumTo_succ, sumTo_plus f g m]; omega
theorem sumTo_none : ∀ m, sumTo (fun _ => 0) m = 0
  | 0 => rfl
  | m + 1 => by rw [sumTo_succ, sumTo_none m]
theorem sumTo_comm (a : Nat → Nat → Nat) (n : Nat) : ∀ m, sumTo (fun k => sumTo (fun j => a k j) n) m = sumTo (fun j => sumTo (fun k => a k j) m) n
  | 0 => (sumTo_none n).symm
  | m + 1 => by
    rw [sumTo_succ, sumTo_comm a n m, ← sumTo_plus]
    exact sumTo_congr fun j _ => (sumTo_succ _ _).symm
theorem sumTo_if (p : Bool) (g : Nat → Nat) (n : Nat) : (if p then sumTo g n else 0) = sumTo (fun j => if p then g j else 0) n := by
  cases p
  · exact (sumTo_none n).symm
  · rfl
theorem mS_last_first {R : List Rot} : ∀ f l, l.length = f + 1 → l.Nodup → (∀ x ∈ l, x < R.length) → mS R (f + 1) l = sumTo (fun k => if lastS R l k then mS R f (lessL l k) else 0) R.length
  | 0, l, hl, _, _ => by
    obtain ⟨a, rfl⟩ := List.length_eq_one_iff.1 hl
    rw [mS_succ]
    unfold mSto
    refine sumTo_congr fun k _ => ?_
    have : okS R [a] k = lastS R [a] k := by
      refine Bool.eq_iff_iff.2 ?_
      rw [okS_true, lastS_true]
      refine and_congr_right fun hk => ⟨fun _ i hi hm => ?_, fun _ i hi _ _ hm => ?_⟩
      · rw [List.mem_singleton] at hk hm; omega
      · rw [List.mem_singleton] at hk hm; omega
    rw [this]; rfl
  | f + 1, l, hl, hd, hb => by
    rw [mS_succ]
    unfold mSto
    have h1 : sumTo (fun k => if okS R l k then mS R (f + 1) (l.filter fun i => decide (i ≠ k)) else 0) R.length = sumTo (fun k => sumTo (fun j => if okS R l k && lastS R (lessL l k) j then mS R f (lessL (lessL l k) j) else 0) R.length) R.length := by
      refine sumTo_congr fun k _ => ?_
      cases ho : okS R l k
      · simp [sumTo_none]
      · have hm := (okS_true.1 ho).1
        have h2 := len_less hd hm
        have := mS_last_first f (lessL l k) (by unfold lessL; omega) (hd.sublist List.filter_sublist) fun x hx => hb x (lessL_mem.1 hx).1
        simp only [if_true, Bool.true_and]
        exact this
    have h3 : sumTo (fun k => if lastS R l k then mS R (f + 1) (lessL l k) else 0) R.length = sumTo (fun j => sumTo (fun k => if lastS R l j && okS R (lessL l j) k then mS R f (lessL (lessL l j) k) else 0) R.length) R.length := by
      refine sumTo_congr fun j _ => ?_
      cases ho : lastS R l j
      · simp [sumTo_none]
      · simp only [if_true, Bool.true_and]
        rfl
    rw [h1, h3, sumTo_comm]
    refine sumTo_congr fun j _ => sumTo_congr fun k _ => ?_
    rw [pair_same hb, lessL_comm]

/-! ### all but one -/
def skN (k a : Nat) : Nat := if a < k then a else a + 1
theorem skN_lo {k a : Nat} (h : a < k) : skN k a = a := by unfold skN; rw [if_pos h]
theorem skN_hi {k a : Nat} (h : k ≤ a) : skN k a = a + 1 := by unfold skN; rw [if_neg (by omega)]
theorem skN_lt {k a b : Nat} : skN k a < skN k b ↔ a < b := by unfold skN; split <;> split <;> omega
theorem skN_inj {k a b : Nat} : skN k a = skN k b ↔ a = b := by unfold skN; split <;> split <;> omega
theorem skN_not (k a : Nat) : skN k a ≠ k := by unfold skN; split <;> omega
theorem skN_of {k i : Nat} (h : i ≠ k) : ∃ a, i = skN k a := by
  rcases (by omega : i < k ∨ k < i) with h1 | h1
  · exact ⟨i, by rw [skN_lo h1]⟩
  · exact ⟨i - 1, by rw [skN_hi (by omega)]; omega⟩
theorem sumTo_skip (g : Nat → Nat) (k : Nat) : ∀ m, k ≤ m → sumTo g (m + 1) = sumTo (fun a => g (skN k a)) m + g k
  | 0, h => by obtain rfl : k = 0 := by omega
               rw [sumTo_succ, sumTo_zero, sumTo_zero]
  | m + 1, h => by
    rcases (by omega : k ≤ m ∨ k = m + 1) with h1 | rfl
    · rw [sumTo_succ, sumTo_skip g k m h1, sumTo_succ, skN_hi h1]; omega
    · rw [sumTo_succ]
      congr 1
      exact sumTo_congr fun a ha => by rw [skN_lo ha]
theorem range_skip (k : Nat) : ∀ m, k ≤ m → lessL (List.range (m + 1)) k = (List.range m).map (skN k)
  | 0, h => by obtain rfl : k = 0 := by omega
               rfl
  | m + 1, h => by
    unfold lessL
    rw [List.range_succ, List.filter_append]
    rcases (by omega : k ≤ m ∨ k = m + 1) with h1 | rfl
    · have := range_skip k m h1
      unfold lessL at this
      rw [this, List.range_succ, List.map_append]
      have e : decide (m + 1 ≠ k) = true := decide_eq_true (by omega)
      rw [List.filter_cons, if_pos e, List.map_cons, List.map_nil, skN_hi h1]; rfl
    · have e1 : (List.range (m + 1)).filter (fun i => decide (i ≠ m + 1)) = List.range (m + 1) := List.filter_eq_self.2 fun a ha => decide_eq_true (by have := List.mem_range.1 ha; omega)
      have e2 : (List.range (m + 1)).map (skN (m + 1)) = List.range (m + 1) := by
        refine (List.map_congr_left fun a ha => ?_).trans (List.map_id _)
        rw [skN_lo (List.mem_range.1 ha)]; rfl
      rw [e1, e2]
      simp [List.filter]
theorem mS_skip {R D : List Rot} {k : Nat} (hlen : R.length = D.length + 1) (hk : k ≤ D.length) (hat : ∀ a, rotAt D a = rotAt R (skN k a)) : ∀ f l, (∀ x ∈ l, x < D.length) → mS R f (l.map (skN k)) = mS D f l
  | 0, _, _ => rfl
  | f + 1, l, hl => by
    rw [mS_succ, mS_succ]
    unfold mSto
    rw [hlen, sumTo_skip _ k D.length hk]
    have hno : okS R (l.map (skN k)) k = false := by
      refine Bool.eq_false_iff.2 fun h => ?_
      obtain ⟨a, _, e⟩ := List.mem_map.1 (okS_true.1 h).1
      exact skN_not k a e
    rw [hno]
    simp only [Bool.false_eq_true, if_false, Nat.add_zero]
    refine sumTo_congr fun a _ => ?_
    have ho : okS R (l.map (skN k)) (skN k a) = okS D l a := by
      refine Bool.eq_iff_iff.2 ?_
      rw [okS_true, okS_true]
      have hm : ∀ b, skN k b ∈ l.map (skN k) ↔ b ∈ l := fun b => by
        rw [List.mem_map]
        exact ⟨fun ⟨c, hc, e⟩ => by rw [← skN_inj.1 e]; exact hc, fun h => ⟨b, h, rfl⟩⟩
      have hcI : ∀ i j, crI R (skN k i) (skN k j) = crI D i j := fun i j => by unfold crI; rw [hat, hat]
      rw [hm]
      refine and_congr_right fun _ => ⟨fun h i h1 _ h3 h4 => ?_, fun h i h1 _ h3 h4 => ?_⟩
      · have h5 := hl i h4
        refine h (skN k i) (skN_lt.2 h1) ?_ (by rw [hcI]; exact h3) ((hm i).2 h4)
        unfold skN; split <;> omega
      · obtain ⟨b, hb, rfl⟩ := List.mem_map.1 h4
        rw [hcI] at h3
        exact h b (skN_lt.1 h1) (hl b hb) h3 hb
    have hf : (l.map (skN k)).filter (fun i => decide (i ≠ skN k a)) = (l.filter fun i => decide (i ≠ a)).map (skN k) := by
      rw [List.filter_map]
      congr 1
      refine List.filter_congr fun i _ => ?_
      have := @skN_inj k i a
      by_cases h : i = a
      · subst h; simp
      · have h2 : ¬ skN k i = skN k a := fun e => h (this.1 e)
        simp [h, h2]
    rw [ho, hf, mS_skip hlen hk hat f _ fun x hx => hl x (List.mem_filter.1 hx).1]
theorem many_pos : ∀ R : List Rot, 1 ≤ mS R R.length (List.range R.length)
  | [] => by simp [mS]
  | r :: R => Nat.le_trans (many_pos R) (many_first r R)
end Go.Proofs.Ytjboamhjfncgdaa
