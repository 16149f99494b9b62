/-
  Plain mathematics of the laws SignalOf and SignalRead: what is sent is read, what is read is sent. Nothing here speaks of the program.
-/
import Derived.Test.YtgnolhikphoagaaDoorSgR
import Derived.Test.YtgnolhikphoagaaDoorSgL
namespace Go.Proofs.YtgnolhikphoagaaDoor

theorem join_two (x y : List UInt8) (r : List (List UInt8)) : Lib.join (x :: y :: r) [48] = x ++ [48] ++ Lib.join (y :: r) [48] := by
  rw [Lib.join_cons, Lib.join_cons]
  simp [Lib.joinTail]
theorem join_both : ∀ X Y : List (List UInt8), X ≠ [] → Y ≠ [] → Lib.join (X ++ Y) [48] = Lib.join X [48] ++ [48] ++ Lib.join Y [48]
  | [], _, h, _ => absurd rfl h
  | [x], [], _, h => absurd rfl h
  | [x], y :: Y, _, _ => by rw [Lib.join_one]; exact join_two x y Y
  | x :: z :: X, Y, _, hY => by
    have ih := join_both (z :: X) Y (by simp) hY
    rw [List.cons_append, List.cons_append, join_two, ← List.cons_append, ih, join_two]
    simp
/-- no gap in a part -/
def noG (x : List UInt8) : Prop := ∀ c ∈ x, c ≠ 48
theorem split_part : ∀ (x l : List UInt8), noG x → splitL (x ++ 48 :: l) = x :: splitL l
  | [], l, _ => rfl
  | c :: x, l, h => by
    have hc : c ≠ 48 := h c (List.mem_cons_self ..)
    have ih := split_part x l (fun d hd => h d (List.mem_cons_of_mem _ hd))
    rw [List.cons_append]
    conv => lhs; unfold splitL
    rw [if_neg hc, ih]
    rfl
theorem split_none : ∀ x : List UInt8, noG x → splitL x = [x]
  | [], _ => rfl
  | c :: x, h => by
    have hc : c ≠ 48 := h c (List.mem_cons_self ..)
    have ih := split_none x (fun d hd => h d (List.mem_cons_of_mem _ hd))
    conv => lhs; unfold splitL
    rw [if_neg hc, ih]
    rfl
theorem split_join : ∀ X : List (List UInt8), X ≠ [] → (∀ x ∈ X, noG x) → splitL (Lib.join X [48]) = X
  | [], h, _ => absurd rfl h
  | [x], _, h => by rw [Lib.join_one]; exact split_none x (h x (List.mem_cons_self ..))
  | x :: y :: r, _, h => by
    have ih := split_join (y :: r) (by simp) (fun z hz => h z (List.mem_cons_of_mem _ hz))
    rw [join_two, List.append_assoc]
    show splitL (x ++ 48 :: Lib.join (y :: r) [48]) = _
    rw [split_part x _ (h x (List.mem_cons_self ..)), ih]
theorem join_split : ∀ l : List UInt8, Lib.join (splitL l) [48] = l
  | [] => Lib.join_one _ _
  | c :: l => by
    have ih := join_split l
    obtain ⟨h, t, ht⟩ : ∃ h t, splitL l = h :: t := by
      cases e : splitL l with
      | nil => exact absurd e (splitL_ne l)
      | cons h t => exact ⟨h, t, rfl⟩
    rw [ht] at ih
    by_cases hc : c = 48
    · subst hc
      have e : splitL (48 :: l) = [] :: h :: t := by
        conv => lhs; unfold splitL
        rw [if_pos rfl, ht]
      rw [e, join_two, ih]
      rfl
    · have e : splitL (c :: l) = (c :: h) :: t := by
        conv => lhs; unfold splitL
        rw [if_neg hc, ht]
        rfl
      rw [e]
      cases t with
      | nil => rw [Lib.join_one] at ih ⊢; rw [ih]
      | cons y r =>
        rw [join_two] at ih ⊢
        rw [← ih]
        rfl
theorem code_pm1 : ∀ n, n < 256 → ((codeV [UInt8.ofNat n]).all fun x => decide (x = 45) || decide (x = 43)) = true := by decide +kernel
theorem code_pm {c x : UInt8} (h : x ∈ codeV [c]) : x = 45 ∨ x = 43 := by
  have h1 := code_pm1 c.toNat (UInt8.toNat_lt c)
  rw [UInt8.ofNat_toNat] at h1
  simpa using List.all_eq_true.1 h1 x h
theorem code_noG (c : UInt8) : noG (codeV [c]) := fun x hx e => by
  rcases code_pm hx with h | h <;> rw [h] at e <;> exact absurd e (by decide)
theorem codes_noG (t : List UInt8) : ∀ x ∈ codes t, noG x := fun x hx => by
  obtain ⟨c, _, rfl⟩ := List.mem_map.1 hx
  exact code_noG c
theorem split_sgT {t : List UInt8} (h : t ≠ []) : splitL (sgT t) = codes t := split_join _ (by simpa [codes] using h) (codes_noG t)
theorem lt5_let {c : UInt8} (h : isLet c = true) : lt5 (codeV [c]) = [c] := by
  have hb : 97 ≤ c.toNat ∧ c.toNat ≤ 122 := of_decide_eq_true h
  have := lt5_code (c.toNat - 97) (by omega)
  rw [show 97 + (c.toNat - 97) = c.toNat by omega, UInt8.ofNat_toNat] at this
  exact this
theorem msT_codes : ∀ t : List UInt8, (∀ c ∈ t, isLet c = true) → msT (codes t) = t
  | [], _ => rfl
  | c :: t, h => by
    have ih := msT_codes t (fun d hd => h d (List.mem_cons_of_mem _ hd))
    show lt5 (codeV [c]) ++ msT (codes t) = c :: t
    rw [ih, lt5_let (h c (List.mem_cons_self ..))]
    rfl
theorem join_pul : ∀ X : List (List UInt8), (∀ x ∈ X, ∀ c ∈ x, c = 45 ∨ c = 43) → ∀ c ∈ Lib.join X [48], isPul c = true
  | [], _, c, h => by simp [Lib.join_nil] at h
  | [x], hX, c, h => by
    rw [Lib.join_one] at h
    rcases hX x (List.mem_cons_self ..) c h with rfl | rfl <;> decide
  | x :: y :: r, hX, c, h => by
    rw [join_two] at h
    rcases List.mem_append.1 h with h | h
    · rcases List.mem_append.1 h with h | h
      · rcases hX x (List.mem_cons_self ..) c h with rfl | rfl <;> decide
      · obtain rfl : c = 48 := by simpa using h
        decide
    · exact join_pul (y :: r) (fun z hz => hX z (List.mem_cons_of_mem _ hz)) c h
theorem ofOk_true {t : List UInt8} : ofOk t = true ↔ t.length ≤ 12 ∧ ∀ c ∈ t, isLet c = true := by
  unfold ofOk
  rw [Bool.and_eq_true, decide_eq_true_eq, List.all_eq_true]
/-- what is sent is read -/
theorem read_sent {t : List UInt8} (h : ofOk t = true) : rdB (sgT t) = true ∧ rdV (sgT t) = t := by
  obtain ⟨h1, h2⟩ := ofOk_true.1 h
  by_cases hn : t = []
  · subst hn
    exact ⟨by decide, by decide⟩
  have hs : sigB (sgT t) = true := sigB_true.2 ⟨by have := sgT_len t; omega, join_pul _ (fun x hx c hc => by
    obtain ⟨d, _, rfl⟩ := List.mem_map.1 hx
    exact code_pm hc)⟩
  have hsp := split_sgT hn
  have hle : ∀ p ∈ splitL (sgT t), lt5 p ≠ [] := fun p hp => by
    rw [hsp] at hp
    obtain ⟨d, hd, rfl⟩ := List.mem_map.1 hp
    rw [lt5_let (h2 d hd)]
    simp
  have hne : sgT t ≠ [] := fun e => by
    rw [e] at hle
    exact hle [] (by simp [splitL]) (by decide)
  have := msB_yes hne (by rw [hsp, codes_len]; exact h1) hle
  obtain ⟨r1, r2⟩ := rdV_yes hs
  rw [r1, r2, this.1, this.2, hsp, msT_codes t h2]
  exact ⟨rfl, rfl⟩
theorem count_noG {x : List UInt8} (h : noG x) : x.count 48 = 0 := List.count_eq_zero.2 fun h2 => h 48 h2 rfl
theorem count_join : ∀ X : List (List UInt8), (∀ x ∈ X, noG x) → (Lib.join X [48]).count 48 = X.length - 1
  | [], _ => by simp [Lib.join_nil]
  | [x], h => by rw [Lib.join_one, count_noG (h x (List.mem_cons_self ..))]; rfl
  | x :: y :: r, h => by
    have ih := count_join (y :: r) (fun z hz => h z (List.mem_cons_of_mem _ hz))
    rw [join_two, List.count_append, List.count_append, ih, count_noG (h x (List.mem_cons_self ..))]
    simp
    omega
theorem count_sgT (t : List UInt8) : (sgT t).count 48 = t.length - 1 := by
  have := count_join (codes t) (codes_noG t)
  rw [codes_len] at this
  exact this
/-- parts of a message -/
theorem sgT_parts {t : List UInt8} {k : Nat} (h0 : 0 < k) (h1 : k < t.length) : sgT (t.take k) ++ [48] ++ sgT (t.drop k) = sgT t := by
  have := join_both (codes (t.take k)) (codes (t.drop k)) (fun e => by have := congrArg List.length e; rw [codes_len, List.length_take, List.length_nil] at this; omega) (fun e => by have := congrArg List.length e; rw [codes_len, List.length_drop, List.length_nil] at this; omega)
  unfold sgT
  rw [← this]
  unfold codes
  rw [← List.map_append, List.take_append_drop]
theorem ofOk_take {t : List UInt8} (h : ofOk t = true) (k : Nat) : ofOk (t.take k) = true ∧ ofOk (t.drop k) = true := by
  obtain ⟨h1, h2⟩ := ofOk_true.1 h
  exact ⟨ofOk_true.2 ⟨by rw [List.length_take]; omega, fun c hc => h2 c (List.mem_of_mem_take hc)⟩, ofOk_true.2 ⟨by rw [List.length_drop]; omega, fun c hc => h2 c (List.mem_of_mem_drop hc)⟩⟩
theorem sgT_short {t : List UInt8} (h : t.length < 2) : (sgT t).length ≤ 4 := by
  match t, h with
  | [], _ => decide
  | [c], _ => rw [sgT_one]; exact codeV_len _
/-! ### what is read is sent -/
theorem part_code {p : List UInt8} (h : ∀ c ∈ p, c = 45 ∨ c = 43) (hn : lt5 p ≠ []) : ∃ c, isLet c = true ∧ codeV [c] = p := by
  by_cases hl : 5 ≤ p.length
  · exact absurd (ltr_long 5 1 p hl) hn
  · rcases pm_code p.length (by omega) p (pm_mem p h) with h2 | h2
    · exact absurd h2 hn
    · obtain ⟨k, hk, h3⟩ := List.any_eq_true.1 h2
      refine ⟨UInt8.ofNat (97 + k), ?_, of_decide_eq_true h3⟩
      have hk := List.mem_range.1 hk
      have : (UInt8.ofNat (97 + k)).toNat = 97 + k := by rw [UInt8.toNat_ofNat']; omega
      exact decide_eq_true (by rw [this]; omega)
theorem codes_msT : ∀ X : List (List UInt8), (∀ p ∈ X, ∃ c, isLet c = true ∧ codeV [c] = p) → codes (msT X) = X ∧ (∀ c ∈ msT X, isLet c = true)
  | [], _ => ⟨rfl, fun c h => by simp [msT] at h⟩
  | p :: X, h => by
    obtain ⟨c, hc, rfl⟩ := h p (List.mem_cons_self ..)
    obtain ⟨i1, i2⟩ := codes_msT X (fun q hq => h q (List.mem_cons_of_mem _ hq))
    have e : msT (codeV [c] :: X) = c :: msT X := by
      show lt5 (codeV [c]) ++ msT X = _
      rw [lt5_let hc]; rfl
    rw [e]
    refine ⟨?_, fun d hd => ?_⟩
    · show codeV [c] :: codes (msT X) = _
      rw [i1]
    · rcases List.mem_cons.1 hd with rfl | hd
      · exact hc
      · exact i2 d hd
theorem sent_read {l : List UInt8} (h : rdB l = true) : ofOk (rdV l) = true ∧ sgT (rdV l) = l := by
  unfold rdB at h
  rw [Bool.and_eq_true] at h
  obtain ⟨hs, hm⟩ := h
  rw [(rdV_yes hs).2]
  by_cases hn : l = []
  · subst hn
    exact ⟨by decide, by decide⟩
  have hm2 := hm
  unfold msB at hm
  rw [decide_eq_false hn, Bool.false_or, Bool.and_eq_true, decide_eq_true_eq, List.all_eq_true] at hm
  obtain ⟨h1, h2⟩ := hm
  have h3 : ∀ p ∈ splitL l, ∃ c, isLet c = true ∧ codeV [c] = p := fun p hp => part_code (fun c hc => by
    obtain ⟨hcl, hc48⟩ := (splitL_part l p hp).1 c hc
    have hpul := (sigB_true.1 hs).2 c hcl
    unfold isPul at hpul
    simp only [Bool.or_eq_true, decide_eq_true_eq] at hpul
    rcases hpul with (h | h) | h
    · exact .inl (UInt8.toNat_inj.1 h)
    · exact .inr (UInt8.toNat_inj.1 h)
    · exact absurd (UInt8.toNat_inj.1 h) hc48) (of_decide_eq_true (h2 p hp))
  obtain ⟨e1, e2⟩ := codes_msT (splitL l) h3
  have hv : msV l = msT (splitL l) := by
    unfold msV
    rw [if_neg hn, if_pos hm2]
  rw [hv]
  refine ⟨ofOk_true.2 ⟨by have := codes_len (msT (splitL l)); rw [e1] at this; omega, e2⟩, ?_⟩
  unfold sgT
  rw [e1, join_split]
theorem read_gap (l : List UInt8) : rdB (l ++ [48]) = false := by
  unfold rdB
  rw [msB_not (by simp) (p := []) (by rw [splitL_gap]; simp) (by decide), Bool.and_false]
/-! ### how many signals of n pulses are messages -/
def pulN (r : Nat) : UInt8 := if r = 0 then 45 else if r = 1 then 43 else 48
/-- the first i pulses of the signal of a number -/
def pulL : Nat → Nat → List UInt8
  | 0, _ => []
  | i + 1, r => pulN (r % 3) :: pulL i (r / 3)
theorem pulL_snoc : ∀ (i r : Nat), pulL (i + 1) r = pulL i r ++ [pulN (r / 3 ^ i % 3)]
  | 0, r => by simp [pulL]
  | i + 1, r => by
    have ih := pulL_snoc i (r / 3)
    show pulN (r % 3) :: pulL (i + 1) (r / 3) = _
    rw [ih, Nat.div_div_eq_div_mul, show 3 * 3 ^ i = 3 ^ (i + 1) by rw [Nat.pow_succ]; omega]
    rfl
theorem pulL_len : ∀ (i r : Nat), (pulL i r).length = i
  | 0, _ => rfl
  | i + 1, r => by show (pulL i (r / 3)).length + 1 = _; rw [pulL_len i]
def cntM (n : Nat) : Nat → Nat
  | 0 => 0
  | k + 1 => cntM n k + (if rdB (pulL n k) then 1 else 0)
theorem cntM_le (n : Nat) : ∀ k, cntM n k ≤ k
  | 0 => Nat.le_refl _
  | k + 1 => by
    have := cntM_le n k
    unfold cntM
    split <;> omega
theorem cnt_mes : ∀ n, n < 7 → 1 ≤ n → cntM n (3 ^ n) = mesV n := by decide +kernel
theorem mes_up : ∀ n, n < 16 → 1 ≤ n → mesV n ≤ mesV (n + 1) ∧ 1 ≤ mesV n := by decide +kernel
theorem mes_pos : ∀ n, n < 17 → 1 ≤ n → 1 ≤ mesV n := by decide +kernel
end Go.Proofs.YtgnolhikphoagaaDoor
