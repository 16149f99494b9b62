/-
  Mathematics of servings: the rows of spares that serve the needs, the least waste, the first row that wastes least. Nothing here speaks of the program.
-/
import Derived.Test.YtodboccadccpfaaDoorSprM
namespace Go.Proofs.YtodboccadccpfaaDoor

def srvB (s d : Spr) : Bool := decide (s.k = d.k) && decide (d.m ≤ s.m)
theorem srvB_true {s d : Spr} : srvB s d = true ↔ s.k = d.k ∧ d.m ≤ s.m := by simp [srvB]
/-- the spare with the index serves the first need behind the row, and is none of the row -/
def sf (L Nd : List Spr) (r : List Int) (i : Int) : Bool := srvB (sprAt L i.toNat) (sprAt Nd r.length) && !(decide (i ∈ r))
theorem sf_true {L Nd : List Spr} {r : List Int} {i : Int} : sf L Nd r i = true ↔ srvB (sprAt L i.toNat) (sprAt Nd r.length) = true ∧ i ∉ r := by simp [sf]
/-- all servings behind a row -/
def fromS (L Nd : List Spr) (r : List Int) : List (List Int) := fromR (sf L Nd) L.length (Nd.length - r.length) r
theorem fromS_end {L Nd : List Spr} {r : List Int} (h : Nd.length ≤ r.length) : fromS L Nd r = [r] := by
  unfold fromS
  rw [show Nd.length - r.length = 0 by omega]; rfl
theorem fromS_on {L Nd : List Spr} {r : List Int} (h : r.length < Nd.length) : fromS L Nd r = (ext (sf L Nd) L.length r).flatMap (fromS L Nd) := by
  unfold fromS
  rw [show Nd.length - r.length = (Nd.length - r.length - 1) + 1 by omega]
  show (ext (sf L Nd) L.length r).flatMap (fromR (sf L Nd) L.length (Nd.length - r.length - 1)) = _
  rw [List.flatMap_def, List.flatMap_def]
  congr 1
  refine List.map_congr_left ?_
  intro x hx
  obtain ⟨i, _, _, rfl⟩ := ext_mem.1 hx
  simp only [List.length_append, List.length_cons, List.length_nil]
  rw [show Nd.length - r.length - 1 = Nd.length - (r.length + (0 + 1)) by omega]
/-- the servings behind a row whose next index is one of the first k -/
def preS (L Nd : List Spr) (r : List Int) (k : Nat) : List (List Int) := (ext (sf L Nd) k r).flatMap (fromS L Nd)
theorem preS_zero (L Nd : List Spr) (r : List Int) : preS L Nd r 0 = [] := rfl
theorem preS_succ (L Nd : List Spr) (r : List Int) (k : Nat) : preS L Nd r (k + 1) = preS L Nd r k ++ (if sf L Nd r (k : Int) then fromS L Nd (r ++ [(k : Int)]) else []) := by
  unfold preS
  rw [ext_succ, List.flatMap_append]
  by_cases h : sf L Nd r (k : Int) = true
  · rw [if_pos h, if_pos h]; simp
  · rw [if_neg h, if_neg h]; rfl
theorem preS_yes {L Nd : List Spr} {r : List Int} {k : Nat} (h : sf L Nd r (k : Int) = true) : preS L Nd r (k + 1) = preS L Nd r k ++ fromS L Nd (r ++ [(k : Int)]) := by rw [preS_succ, if_pos h]
theorem preS_no {L Nd : List Spr} {r : List Int} {k : Nat} (h : sf L Nd r (k : Int) = false) : preS L Nd r (k + 1) = preS L Nd r k := by rw [preS_succ, if_neg (by rw [h]; simp), List.append_nil]
theorem preS_all {L Nd : List Spr} {r : List Int} (h : r.length < Nd.length) : preS L Nd r L.length = fromS L Nd r := (fromS_on h).symm
/-- the rest of the servings behind those of the first k -/
theorem preS_rest {L Nd : List Spr} {r : List Int} : ∀ (d k : Nat), k + d = L.length → ∃ post, preS L Nd r L.length = preS L Nd r k ++ post
  | 0, k, h => ⟨[], by rw [show k = L.length by omega, List.append_nil]⟩
  | d + 1, k, h => by
    obtain ⟨post, e⟩ := preS_rest (L := L) (Nd := Nd) (r := r) d (k + 1) (by omega)
    rw [preS_succ, List.append_assoc] at e
    exact ⟨_, e⟩

theorem milesZ_drop {Nd : List Spr} {k : Nat} (h : k < Nd.length) : milesZ (Nd.drop k) = (sprAt Nd k).m + milesZ (Nd.drop (k + 1)) := by
  rw [List.drop_eq_getElem_cons h, milesZ, sprAt_lt h]
/-- what has to be there at least -/
def baseS (L Nd : List Spr) (r : List Int) : Int := sumZ L r + milesZ (Nd.drop r.length)
theorem baseS_snoc {L Nd : List Spr} {r : List Int} {i : Int} (h : r.length < Nd.length) : baseS L Nd (r ++ [i]) = baseS L Nd r + ((sprAt L i.toNat).m - (sprAt Nd r.length).m) := by
  unfold baseS
  rw [sumZ_snoc, milesZ_drop h, show (r ++ [i]).length = r.length + 1 by simp]
  omega
theorem fromS_ge {L Nd : List Spr} : ∀ (j : Nat) (r x : List Int), r.length + j = Nd.length → x ∈ fromS L Nd r → baseS L Nd r ≤ sumZ L x
  | 0, r, x, h, hx => by
    rw [fromS_end (by omega)] at hx
    simp at hx; subst hx
    unfold baseS
    rw [List.drop_of_length_le (by omega)]
    simp [milesZ]
  | j + 1, r, x, h, hx => by
    rw [fromS_on (by omega), List.mem_flatMap] at hx
    obtain ⟨y, hy, hx⟩ := hx
    obtain ⟨i, hi, hf, rfl⟩ := ext_mem.1 hy
    have h1 := fromS_ge j _ _ (by simp; omega) hx
    rw [baseS_snoc (by omega)] at h1
    have h2 := srvB_true.1 (sf_true.1 hf).1
    omega
theorem preS_ge {L Nd : List Spr} {r x : List Int} {k : Nat} (h : r.length < Nd.length) (hx : x ∈ preS L Nd r k) : baseS L Nd r ≤ sumZ L x := by
  unfold preS at hx
  rw [List.mem_flatMap] at hx
  obtain ⟨y, hy, hx⟩ := hx
  obtain ⟨i, hi, hf, rfl⟩ := ext_mem.1 hy
  have h1 := fromS_ge (Nd.length - (r.length + 1)) _ _ (by simp; omega) hx
  rw [baseS_snoc h] at h1
  have h2 := srvB_true.1 (sf_true.1 hf).1
  omega
theorem fromS_bd {L Nd : List Spr} {r x : List Int} (hr : r.length ≤ Nd.length) (hb : ∀ i ∈ r, 0 ≤ i ∧ i < (L.length : Int)) (hx : x ∈ fromS L Nd r) : x.length = Nd.length ∧ ∀ i ∈ x, 0 ≤ i ∧ i < (L.length : Int) := by
  unfold fromS at hx
  have hl := fromR_len hx
  refine ⟨by omega, ?_⟩
  have aux : ∀ (k : Nat) (r x : List Int), (∀ i ∈ r, 0 ≤ i ∧ i < (L.length : Int)) → x ∈ fromR (sf L Nd) L.length k r → ∀ i ∈ x, 0 ≤ i ∧ i < (L.length : Int) := by
    intro k
    induction k with
    | zero => intro r x hb hx; simp [fromR] at hx; subst hx; exact hb
    | succ k ih =>
      intro r x hb hx
      rw [fromR, List.mem_flatMap] at hx
      obtain ⟨y, hy, hx⟩ := hx
      obtain ⟨i, hi, hf, rfl⟩ := ext_mem.1 hy
      refine ih _ _ ?_ hx
      intro j hj
      rcases List.mem_append.1 hj with h | h
      · exact hb j h
      · simp at h; omega
  exact aux _ _ _ hb hx

/-- the least cost, less a base, or -1 if there is none -/
def lwv (c : List Int → Int) (base : Int) (l : List (List Int)) : Int := match bst c l with | none => -1 | some x => c x - base
theorem lwv_none {c : List Int → Int} {base : Int} {l : List (List Int)} (h : bst c l = none) : lwv c base l = -1 := by unfold lwv; rw [h]
theorem lwv_some {c : List Int → Int} {base : Int} {l : List (List Int)} {x : List Int} (h : bst c l = some x) : lwv c base l = c x - base := by unfold lwv; rw [h]
theorem lwv_nil (c : List Int → Int) (base : Int) : lwv c base [] = -1 := rfl
theorem lwv_case {c : List Int → Int} {base : Int} {l : List (List Int)} (h : ∀ x ∈ l, base ≤ c x) : (bst c l = none ∧ lwv c base l = -1) ∨ ∃ x, bst c l = some x ∧ lwv c base l = c x - base ∧ base ≤ c x := by
  cases hb : bst c l with
  | none => exact .inl ⟨rfl, lwv_none hb⟩
  | some x => exact .inr ⟨x, rfl, lwv_some hb, h x (bst_mem hb)⟩
theorem lwv_step {c : List Int → Int} {base base' : Int} {l m : List (List Int)} (h1 : ∀ x ∈ l, base ≤ c x) (h2 : ∀ x ∈ m, base' ≤ c x) :
    lwv c base (l ++ m) = if 0 ≤ lwv c base' m ∧ (lwv c base l < 0 ∨ base' - base + lwv c base' m < lwv c base l) then base' - base + lwv c base' m else lwv c base l := by
  have e : lwv c base (l ++ m) = match mrg c (bst c l) (bst c m) with | none => -1 | some x => c x - base := by unfold lwv; rw [bst_append]
  rw [e]
  rcases lwv_case h1 with ⟨a1, a2⟩ | ⟨x, a1, a2, a3⟩ <;> rcases lwv_case h2 with ⟨b1, b2⟩ | ⟨y, b1, b2, b3⟩
  · rw [a1, b1, a2, b2]; rfl
  · rw [a1, b1, a2, b2, if_pos (by omega)]; show c y - base = base' - base + (c y - base'); omega
  · rw [a1, b1, a2, b2, if_neg (by omega)]; simp only [mrg]
  · rw [a1, b1, a2, b2]; simp only [mrg]
    by_cases hc : c y < c x
    · rw [if_pos hc, if_pos (by omega)]; show c y - base = base' - base + (c y - base'); omega
    · rw [if_neg hc, if_neg (by omega)]
/-- the least waste of the needs behind a row -/
def lw (L Nd : List Spr) (r : List Int) : Int := lwv (sumZ L) (baseS L Nd r) (fromS L Nd r)
def lwTo (L Nd : List Spr) (r : List Int) (k : Nat) : Int := lwv (sumZ L) (baseS L Nd r) (preS L Nd r k)
theorem lw_end {L Nd : List Spr} {r : List Int} (h : Nd.length = r.length) : lw L Nd r = 0 := by
  unfold lw
  rw [fromS_end (by omega), lwv_some (x := r) rfl]
  unfold baseS
  rw [List.drop_of_length_le (by omega)]
  simp [milesZ]
theorem lwTo_zero (L Nd : List Spr) (r : List Int) : lwTo L Nd r 0 = -1 := rfl
theorem lwTo_all {L Nd : List Spr} {r : List Int} (h : r.length < Nd.length) : lwTo L Nd r L.length = lw L Nd r := by unfold lwTo lw; rw [preS_all h]
theorem lwTo_no {L Nd : List Spr} {r : List Int} {k : Nat} (h : sf L Nd r (k : Int) = false) : lwTo L Nd r (k + 1) = lwTo L Nd r k := by unfold lwTo; rw [preS_no h]
theorem lwTo_yes {L Nd : List Spr} {r : List Int} {k : Nat} (hr : r.length < Nd.length) (h : sf L Nd r (k : Int) = true) :
    lwTo L Nd r (k + 1) = if 0 ≤ lw L Nd (r ++ [(k : Int)]) ∧ (lwTo L Nd r k < 0 ∨ (sprAt L k).m - (sprAt Nd r.length).m + lw L Nd (r ++ [(k : Int)]) < lwTo L Nd r k) then (sprAt L k).m - (sprAt Nd r.length).m + lw L Nd (r ++ [(k : Int)]) else lwTo L Nd r k := by
  have h2 := srvB_true.1 (sf_true.1 h).1
  rw [Int.toNat_natCast] at h2
  have h3 := baseS_snoc (L := L) (i := (k : Int)) hr
  rw [Int.toNat_natCast] at h3
  unfold lwTo
  rw [preS_yes h, lwv_step (base' := baseS L Nd (r ++ [(k : Int)])) (fun x hx => preS_ge hr hx) (fun x hx => fromS_ge (Nd.length - (r.length + 1)) _ _ (by simp; omega) hx)]
  rw [show baseS L Nd (r ++ [(k : Int)]) - baseS L Nd r = (sprAt L k).m - (sprAt Nd r.length).m by omega]
  rfl
theorem lw_bd {L Nd : List Spr} {r : List Int} (hL : sprB 10 L = true) (hN : sprB 5 Nd = true) (hr : r.length ≤ Nd.length) (hb : ∀ i ∈ r, 0 ≤ i ∧ i < (L.length : Int)) : -1 ≤ lw L Nd r ∧ lw L Nd r ≤ 250 := by
  have hn := (sprB_true.1 hN).1
  unfold lw
  rcases lwv_case (c := sumZ L) (base := baseS L Nd r) (l := fromS L Nd r) (fun x hx => fromS_ge (Nd.length - r.length) _ _ (by omega) hx) with ⟨_, h⟩ | ⟨x, h1, h, h3⟩
  · rw [h]; omega
  · rw [h]
    obtain ⟨h4, h5⟩ := fromS_bd hr hb (bst_mem h1)
    have h6 := sumZ_bd hL x h5
    have h7 := sumZ_bd hL r hb
    have h8 : 0 ≤ milesZ (Nd.drop r.length) := milesZ_nonneg (fun s hs => by
      have := sprOk_true.1 ((sprB_true.1 hN).2 s (List.mem_of_mem_drop hs))
      omega)
    unfold baseS at *
    omega
theorem lwTo_bd {L Nd : List Spr} {r : List Int} (hL : sprB 10 L = true) (hN : sprB 5 Nd = true) (hr : r.length < Nd.length) (hb : ∀ i ∈ r, 0 ≤ i ∧ i < (L.length : Int)) {k : Nat} (hk : k ≤ L.length) : -1 ≤ lwTo L Nd r k ∧ lwTo L Nd r k ≤ 250 := by
  have hn := (sprB_true.1 hN).1
  unfold lwTo
  rcases lwv_case (c := sumZ L) (base := baseS L Nd r) (l := preS L Nd r k) (fun x hx => preS_ge hr hx) with ⟨_, h⟩ | ⟨x, h1, h, h3⟩
  · rw [h]; omega
  · rw [h]
    obtain ⟨post, e⟩ := preS_rest (L := L) (Nd := Nd) (r := r) (L.length - k) k (by omega)
    have hm : x ∈ fromS L Nd r := by rw [← preS_all hr, e]; exact List.mem_append_left _ (bst_mem h1)
    obtain ⟨h4, h5⟩ := fromS_bd (by omega) hb hm
    have h6 := sumZ_bd hL x h5
    have h7 := sumZ_bd hL r hb
    have h8 : 0 ≤ milesZ (Nd.drop r.length) := milesZ_nonneg (fun s hs => by
      have := sprOk_true.1 ((sprB_true.1 hN).2 s (List.mem_of_mem_drop hs))
      omega)
    unfold baseS at *
    omega

/-! ## The first of the least ones, index by index -/
theorem first_yes {c : List Int → Int} {x y : List Int} {pre mid post : List (List Int)} (h : bst c (pre ++ (mid ++ post)) = some x) (hp : ∀ z ∈ pre, c x < c z) (hy : bst c mid = some y) (hc : c y = c x) : y = x := by
  have hle := bst_le h
  rw [bst_append, bst_append, hy] at h
  have h2 : mrg c (some y) (bst c post) = some y := by
    cases hb : bst c post with
    | none => rfl
    | some z =>
      have : c x ≤ c z := hle z (by simp [bst_mem hb])
      simp only [mrg]; rw [if_neg (by omega)]
  rw [h2] at h
  cases hb : bst c pre with
  | none => rw [hb] at h; simpa [mrg] using h
  | some z =>
    rw [hb] at h
    have := hp z (bst_mem hb)
    simp only [mrg] at h
    rw [if_pos (by omega)] at h
    simpa using h
theorem first_no {c : List Int → Int} {x : List Int} {pre mid post : List (List Int)} (h : bst c (pre ++ (mid ++ post)) = some x) (hp : ∀ z ∈ pre, c x < c z) (hy : ∀ y, bst c mid = some y → c y ≠ c x) : ∀ z ∈ pre ++ mid, c x < c z := by
  intro z hz
  rcases List.mem_append.1 hz with hz | hz
  · exact hp z hz
  · obtain ⟨y, hb⟩ := bst_some (c := c) (l := mid) (by rintro rfl; simp at hz)
    have h1 := bst_le h y (by simp [bst_mem hb])
    have h2 := bst_le hb z hz
    have h3 := hy y hb
    omega
theorem lw_some {L Nd : List Spr} {r x : List Int} (h : bst (sumZ L) (fromS L Nd r) = some x) : lw L Nd r = sumZ L x - baseS L Nd r := lwv_some h
/-- the least index that leads to the least waste leads to the first of the least ones -/
theorem pick_yes {L Nd : List Spr} {r x : List Int} (hr : r.length < Nd.length) (hx : bst (sumZ L) (fromS L Nd r) = some x) {k : Nat} (hk : k < L.length) (hp : ∀ z ∈ preS L Nd r k, sumZ L x < sumZ L z) (hf : sf L Nd r (k : Int) = true)
    (h0 : 0 ≤ lw L Nd (r ++ [(k : Int)])) (he : (sprAt L k).m - (sprAt Nd r.length).m + lw L Nd (r ++ [(k : Int)]) = lw L Nd r) : bst (sumZ L) (fromS L Nd (r ++ [(k : Int)])) = some x := by
  obtain ⟨post, e⟩ := preS_rest (L := L) (Nd := Nd) (r := r) (L.length - (k + 1)) (k + 1) (by omega)
  rw [preS_all hr, preS_yes hf, List.append_assoc] at e
  cases hb : bst (sumZ L) (fromS L Nd (r ++ [(k : Int)])) with
  | none => unfold lw at h0; rw [lwv_none hb] at h0; omega
  | some y =>
    have h3 := baseS_snoc (L := L) (i := (k : Int)) hr
    rw [Int.toNat_natCast] at h3
    rw [lw_some hb, lw_some hx] at he
    have hx' := hx
    rw [e] at hx'
    rw [first_yes hx' hp hb (by omega)]
theorem pick_no {L Nd : List Spr} {r x : List Int} (hr : r.length < Nd.length) (hx : bst (sumZ L) (fromS L Nd r) = some x) {k : Nat} (hk : k < L.length) (hp : ∀ z ∈ preS L Nd r k, sumZ L x < sumZ L z)
    (h : sf L Nd r (k : Int) = false ∨ lw L Nd (r ++ [(k : Int)]) < 0 ∨ (sprAt L k).m - (sprAt Nd r.length).m + lw L Nd (r ++ [(k : Int)]) ≠ lw L Nd r) : ∀ z ∈ preS L Nd r (k + 1), sumZ L x < sumZ L z := by
  cases hf : sf L Nd r (k : Int) with
  | false => rw [preS_no hf]; exact hp
  | true =>
    obtain ⟨post, e⟩ := preS_rest (L := L) (Nd := Nd) (r := r) (L.length - (k + 1)) (k + 1) (by omega)
    rw [preS_all hr, preS_yes hf, List.append_assoc] at e
    have hx' := hx
    rw [e] at hx'
    rw [preS_yes hf]
    refine first_no hx' hp ?_
    intro y hb hc
    have h3 := baseS_snoc (L := L) (i := (k : Int)) hr
    rw [Int.toNat_natCast] at h3
    have h4 := fromS_ge (L := L) (Nd := Nd) (Nd.length - (r.length + 1)) (r ++ [(k : Int)]) y (by simp; omega) (bst_mem hb)
    rw [lw_some hb, lw_some hx] at h
    rcases h with h | h | h
    · rw [hf] at h; cases h
    · omega
    · exact h (by omega)
theorem pick_some {L Nd : List Spr} {r x : List Int} (hr : r.length < Nd.length) (hx : bst (sumZ L) (fromS L Nd r) = some x) (hp : ∀ z ∈ preS L Nd r L.length, sumZ L x < sumZ L z) : False := by
  rw [preS_all hr] at hp
  have := hp x (bst_mem hx)
  omega

/-! ## Answers -/
def bothB (L Nd : List Spr) : Bool := sprB 10 L && sprB 5 Nd
theorem bothB_true {L Nd : List Spr} : bothB L Nd = true ↔ sprB 10 L = true ∧ sprB 5 Nd = true := by simp [bothB]
/-- all servings -/
def allS (L Nd : List Spr) : List (List Int) := rows (sf L Nd) L.length Nd.length
theorem allS_from (L Nd : List Spr) : allS L Nd = fromS L Nd [] := by unfold allS fromS; rw [rows_from]; rfl
def manyZ (L Nd : List Spr) : Int := if bothB L Nd then ((allS L Nd).length : Int) else -1
def serveG (L Nd : List Spr) : Option (List Int) := if bothB L Nd then bst (sumZ L) (allS L Nd) else none
def serveL (L Nd : List Spr) : List Int := (serveG L Nd).getD []
def serveB (L Nd : List Spr) : Bool := (serveG L Nd).isSome
theorem serveG_len {L Nd : List Spr} {x : List Int} (h : serveG L Nd = some x) : x.length = Nd.length ∧ Nd.length ≤ 5 ∧ ∀ i ∈ x, 0 ≤ i ∧ i < (L.length : Int) := by
  unfold serveG at h
  split at h
  · rename_i hb
    have h1 := bst_mem h
    exact ⟨rows_len h1, (sprB_true.1 (bothB_true.1 hb).2).1, rows_bd h1⟩
  · cases h
theorem canB_eq (L Nd : List Spr) : decide (0 < manyZ L Nd) = serveB L Nd := by
  unfold manyZ serveB serveG
  cases hb : bothB L Nd with
  | false => simp
  | true =>
    simp only [if_true]
    cases hx : bst (sumZ L) (allS L Nd) with
    | none => rw [bst_nil hx]; simp
    | some x =>
      have := bst_mem hx
      have h2 : 0 < (allS L Nd).length := List.length_pos_of_mem this
      simp; omega
theorem canB_lw {L Nd : List Spr} (h : bothB L Nd = true) : decide (0 ≤ lw L Nd []) = serveB L Nd := by
  unfold serveB serveG
  rw [if_pos h, allS_from]
  unfold lw
  rcases lwv_case (c := sumZ L) (base := baseS L Nd []) (l := fromS L Nd []) (fun x hx => fromS_ge Nd.length _ _ (by simp) hx) with ⟨a, b⟩ | ⟨x, a, b, c⟩
  · rw [a, b]; simp
  · rw [a, b]; simp; omega
theorem fromS_length {L Nd : List Spr} {r : List Int} {k : Nat} (h : sf L Nd r (k : Int) = true) : (preS L Nd r (k + 1)).length = (preS L Nd r k).length + (fromS L Nd (r ++ [(k : Int)])).length := by rw [preS_yes h, List.length_append]

/-! ## A serving -/
/-- the first k of a serving serve, each another one -/
def servTo (L Nd : List Spr) (x : List Int) (k : Nat) : Prop := ∀ j, j < k → (0 ≤ x[j]?.getD 0 ∧ x[j]?.getD 0 < (L.length : Int)) ∧ sf L Nd (x.take j) (x[j]?.getD 0) = true
theorem servTo_zero (L Nd : List Spr) (x : List Int) : servTo L Nd x 0 := fun j hj => absurd hj (by omega)
theorem servTo_succ {L Nd : List Spr} {x : List Int} {k : Nat} (h : servTo L Nd x k) (h1 : 0 ≤ x[k]?.getD 0 ∧ x[k]?.getD 0 < (L.length : Int)) (h2 : sf L Nd (x.take k) (x[k]?.getD 0) = true) : servTo L Nd x (k + 1) := fun j hj => by
  rcases Nat.lt_or_ge j k with h3 | h3
  · exact h j h3
  · obtain rfl : j = k := by omega
    exact ⟨h1, h2⟩
instance (L Nd : List Spr) (x : List Int) (k : Nat) : Decidable (servTo L Nd x k) := by unfold servTo; infer_instance
def servB (L Nd : List Spr) (x : List Int) : Bool := bothB L Nd && decide (x.length = Nd.length) && decide (servTo L Nd x x.length)
theorem servB_both {L Nd : List Spr} {x : List Int} (h : bothB L Nd = false) : servB L Nd x = false := by unfold servB; rw [h]; rfl
theorem servB_len {L Nd : List Spr} {x : List Int} (h : x.length ≠ Nd.length) : servB L Nd x = false := by unfold servB; rw [decide_eq_false h]; simp
theorem servB_no {L Nd : List Spr} {x : List Int} {k : Nat} (hk : k < x.length) (h : ¬ ((0 ≤ x[k]?.getD 0 ∧ x[k]?.getD 0 < (L.length : Int)) ∧ sf L Nd (x.take k) (x[k]?.getD 0) = true)) : servB L Nd x = false := by
  unfold servB
  rw [decide_eq_false (p := servTo L Nd x x.length) (fun q => h (q k hk))]
  simp
theorem servB_yes {L Nd : List Spr} {x : List Int} (h : bothB L Nd = true) (hl : x.length = Nd.length) (ht : servTo L Nd x x.length) : servB L Nd x = true := by
  unfold servB
  rw [h, decide_eq_true hl, decide_eq_true ht]; rfl
theorem servB_true {L Nd : List Spr} {x : List Int} (h : servB L Nd x = true) : bothB L Nd = true ∧ x.length = Nd.length ∧ servTo L Nd x x.length := by
  unfold servB at h
  simp only [Bool.and_eq_true, decide_eq_true_eq] at h
  exact ⟨h.1.1, h.1.2, h.2⟩
/-- the waste of the first k -/
def wsTo (L Nd : List Spr) (x : List Int) (k : Nat) : Int := sumZ L (x.take k) - milesZ (Nd.take k)
theorem wsTo_zero (L Nd : List Spr) (x : List Int) : wsTo L Nd x 0 = 0 := by simp [wsTo, sumZ, milesZ]
theorem wsTo_succ {L Nd : List Spr} {x : List Int} {k : Nat} (h1 : k < x.length) (h2 : k < Nd.length) : wsTo L Nd x (k + 1) = wsTo L Nd x k + (sprAt L (x[k]?.getD 0).toNat).m - (sprAt Nd k).m := by
  unfold wsTo
  rw [List.take_succ_eq_append_getElem h1, List.take_succ_eq_append_getElem h2, sumZ_snoc, milesZ_append]
  rw [sprAt_lt h2]
  simp [milesZ, h1]; omega
theorem wsTo_bd {L Nd : List Spr} {x : List Int} (h : servB L Nd x = true) {k : Nat} (hk : k ≤ x.length) : 0 ≤ wsTo L Nd x k ∧ wsTo L Nd x k ≤ 50 * k := by
  obtain ⟨hb, hl, ht⟩ := servB_true h
  obtain ⟨hL, hN⟩ := bothB_true.1 hb
  induction k with
  | zero => rw [wsTo_zero]; omega
  | succ k ih =>
    have h1 := ih (by omega)
    have h2 := ht k (by omega)
    have h3 := srvB_true.1 (sf_true.1 h2.2).1
    rw [show (x.take k).length = k by simp; omega] at h3
    have h4 := sprB_at hL (k := (x[k]?.getD 0).toNat) (by omega)
    have h5 := sprB_at hN (k := k) (by omega)
    rw [wsTo_succ (by omega) (by omega)]
    omega
def wasteZ (L Nd : List Spr) (x : List Int) : Int := if servB L Nd x then wsTo L Nd x x.length else -1

end Go.Proofs.YtodboccadccpfaaDoor
