/-
  rowsFrom of the program.
-/
import Derived.Test.YthdbbppahloapaaBkw
import Derived.Test.YthdbbppahloapaaTkS
import Derived.Test.YthdbbppahloapaaMade
import Derived.Test.YthdbbppahloapaaStkA
import Derived.Test.YthdbbppahloapaaCalm
namespace Go.Proofs.Ythdbbppahloapaa
open Go.RowKit Go.Shelf

attribute [local go_sem] Oper.semAt_some

/-- the greatest of what stands at x and of what stands behind it, up to k, where no two agree -/
def mxC (L C : List Int) (x : Nat) : Nat → Int
  | 0 => C[x]?.getD 0
  | k + 1 => if x < k ∧ L[x]?.getD 0 < L[k]?.getD 0 then max (mxC L C x k) (C[k]?.getD 0) else mxC L C x k
theorem mxC_low (L C : List Int) (x : Nat) : ∀ k, k ≤ x + 1 → mxC L C x k = C[x]?.getD 0
  | 0, _ => rfl
  | k + 1, h => by rw [mxC, if_neg (by omega), mxC_low L C x k (by omega)]
theorem mxC_bd {L C : List Int} {m : Int} (h : ∀ j : Nat, 0 ≤ C[j]?.getD 0 ∧ C[j]?.getD 0 ≤ m) (x : Nat) : ∀ k, 0 ≤ mxC L C x k ∧ mxC L C x k ≤ m
  | 0 => h x
  | k + 1 => by
    have h1 := mxC_bd (L := L) h x k
    have h2 := h k
    rw [mxC]
    split <;> omega
theorem set_self (C : List Int) (x : Nat) : C.set x (C[x]?.getD 0) = C := by
  apply List.ext_getElem?
  intro j
  rw [List.getElem?_set]
  split
  · rename_i h
    subst h
    split
    · rename_i h2
      rw [List.getElem?_eq_getElem h2]
      rfl
    · rename_i h2
      rw [List.getElem?_eq_none (by omega)]
  · rfl
def stepR (L C : List Int) (x : Nat) : List Int := C.set x (mxC L C x L.length + 1)
def rowsC (L : List Int) (pre : List (Fin L.length)) : List Int := pre.foldl (fun C x => stepR L C x.val) (List.replicate L.length 0)
theorem rowsC_snoc (L : List Int) (pre : List (Fin L.length)) (x : Fin L.length) : rowsC L (pre ++ [x]) = stepR L (rowsC L pre) x.val := by simp [rowsC]
theorem foldR_len (L : List Int) : ∀ (pre : List (Fin L.length)) (C : List Int), C.length = L.length → (pre.foldl (fun C x => stepR L C x.val) C).length = L.length
  | [], C, h => h
  | x :: r, C, h => by rw [List.foldl_cons]; exact foldR_len L r _ (by unfold stepR; rw [List.length_set]; exact h)
theorem rowsC_len (L : List Int) (pre : List (Fin L.length)) : (rowsC L pre).length = L.length := foldR_len L pre _ (by simp)
theorem foldR_bd (L : List Int) : ∀ (pre : List (Fin L.length)) (C : List Int) (m : Int), 0 ≤ m → (∀ j : Nat, 0 ≤ C[j]?.getD 0 ∧ C[j]?.getD 0 ≤ m) → ∀ j : Nat, 0 ≤ (pre.foldl (fun C x => stepR L C x.val) C)[j]?.getD 0 ∧ (pre.foldl (fun C x => stepR L C x.val) C)[j]?.getD 0 ≤ m + pre.length
  | [], C, m, _, h, j => by simpa using h j
  | x :: r, C, m, hm, h, j => by
    rw [List.foldl_cons]
    have h1 := foldR_bd L r (stepR L C x.val) (m + 1) (by omega) (fun i => by
      unfold stepR
      have h2 := mxC_bd (L := L) h x.val L.length
      rw [List.getElem?_set]
      split
      · split
        · simp; omega
        · simp; omega
      · have := h i; omega) j
    rw [List.length_cons]
    omega
theorem rowsC_bd (L : List Int) (pre : List (Fin L.length)) (j : Nat) : 0 ≤ (rowsC L pre)[j]?.getD 0 ∧ (rowsC L pre)[j]?.getD 0 ≤ pre.length := by
  have := foldR_bd L pre (List.replicate L.length 0) 0 (Int.le_refl _) (fun i => by
    rw [List.getElem?_replicate]
    split <;> simp) j
  unfold rowsC
  omega
/-- THE ROWS -/
def rowsL (L : List Int) : List Int := (List.range L.length).map fun i => (rowL L i : Int)
theorem rowsL_len (L : List Int) : (rowsL L).length = L.length := by simp [rowsL]
theorem rowsL_at (L : List Int) {i : Nat} (h : i < L.length) : (rowsL L)[i]?.getD 0 = rowL L i := by
  unfold rowsL
  rw [List.getElem?_map, List.getElem?_range h]
  rfl
theorem mxC_row {L C : List Int} {x : Nat} (h0 : C[x]?.getD 0 = 0) (h : ∀ j, x < j → j < L.length → C[j]?.getD 0 = rowL L j) : ∀ k, k ≤ L.length → mxC L C x k = mxR L (rowL L) x k
  | 0, _ => by rw [mxC, mxR, h0]; rfl
  | k + 1, hk => by
    rw [mxC, mxR, mxC_row h0 h k (by omega)]
    split
    · rename_i h1
      rw [h k h1.1 (by omega)]
      omega
    · rfl
theorem rowsC_part (L : List Int) : ∀ k, k ≤ L.length → ∀ i, i < L.length → (rowsC L (bwd L.length k))[i]?.getD 0 = if L.length - k ≤ i then (rowL L i : Int) else 0
  | 0, _, i, hi => by
    rw [bwd_zero, if_neg (by omega)]
    simp [rowsC, hi]
  | k + 1, hk, i, hi => by
    have ih := rowsC_part L k (by omega)
    have hl := rowsC_len L (bwd L.length k)
    rw [bwd_succ (by omega), rowsC_snoc]
    unfold stepR
    dsimp only
    have hx : L.length - 1 - k < L.length := by omega
    rw [List.getElem?_set]
    have hm : mxC L (rowsC L (bwd L.length k)) (L.length - 1 - k) L.length = mxR L (rowL L) (L.length - 1 - k) L.length :=
      mxC_row (by rw [ih _ hx, if_neg (by omega)]) (fun j h1 h2 => by rw [ih _ h2, if_pos (by omega)]) _ (Nat.le_refl _)
    by_cases e : L.length - 1 - k = i
    · rw [if_pos e, if_pos (by omega), if_pos (by omega), hm, ← e, rowL_eq hx]
      simp
      omega
    · rw [if_neg e, ih i hi]
      by_cases h2 : L.length - k ≤ i
      · rw [if_pos h2, if_pos (by omega)]
      · rw [if_neg h2, if_neg (by omega)]
theorem rowsC_all (L : List Int) : rowsC L (bwd L.length L.length) = rowsL L := by
  apply List.ext_getElem (by rw [rowsC_len, rowsL_len])
  intro i h1 h2
  have hi : i < L.length := by rw [rowsC_len] at h1; exact h1
  have h3 := rowsC_part L L.length (Nat.le_refl _) i hi
  rw [if_pos (by omega), getD_at h1] at h3
  have h4 := rowsL_at L hi
  rw [getD_at h2] at h4
  rw [h3, h4]

theorem wpListIn_make_full {F : Fence} {n : Nat} {P : Program} (w : World) {ops : Array Oper} {rest : List Oper} {o : Oper} {a : Act} {Q : Exit → Act → World → Prop}
    (hg : o.guard = none) (l c : Operand) (t : TypeId) (hop : o.op = Op.makeSlice t l c)
    (base : Nat) (e : TypeId) (i : TypeInfo) (z : Value) (size : Nat) (h1 : P.underlying t = some (.slice e)) (h2 : P.info? e = some i) (h3 : i.zero = some z) (h4 : i.size = size)
    (kl kc : IntKind) (L C : Int) (m : Nat) (hl : a.eval l = .int kl L) (hc : a.eval c = .int kc C) (hL : L = (m : Int)) (hC : C = (m : Int)) (b2 : i.bytes * m ≤ 281474976710656) (b3 : m ≤ maxLen) (b4 : base ≤ w.heap.size)
    (hK : ∀ w', w'.ownsRow base e size (.slice (some ⟨w.heap.size, 0, none⟩) m m) m (madeCells z.cells (m * size)).toList → w.grownBy w' none → wpListIn F n P ops Q rest (a.put o.dst (.slice (some ⟨w.heap.size, 0, none⟩) m m)) w') :
    wpListIn F n P ops Q (o :: rest) a w := by
  refine wpListIn_plain hg fun K hK' => ?_
  obtain ⟨w', hrun, r1, r2⟩ := run_make_full (P := P) w base t e i z size h1 h2 h3 h4 kl kc m b2 b3 b4
  subst hL
  subst hC
  unfold Oper.wpIn
  refine ⟨?_, ?_⟩
  · simp [Oper.about, hop]
  · rw [Oper.semAt_plain F _ _ (by rw [hop]; intro c hc'; cases hc')]
    simp [execOp, hop, hl, hc, hrun, Result.andThen]
    exact hK' _ _ (hK w' r1 r2)

set_option maxRecDepth 100000 in
set_option maxHeartbeats 2000000 in
theorem rowsFrom_b (A : Option Addr) (c : Nat) (zs : List Int) (w : World) (ha : Arg w A c zs) (h10 : zs.length ≤ 10) :
    Calls Try.prog 51 #[.slice A zs.length c] w (RetS 3 id (rowsL zs) w) := by
  obtain ⟨i0, hi, hz0, hz1, hz2⟩ := info_parts int_info
  have HMI := Lib.hid (made_ints zs.length)
  have Ha := Lib.hid ha
  clear ha
  refine (callsIn_wide (n := 5)).1 ?_
  refine callsIn_of_wp_marks Try.func51 rfl trivial ?_ rfl
  simp only [Try.ntmps51, List.size_toArray, List.length_cons, List.length_nil, Nat.reduceAdd, Nat.reduceSub, Array.replicate_succ, Array.replicate_zero, List.push_toArray, List.append_toArray, List.nil_append, List.cons_append]
  gi_wp2_with (first
    | (gi_at_make; refine wpListIn_make_full _ rfl (.tmp 8) (.tmp 8) 23 rfl w.heap.size 3 i0 (.int .i64 0) 1 Try.underlying23 hi hz0 hz1 .i64 .i64 _ _ zs.length rfl rfl rfl rfl (by rw [hz2]; omega) (by unfold maxLen; omega) (by simp) ?_; intro w1 hown hg1; have hO1 : Boxed w1 w.heap.size 23 (.slice A zs.length c) := (Boxed.new w _ _).kept hg1 (by simp); have hcO := (hO1.alloc (.cells #[.slice (some ⟨w.heap.size + 1, 0, none⟩) zs.length zs.length] 23)).cell; have HO1 := Lib.hid hO1; clear hO1)
    | (refine ⟨trivial, ?_⟩; gi_at_call 60; refine (callsIn_wide.2 (backward_c _ _ _ _)).mono ?_; rintro e w2 ⟨rfl, rfl⟩))
  obtain ⟨WL, hWL⟩ : ∃ WL, (w1.alloc (.cells #[.slice (some ⟨w.heap.size + 1, 0, none⟩) zs.length zs.length] 23)).alloc (.cells #[.slice A zs.length c] 23) = WL := ⟨_, rfl⟩
  have bR : Boxed WL w1.heap.size 23 (.slice (some ⟨w.heap.size + 1, 0, none⟩) zs.length zs.length) := by rw [← hWL]; exact (Boxed.new w1 23 _).alloc _
  have bO : Boxed WL w.heap.size 23 (.slice A zs.length c) := by rw [← hWL]; exact (HO1.out.alloc _).alloc _
  have bF : Boxed WL (w1.heap.size + 1) 23 (.slice A zs.length c) := by
    rw [← hWL]
    have := Boxed.new (w1.alloc (.cells #[.slice (some ⟨w.heap.size + 1, 0, none⟩) zs.length zs.length] 23)) 23 (.slice A zs.length c)
    rwa [World.size_alloc] at this
  have hs1 := hg1.size
  simp only [World.size_alloc] at hs1
  have hB1 : Below w.heap.size w w1 := ((Below.refl _ _).alloc (Nat.le_refl _) _).grown hg1 (by simp) (by simp)
  have hBL : Below w.heap.size w WL := by rw [← hWL]; exact (hB1.alloc (by omega) _).alloc (by simp; omega) _
  have hsz : WL.heap.size = w1.heap.size + 2 := by rw [← hWL]; simp
  have hrow0 : WL.ownsRow w.heap.size 3 1 (.slice (some ⟨w.heap.size + 1, 0, none⟩) zs.length zs.length) (rowsC zs []).length ((rowsC zs []).map (Value.int .i64)) := by
    rw [rowsC_len, ← hWL]
    have h9 := (hown.alloc (.cells #[.slice (some ⟨w.heap.size + 1, 0, none⟩) zs.length zs.length] 23)).alloc (.cells #[.slice A zs.length c] 23)
    rw [HMI.out, World.size_alloc] at h9
    exact h9
  have hrd : Rd 0 w.heap.size WL A zs := Ha.out.rd.below hBL
  have HO := Lib.hid hown
  have HG := Lib.hid hg1
  clear hown hg1 HO1 hcO
  rw [hWL]
  have HWL := Lib.hid hWL
  clear hWL
  refine wpIn_rangeFunc_ownG rfl (by decide) (gf := 66) (lb := #[.pointer (some ⟨w1.heap.size + 1, 0, none⟩)]) rfl trivial (enters_of Try.func66 (by kernel_rfl) rfl)
    (back_stops 4 (by decide) (w1.heap.size + 1) w.heap.size A c zs (by omega) WL (by omega) (by omega) bF.cell hrd) KpB.t (KpB.b (by omega) (by omega)) (Below.refl _ _) (fun _ => rfl)
    (fun pre W => Collects w.heap.size w1.heap.size (w1.heap.size + 1) (.slice A zs.length c) w (rowsC zs) pre W ∧ Boxed W w.heap.size 23 (.slice A zs.length c))
    (fun _ _ _ => False)
    (OwnFrom.and (Collects.own (Nat.le_refl _) (by omega)) (Own.from (boxed_own w.heap.size 23 (fun _ => .slice A zs.length c)) _))
    (fun _ _ _ _ _ hs _ _ => hs)
    ⟨⟨⟨⟨_, bR, hrow0, trivial⟩, bF⟩, hBL⟩, bO⟩
    ?a1 ?assign ?body ?done ?stop
  case assign =>
    intro l x W K hK
    gi_wp2
    exact hK
  case body =>
    rintro l pre x W ⟨⟨⟨⟨v, hv, hrow, _⟩, hF⟩, hB⟩, hO2⟩ hlt
    obtain ⟨x, hx⟩ := x
    have hcl := rowsC_len zs pre
    have hbd := rowsC_bd zs pre
    have Hsn := Lib.hid (rowsC_snoc zs pre ⟨x, hx⟩)
    dsimp only at Hsn
    obtain ⟨C, hC⟩ : ∃ C, rowsC zs pre = C := ⟨_, rfl⟩
    rw [hC] at hrow hcl hbd Hsn
    rw [hcl] at hrow
    obtain ⟨g, cap, rfl⟩ : ∃ g cap, v = .slice (some ⟨g, 0, none⟩) zs.length cap := by
      rcases hrow.2 with ⟨_, h9⟩ | ⟨g, cap, cur, e, _⟩
      · omega
      · exact ⟨g, cap, e⟩
    have Hbd := Lib.hid hbd
    have Hcl := Lib.hid hcl
    have Hrow := Lib.hid hrow
    have HB := Lib.hid hB
    have HF0 := Lib.hid hF
    have q0 : IntKind.i64.wrap ((x : Int) + 1) = (x : Int) + 1 := IntWalk.i64_in _ (by omega)
    have hcv := hv.cell
    have hcO := hO2.cell
    dsimp only
    obtain ⟨p, hp⟩ : ∃ p, zs[x] = p := ⟨_, rfl⟩
    rw [hp]
    have Hp := Lib.hid ((getD_at hx).trans hp)
    clear hp
    obtain ⟨W0, hW0⟩ : ∃ W0, W0 = W := ⟨_, rfl⟩
    subst hW0
    clear hbd hcl hrow hB hC
    gi_wp2
    gi_loopw [6] (fun i wr => ∃ k : Nat, x + 1 ≤ k ∧ k ≤ zs.length ∧ i = .int .i64 k ∧ Boxed wr w1.heap.size 23 (.slice (some ⟨g, 0, none⟩) zs.length cap) ∧ wr.ownsRow w.heap.size 3 1 (.slice (some ⟨g, 0, none⟩) zs.length cap) zs.length ((C.set x (mxC zs C x k)).map (Value.int .i64)) ∧
      Boxed wr (w1.heap.size + 1) 23 (.slice A zs.length c) ∧ Boxed wr w.heap.size 23 (.slice A zs.length c) ∧ KeepsOthers W0 wr ∧ Below w.heap.size W0 wr) (fun i _ => zs.length - (intOf i).toNat)
    case atStart => exact ⟨x + 1, Nat.le_refl _, by omega, by go_num, hv, by rw [mxC_low _ _ _ _ (Nat.le_refl _), set_self]; exact Hrow.out, hF, hO2, KeepsOthers.refl _, Below.refl _ _⟩
    case round =>
      obtain ⟨k, hk1, hk, rfl, hv, hr, hF, hO2, hKO, hBW⟩ := hrel
      have hub := mxC_bd (L := zs) Hbd.out x k
      have hrb := Ha.out.rd.below (HB.out.trans hBW)
      have hcv := hv.cell
      have hcO := hO2.cell
      have hlx : x < C.length := by have := Hcl.out; omega
      by_cases hlt2 : k < zs.length
      · obtain ⟨b, off, hA, _, hbw, hd⟩ := hrb.at_ hlt2
        have Hs := Lib.hid (show mxC zs C x (k + 1) = if x < k ∧ zs[x]?.getD 0 < zs[k]?.getD 0 then max (mxC zs C x k) (C[k]?.getD 0) else mxC zs C x k from rfl)
        have hck := hr.cellAt k (by omega)
        have hcx := hr.cellAt x (by omega)
        have hfx := hr.frozenAt x
        have hlk : k < C.length := by have := Hcl.out; omega
        rw [List.getElem?_map, List.getElem?_set_ne (by omega), List.getElem?_eq_getElem hlk] at hck
        rw [List.getElem?_map, List.getElem?_set_self hlx] at hcx
        simp only [Option.map_some] at hck hcx
        have hCk := getD_at hlk
        obtain ⟨u, hu⟩ : ∃ u, mxC zs C x k = u := ⟨_, rfl⟩
        obtain ⟨y, hy⟩ : ∃ y, C[k]?.getD 0 = y := ⟨_, rfl⟩
        obtain ⟨o, ho⟩ : ∃ o, zs[k]?.getD 0 = o := ⟨_, rfl⟩
        have HyC := Lib.hid hy
        rw [hy] at Hs
        rw [hu] at Hs hcx hr hub
        rw [ho] at Hs hd
        rw [Hp.out] at Hs
        rw [← hCk, hy] at hck
        have Hr := Lib.hid hr
        have Hv := Lib.hid hv
        have HF := Lib.hid hF
        have HO2 := Lib.hid hO2
        have HKO := Lib.hid hKO
        have HBW := Lib.hid hBW
        have HA := Lib.hid hA
        rw [hA] at hcO
        have hgl := (hr.lt g rfl).1
        have g1 : (k : Int) < (zs.length : Int) := by omega
        have g2 : (0 : Int) ≤ (k : Int) := by omega
        have g3 : (x : Int) < (zs.length : Int) := by omega
        have g4 : (0 : Int) ≤ (x : Int) := by omega
        clear hr hv hF hO2 hKO hBW hu hy ho hCk hA
        by_cases hpo : p < o
        · rw [if_pos ⟨by omega, hpo⟩] at Hs
          by_cases huy : u < y
          · rw [show max u y = y by omega] at Hs
            have hrD : wr.drew.ownsRow w.heap.size 3 1 (.slice (some ⟨g, 0, none⟩) zs.length cap) zs.length ((C.set x u).map (Value.int .i64)) := own_below Hr.out (below_drewN (Below.refl _ _) 1)
            have hst := hrD.stored x (.int .i64 y)
            rw [← List.map_set, List.set_set] at hst
            have hbR : Boxed wr.drew w1.heap.size 23 (.slice (some ⟨g, 0, none⟩) zs.length cap) := Hv.out
            have hbF : Boxed wr.drew (w1.heap.size + 1) 23 (.slice A zs.length c) := HF.out
            have hbO : Boxed wr.drew w.heap.size 23 (.slice A zs.length c) := HO2.out
            have HbR := Lib.hid (hbR.kept hst.2 (hbR.not_row (by decide) hrD))
            have HbF := Lib.hid (hbF.kept hst.2 (hbF.not_row (by decide) hrD))
            have HbO := Lib.hid (hbO.kept hst.2 (hbO.not_row (by decide) hrD))
            have hk1 := HbR.out.cell
            have hk2 := hst.1.cellAt k (by omega)
            rw [List.getElem?_map, List.getElem?_set_ne (by omega), List.getElem?_eq_getElem hlk] at hk2
            simp only [Option.map_some] at hk2
            rw [← getD_at hlk, HyC.out] at hk2
            have Hst := Lib.hid hst
            clear hst hrD hbR hbF hbO
            gi_wp2
            refine wpIn_region_held (S := fun w9 => w9.cell? ⟨w1.heap.size, 0, none⟩ = some (.slice (some ⟨g, 0, none⟩) zs.length cap) ∧ w9.cell? ⟨g, k, none⟩ = some (.int .i64 y)) (by kernel_rfl) (calm_all (by kernel_rfl)) ⟨hcv, hck⟩ (fun _ _ h => h) (fun hHeld => ?_)
            refine wpAnyH_take (i := 0) (oi := { dst := some 28, op := _, type := _, pos := _, after := _, guard := _ }) (v := ?va0) rfl (by kernel_rfl) (by kernel_rfl) (by kernel_rfl) (fun _ _ _ h => (by cases h.1)) (Or.inl ⟨by kernel_rfl, ?ya0⟩) (by assumption) ?ra0
            case ya0 => intro w hSw; (try dsimp only at hSw); go_simp; try with_reducible rfl
            try simp only [Act.put, List.setIfInBounds_toArray, List.set_cons_zero, List.set_cons_succ]
            refine wpAnyH_take (i := 1) (oi := { dst := some 29, op := _, type := _, pos := _, after := _, guard := _ }) (v := ?va1) rfl (by kernel_rfl) (by kernel_rfl) (by kernel_rfl) (fun _ _ _ h => (by cases h.1)) (Or.inl ⟨by kernel_rfl, ?ya1⟩) (by assumption) ?ra1
            case ya1 => intro w hSw; (try dsimp only at hSw); go_simp; try with_reducible rfl
            try simp only [Act.put, List.setIfInBounds_toArray, List.set_cons_zero, List.set_cons_succ]
            refine wpAnyH_take (i := 2) (oi := { dst := some 30, op := _, type := _, pos := _, after := _, guard := _ }) (v := ?va2) rfl (by kernel_rfl) (by kernel_rfl) (by kernel_rfl) (fun _ _ _ h => (by cases h.1)) (Or.inl ⟨by kernel_rfl, ?ya2⟩) (by assumption) ?ra2
            case ya2 => intro w hSw; (try dsimp only at hSw); go_simp; try with_reducible rfl
            try simp only [Act.put, List.setIfInBounds_toArray, List.set_cons_zero, List.set_cons_succ]
            refine wpAnyH_take (i := 3) (oi := { dst := some 31, op := _, type := _, pos := _, after := _, guard := _ }) (v := ?va3) rfl (by kernel_rfl) (by kernel_rfl) (by kernel_rfl) (fun _ _ _ h => (by cases h.1)) (Or.inl ⟨by kernel_rfl, ?ya3⟩) (by assumption) ?ra3
            case ya3 => intro w hSw; (try dsimp only at hSw); go_simp; try with_reducible rfl
            try simp only [Act.put, List.setIfInBounds_toArray, List.set_cons_zero, List.set_cons_succ]
            refine wpAnyH_take (i := 4) (oi := { dst := some 32, op := _, type := _, pos := _, after := _, guard := _ }) (v := ?va4) rfl (by kernel_rfl) (by kernel_rfl) (by kernel_rfl) (fun _ _ _ h => (by cases h.1)) (Or.inl ⟨by kernel_rfl, ?ya4⟩) (by assumption) ?ra4
            case ya4 => intro w hSw; (try dsimp only at hSw); go_simp; try with_reducible rfl
            try simp only [Act.put, List.setIfInBounds_toArray, List.set_cons_zero, List.set_cons_succ]
            refine wpAnyH_take (i := 6) (oi := { dst := some 34, op := _, type := _, pos := _, after := _, guard := _ }) (v := ?va5) rfl (by kernel_rfl) (by kernel_rfl) (by kernel_rfl) (fun _ _ _ h => (by cases h.1)) (Or.inl ⟨by kernel_rfl, ?ya5⟩) (by assumption) ?ra5
            case ya5 => intro w hSw; (try dsimp only at hSw); go_simp; try with_reducible rfl
            try simp only [Act.put, List.setIfInBounds_toArray, List.set_cons_zero, List.set_cons_succ]
            refine wpAnyH_take (i := 7) (oi := { dst := some 35, op := _, type := _, pos := _, after := _, guard := _ }) (v := ?va6) rfl (by kernel_rfl) (by kernel_rfl) (by kernel_rfl) (fun _ _ _ h => (by cases h.1)) (Or.inl ⟨by kernel_rfl, ?ya6⟩) (by assumption) ?ra6
            case ya6 => intro w hSw; (try dsimp only at hSw); go_simp; try with_reducible rfl
            try simp only [Act.put, List.setIfInBounds_toArray, List.set_cons_zero, List.set_cons_succ]
            refine wpAnyH_take (i := 8) (oi := { dst := some 36, op := _, type := _, pos := _, after := _, guard := _ }) (v := ?va7) rfl (by kernel_rfl) (by kernel_rfl) (by kernel_rfl) (fun _ _ _ h => (by cases h.1)) (Or.inl ⟨by kernel_rfl, ?ya7⟩) (by assumption) ?ra7
            case ya7 => intro w hSw; (try dsimp only at hSw); go_simp; try with_reducible rfl
            try simp only [Act.put, List.setIfInBounds_toArray, List.set_cons_zero, List.set_cons_succ]
            refine wpAnyH_take (i := 9) (oi := { dst := some 37, op := _, type := _, pos := _, after := _, guard := _ }) (v := ?va8) rfl (by kernel_rfl) (by kernel_rfl) (by kernel_rfl) (fun _ _ _ h => (by cases h.1)) (Or.inl ⟨by kernel_rfl, ?ya8⟩) (by assumption) ?ra8
            case ya8 => intro w hSw; (try dsimp only at hSw); go_simp; try with_reducible rfl
            try simp only [Act.put, List.setIfInBounds_toArray, List.set_cons_zero, List.set_cons_succ]
            refine wpAnyH_ready (rs := [5]) (by kernel_rfl) (by simp) ?_
            refine AllReadyH.cons (o := { dst := some 33, op := _, type := _, pos := _, after := _, guard := _ }) rfl (fun K hK => ?_) AllReadyH.nil
            go_simp
            refine hK.out _ _ (hHeld) (fun hHeld2 => ?_)
            clear hK K
            try simp only [Act.put, List.setIfInBounds_toArray, List.set_cons_zero, List.set_cons_succ]
            refine wpAnyH_take (i := 10) (oi := { dst := some 38, op := _, type := _, pos := _, after := _, guard := _ }) (v := ?va10) rfl (by kernel_rfl) (by kernel_rfl) (by kernel_rfl) (fun _ _ _ h => (by cases h.1)) (Or.inl ⟨by kernel_rfl, ?ya10⟩) (by assumption) ?ra10
            case ya10 => intro w hSw; (try dsimp only at hSw); go_simp; try with_reducible rfl
            try simp only [Act.put, List.setIfInBounds_toArray, List.set_cons_zero, List.set_cons_succ]
            refine wpAnyH_take (i := 11) (oi := { dst := some 39, op := _, type := _, pos := _, after := _, guard := _ }) (v := ?va11) rfl (by kernel_rfl) (by kernel_rfl) (by kernel_rfl) (fun _ _ _ h => (by cases h.1)) (Or.inl ⟨by kernel_rfl, ?ya11⟩) (by assumption) ?ra11
            case ya11 => intro w hSw; (try dsimp only at hSw); go_simp; try with_reducible rfl
            try simp only [Act.put, List.setIfInBounds_toArray, List.set_cons_zero, List.set_cons_succ]
            refine wpAnyH_ready (rs := [12]) (by kernel_rfl) (by simp) ?_
            refine AllReadyH.cons (o := { dst := none, op := _, type := _, pos := _, after := _, guard := _ }) rfl (fun K hK => ?_) AllReadyH.nil
            go_simp
            refine hK.out _ _ (⟨hk1, hk2⟩) (fun hHeld2 => ?_)
            clear hK K
            try simp only [Act.put, List.setIfInBounds_toArray, List.set_cons_zero, List.set_cons_succ]
            refine wpAnyH_done (by kernel_rfl) ⟨rfl, ?_⟩ _
            gi_wp2
            go_roundw
            case rel => exact ⟨k + 1, by omega, by omega, by go_num, HbR.out, by rw [Hs.out]; exact Hst.out.1, HbF.out, HbO.out, (HKO.out.trans (KeepsOthers.drew _)).trans (KeepsOthers.setCell _ _ _), (below_drewN HBW.out 1).setCell (p := ⟨g, x, none⟩) hgl _⟩
            case measure => simp [intOf]; omega
          · rw [show max u y = u by omega] at Hs
            have guy : (u < y) = False := eq_false huy
            have hrD : wr.drew.ownsRow w.heap.size 3 1 (.slice (some ⟨g, 0, none⟩) zs.length cap) zs.length ((C.set x u).map (Value.int .i64)) := own_below Hr.out (below_drewN (Below.refl _ _) 1)
            have hst := hrD.stored x (.int .i64 u)
            rw [← List.map_set, List.set_set] at hst
            have hbR : Boxed wr.drew w1.heap.size 23 (.slice (some ⟨g, 0, none⟩) zs.length cap) := Hv.out
            have hbF : Boxed wr.drew (w1.heap.size + 1) 23 (.slice A zs.length c) := HF.out
            have hbO : Boxed wr.drew w.heap.size 23 (.slice A zs.length c) := HO2.out
            have HbR := Lib.hid (hbR.kept hst.2 (hbR.not_row (by decide) hrD))
            have HbF := Lib.hid (hbF.kept hst.2 (hbF.not_row (by decide) hrD))
            have HbO := Lib.hid (hbO.kept hst.2 (hbO.not_row (by decide) hrD))
            have hk1 := HbR.out.cell
            have hk2 := hst.1.cellAt k (by omega)
            rw [List.getElem?_map, List.getElem?_set_ne (by omega), List.getElem?_eq_getElem hlk] at hk2
            simp only [Option.map_some] at hk2
            rw [← getD_at hlk, HyC.out] at hk2
            have Hst := Lib.hid hst
            clear hst hrD hbR hbF hbO
            gi_wp2
            refine wpIn_region_held (S := fun w9 => w9.cell? ⟨w1.heap.size, 0, none⟩ = some (.slice (some ⟨g, 0, none⟩) zs.length cap) ∧ w9.cell? ⟨g, k, none⟩ = some (.int .i64 y)) (by kernel_rfl) (calm_all (by kernel_rfl)) ⟨hcv, hck⟩ (fun _ _ h => h) (fun hHeld => ?_)
            refine wpAnyH_take (i := 0) (oi := { dst := some 28, op := _, type := _, pos := _, after := _, guard := _ }) (v := ?vb0) rfl (by kernel_rfl) (by kernel_rfl) (by kernel_rfl) (fun _ _ _ h => (by cases h.1)) (Or.inl ⟨by kernel_rfl, ?yb0⟩) (by assumption) ?rb0
            case yb0 => intro w hSw; (try dsimp only at hSw); go_simp; try with_reducible rfl
            try simp only [Act.put, List.setIfInBounds_toArray, List.set_cons_zero, List.set_cons_succ]
            refine wpAnyH_take (i := 1) (oi := { dst := some 29, op := _, type := _, pos := _, after := _, guard := _ }) (v := ?vb1) rfl (by kernel_rfl) (by kernel_rfl) (by kernel_rfl) (fun _ _ _ h => (by cases h.1)) (Or.inl ⟨by kernel_rfl, ?yb1⟩) (by assumption) ?rb1
            case yb1 => intro w hSw; (try dsimp only at hSw); go_simp; try with_reducible rfl
            try simp only [Act.put, List.setIfInBounds_toArray, List.set_cons_zero, List.set_cons_succ]
            refine wpAnyH_take (i := 2) (oi := { dst := some 30, op := _, type := _, pos := _, after := _, guard := _ }) (v := ?vb2) rfl (by kernel_rfl) (by kernel_rfl) (by kernel_rfl) (fun _ _ _ h => (by cases h.1)) (Or.inl ⟨by kernel_rfl, ?yb2⟩) (by assumption) ?rb2
            case yb2 => intro w hSw; (try dsimp only at hSw); go_simp; try with_reducible rfl
            try simp only [Act.put, List.setIfInBounds_toArray, List.set_cons_zero, List.set_cons_succ]
            refine wpAnyH_take (i := 3) (oi := { dst := some 31, op := _, type := _, pos := _, after := _, guard := _ }) (v := ?vb3) rfl (by kernel_rfl) (by kernel_rfl) (by kernel_rfl) (fun _ _ _ h => (by cases h.1)) (Or.inl ⟨by kernel_rfl, ?yb3⟩) (by assumption) ?rb3
            case yb3 => intro w hSw; (try dsimp only at hSw); go_simp; try with_reducible rfl
            try simp only [Act.put, List.setIfInBounds_toArray, List.set_cons_zero, List.set_cons_succ]
            refine wpAnyH_take (i := 4) (oi := { dst := some 32, op := _, type := _, pos := _, after := _, guard := _ }) (v := ?vb4) rfl (by kernel_rfl) (by kernel_rfl) (by kernel_rfl) (fun _ _ _ h => (by cases h.1)) (Or.inl ⟨by kernel_rfl, ?yb4⟩) (by assumption) ?rb4
            case yb4 => intro w hSw; (try dsimp only at hSw); go_simp; try with_reducible rfl
            try simp only [Act.put, List.setIfInBounds_toArray, List.set_cons_zero, List.set_cons_succ]
            refine wpAnyH_take (i := 6) (oi := { dst := some 34, op := _, type := _, pos := _, after := _, guard := _ }) (v := ?vb5) rfl (by kernel_rfl) (by kernel_rfl) (by kernel_rfl) (fun _ _ _ h => (by cases h.1)) (Or.inl ⟨by kernel_rfl, ?yb5⟩) (by assumption) ?rb5
            case yb5 => intro w hSw; (try dsimp only at hSw); go_simp; try with_reducible rfl
            try simp only [Act.put, List.setIfInBounds_toArray, List.set_cons_zero, List.set_cons_succ]
            refine wpAnyH_take (i := 7) (oi := { dst := some 35, op := _, type := _, pos := _, after := _, guard := _ }) (v := ?vb6) rfl (by kernel_rfl) (by kernel_rfl) (by kernel_rfl) (fun _ _ _ h => (by cases h.1)) (Or.inl ⟨by kernel_rfl, ?yb6⟩) (by assumption) ?rb6
            case yb6 => intro w hSw; (try dsimp only at hSw); go_simp; try with_reducible rfl
            try simp only [Act.put, List.setIfInBounds_toArray, List.set_cons_zero, List.set_cons_succ]
            refine wpAnyH_take (i := 8) (oi := { dst := some 36, op := _, type := _, pos := _, after := _, guard := _ }) (v := ?vb7) rfl (by kernel_rfl) (by kernel_rfl) (by kernel_rfl) (fun _ _ _ h => (by cases h.1)) (Or.inl ⟨by kernel_rfl, ?yb7⟩) (by assumption) ?rb7
            case yb7 => intro w hSw; (try dsimp only at hSw); go_simp; try with_reducible rfl
            try simp only [Act.put, List.setIfInBounds_toArray, List.set_cons_zero, List.set_cons_succ]
            refine wpAnyH_take (i := 9) (oi := { dst := some 37, op := _, type := _, pos := _, after := _, guard := _ }) (v := ?vb8) rfl (by kernel_rfl) (by kernel_rfl) (by kernel_rfl) (fun _ _ _ h => (by cases h.1)) (Or.inl ⟨by kernel_rfl, ?yb8⟩) (by assumption) ?rb8
            case yb8 => intro w hSw; (try dsimp only at hSw); go_simp; try with_reducible rfl
            try simp only [Act.put, List.setIfInBounds_toArray, List.set_cons_zero, List.set_cons_succ]
            refine wpAnyH_ready (rs := [5]) (by kernel_rfl) (by simp) ?_
            refine AllReadyH.cons (o := { dst := some 33, op := _, type := _, pos := _, after := _, guard := _ }) rfl (fun K hK => ?_) AllReadyH.nil
            go_simp
            refine hK.out _ _ (hHeld) (fun hHeld2 => ?_)
            clear hK K
            try simp only [Act.put, List.setIfInBounds_toArray, List.set_cons_zero, List.set_cons_succ]
            refine wpAnyH_take (i := 10) (oi := { dst := some 38, op := _, type := _, pos := _, after := _, guard := _ }) (v := ?vb10) rfl (by kernel_rfl) (by kernel_rfl) (by kernel_rfl) (fun _ _ _ h => (by cases h.1)) (Or.inl ⟨by kernel_rfl, ?yb10⟩) (by assumption) ?rb10
            case yb10 => intro w hSw; (try dsimp only at hSw); go_simp; try with_reducible rfl
            try simp only [Act.put, List.setIfInBounds_toArray, List.set_cons_zero, List.set_cons_succ]
            refine wpAnyH_take (i := 11) (oi := { dst := some 39, op := _, type := _, pos := _, after := _, guard := _ }) (v := ?vb11) rfl (by kernel_rfl) (by kernel_rfl) (by kernel_rfl) (fun _ _ _ h => (by cases h.1)) (Or.inl ⟨by kernel_rfl, ?yb11⟩) (by assumption) ?rb11
            case yb11 => intro w hSw; (try dsimp only at hSw); go_simp; try with_reducible rfl
            try simp only [Act.put, List.setIfInBounds_toArray, List.set_cons_zero, List.set_cons_succ]
            refine wpAnyH_ready (rs := [12]) (by kernel_rfl) (by simp) ?_
            refine AllReadyH.cons (o := { dst := none, op := _, type := _, pos := _, after := _, guard := _ }) rfl (fun K hK => ?_) AllReadyH.nil
            go_simp
            refine hK.out _ _ (⟨hk1, hk2⟩) (fun hHeld2 => ?_)
            clear hK K
            try simp only [Act.put, List.setIfInBounds_toArray, List.set_cons_zero, List.set_cons_succ]
            refine wpAnyH_done (by kernel_rfl) ⟨rfl, ?_⟩ _
            gi_wp2
            go_roundw
            case rel => exact ⟨k + 1, by omega, by omega, by go_num, HbR.out, by rw [Hs.out]; exact Hst.out.1, HbF.out, HbO.out, (HKO.out.trans (KeepsOthers.drew _)).trans (KeepsOthers.setCell _ _ _), (below_drewN HBW.out 1).setCell (p := ⟨g, x, none⟩) hgl _⟩
            case measure => simp [intOf]; omega
        · rw [if_neg (by omega)] at Hs
          gi_wp2
          go_roundw
          case rel => exact ⟨k + 1, by omega, by omega, by go_num, Hv.out, by rw [Hs.out]; exact Hr.out, HF.out, HO2.out, HKO.out, HBW.out⟩
          case measure => simp [intOf]; omega
      · obtain rfl : k = zs.length := by omega
        have hcx := hr.cellAt x (by omega)
        have hfx := hr.frozenAt x
        rw [List.getElem?_map, List.getElem?_set_self hlx] at hcx
        simp only [Option.map_some] at hcx
        have Hse := Lib.hid (show stepR zs C x = C.set x (mxC zs C x zs.length + 1) from rfl)
        obtain ⟨u, hu⟩ : ∃ u, mxC zs C x zs.length = u := ⟨_, rfl⟩
        rw [hu] at Hse hcx hr hub
        have q1 : IntKind.i64.wrap (u + 1) = u + 1 := IntWalk.i64_in _ (by omega)
        have hst := hr.stored x (.int .i64 (u + 1))
        rw [← List.map_set, List.set_set, ← Hse.out, ← Hsn.out] at hst
        have hgl := (hr.lt g rfl).1
        have HbR := Lib.hid (hv.kept hst.2 (hv.not_row (by decide) hr))
        have HbF := Lib.hid (hF.kept hst.2 (hF.not_row (by decide) hr))
        have HbO := Lib.hid (hO2.kept hst.2 (hO2.not_row (by decide) hr))
        have Hst := Lib.hid hst.1
        have HKO := Lib.hid hKO
        have HBW := Lib.hid hBW
        have g3 : (x : Int) < (zs.length : Int) := by omega
        have g4 : (0 : Int) ≤ (x : Int) := by omega
        clear hst hr hv hF hO2 hKO hBW hu
        gi_wp2
        exact ⟨(HKO.out.trans (KeepsOthers.setCell _ _ _)).from _, ⟨HBW.out.setCell (p := ⟨g, x, none⟩) hgl _, HbF.out.trans HF0.out.symm⟩, ⟨⟨⟨_, HbR.out, by rw [rowsC_len]; exact Hst.out, trivial⟩, HbF.out⟩, (HB.out.trans HBW.out).setCell (p := ⟨g, x, none⟩) hgl _⟩, HbO.out⟩
  case done =>
    rintro D ys W hD rfl ⟨hI, hO3⟩ hK
    obtain ⟨v, hc, hrow, hB⟩ := hI.done (Nat.le_refl _) (by omega) hK
    have Hrow := Lib.hid hrow
    have HB := Lib.hid hB
    clear hrow hB hI hO3
    gi_wp2
    refine ⟨by simp, .inl ⟨_, _, rfl, run_takeDeferred hK, ?_⟩⟩
    refine ⟨_, results_tmp rfl _ _ _, ?_⟩
    have h9 := Hrow.out
    rw [rowsC_all] at h9
    exact RetS.mk (f := id) (by rw [rowsL_len]; omega) h9 HB.out
  case stop =>
    rintro D cc pre W _ _ h _
    exact h.elim

end Go.Proofs.Ythdbbppahloapaa
