/-
  What a usage brings out of each station, of the program: in whatever order its lines come.
-/
import Derived.Test.YtnekjhpocfdpnaaTfG
import Derived.Test.YtnekjhpocfdpnaaChpK
namespace Go.Proofs.Ytnekjhpocfdpnaa
open Go.RowKit Go.Maps

/-! ### an array of six numbers in its own block -/
def ArAt (W : World) (b : Nat) (O : List Int) : Prop := O.length = 6 ∧ W.heap[b]? = some (.cells (O.map (Value.int .i64)).toArray 49 (0, 0))
section
variable {W W' : World} {b : Nat} {O : List Int}
theorem ArAt.lt (h : ArAt W b O) : b < W.heap.size := (Array.getElem?_eq_some_iff.1 h.2).1
theorem ArAt.cell (h : ArAt W b O) {j : Nat} (hj : j < 6) : W.cell? ⟨b, j, none⟩ = some (.int .i64 (O[j]?.getD 0)) := by
  rw [cell_of_row W b j _ _ _ h.2]
  have : j < O.length := by rw [h.1]; exact hj
  simp [this]
theorem ArAt.frozen (h : ArAt W b O) (o : Nat) : W.frozen? ⟨b, o, none⟩ = false := by simp [World.frozen?, h.2]
theorem ArAt.kept (h : ArAt W b O) {row : Option Nat} (hg : W.grownBy W' row) (hne : some b ≠ row) : ArAt W' b O := ⟨h.1, (hg.block b h.lt hne).trans h.2⟩
theorem ArAt.set (h : ArAt W b O) (j : Nat) (v : Int) : ArAt (W.setCell ⟨b, j, none⟩ (.int .i64 v)) b (O.set j v) := by
  refine ⟨by simpa using h.1, ?_⟩
  have := block_set h.2 j (.int .i64 v)
  rw [this]
  congr 2
  apply Array.ext'
  rw [Array.toList_setIfInBounds]
  simp [List.map_set]
end
theorem ArAt.made (W : World) : ArAt (W.alloc (.cells #[.int .i64 0, .int .i64 0, .int .i64 0, .int .i64 0, .int .i64 0, .int .i64 0] 49)) W.heap.size (List.replicate 6 0) :=
  ⟨rfl, heap_alloc_new W _⟩

/-! ### the lines that have come -/
def dnT (N : List Lin) (L : List Int) (left : Lit → Bool) (s : Int) : Nat → Int
  | 0 => 0
  | k + 1 => dnT N L left s k + (if left (.int .i64 (k : Int)) then 0 else outK N L s k)
def outL (N : List Lin) (L : List Int) (left : Lit → Bool) : List Int := (List.range 6).map (fun s : Nat => dnT N L left (s : Int) N.length)
theorem outL_len (N : List Lin) (L : List Int) (left : Lit → Bool) : (outL N L left).length = 6 := by simp [outL]
theorem outL_at (N : List Lin) (L : List Int) (left : Lit → Bool) {s : Nat} (hs : s < 6) : (outL N L left)[s]?.getD 0 = dnT N L left (s : Int) N.length := by simp [outL, hs]
theorem dnT_start {N : List Lin} {L : List Int} {left : Lit → Bool} (h : ∀ i : Nat, i < N.length → left (.int .i64 (i : Int)) = true) (s : Int) : ∀ k, k ≤ N.length → dnT N L left s k = 0
  | 0, _ => rfl
  | k + 1, hk => by rw [dnT, dnT_start h s k (by omega), if_pos (h k (by omega))]; rfl
theorem dnT_end {N : List Lin} {L : List Int} {left : Lit → Bool} (h : ∀ kl, left kl = false) (s : Int) : ∀ k, dnT N L left s k = outT N L s k
  | 0 => rfl
  | k + 1 => by rw [dnT, outT, dnT_end h s k, h]; rfl
theorem same_self (i : Nat) (h : (Lit.int .i64 (i : Int)).wf = true) : (Lit.int .i64 (i : Int)).sameKey (.int .i64 (i : Int)) = true := WideAt.sameKey_self (keyLit h)
theorem dnT_step {N : List Lin} {L : List Int} {left : Lit → Bool} {i : Nat} (hl : left (.int .i64 (i : Int)) = true) (hw : (Lit.int .i64 (i : Int)).wf = true) (s : Int) : ∀ k, dnT N L (fun z => left z && !z.sameKey (.int .i64 (i : Int))) s k = dnT N L left s k + (if i < k then outK N L s i else 0)
  | 0 => by simp [dnT]
  | k + 1 => by
    rw [dnT, dnT, dnT_step hl hw s k]
    by_cases e : k = i
    · subst e
      have g1 : ¬ k < k := by omega
      have g2 : k < k + 1 := by omega
      simp only [same_self k hw, hl, g1, g2, ↓reduceIte, Bool.not_true, Bool.and_false, Bool.false_eq_true]
      all_goals omega
    · rw [sameKey_ne (lit_inj e), Bool.not_false, Bool.and_true]
      by_cases h1 : i < k
      · have g2 : i < k + 1 := by omega
        simp only [h1, g2, ↓reduceIte]; omega
      · have g2 : ¬ i < k + 1 := by omega
        simp only [h1, g2, ↓reduceIte]; omega
theorem dnT_bd {n : Int} {N : List Lin} {L : List Int} (hn : netB n N = true) (hc : chB N L = true) (left : Lit → Bool) (s : Int) : ∀ k, k ≤ N.length → -18 * (k : Int) ≤ dnT N L left s k ∧ dnT N L left s k ≤ 18 * k
  | 0, _ => by simp [dnT]
  | k + 1, hk => by
    have h1 := dnT_bd hn hc left s k (by omega)
    have h2 := outK_bd hc (fun k hk => (netB_at hn hk).2.2) s (k := k) (by omega)
    rw [dnT]
    split <;> omega
/-- WHAT A ROUND WRITES -/
theorem outL_step {n : Int} {N : List Lin} {L : List Int} {left : Lit → Bool} {i xa xb : Nat} {l : Int} (hn : netB n N = true) (hi : i < N.length) (hl : left (.int .i64 (i : Int)) = true) (hw : (Lit.int .i64 (i : Int)).wf = true) (ha : (linAt N i).a = (xa : Int)) (hb : (linAt N i).b = (xb : Int)) (hv : ldAt L i = l) :
    outL N L (fun z => left z && !z.sameKey (.int .i64 (i : Int))) = ((outL N L left).set xa (dnT N L left (xa : Int) N.length + l)).set xb (dnT N L left (xb : Int) N.length - l) := by
  have h1 := netB_at hn hi
  have h26 := (netB_true.1 hn).1
  have hne : xa ≠ xb := fun e => h1.1.2.2 (by rw [ha, hb, e])
  apply List.ext_getElem
  · simp [outL]
  · intro s h2 h3
    have hs : s < 6 := by simpa [outL] using h2
    have e1 : (outL N L (fun z => left z && !z.sameKey (.int .i64 (i : Int))))[s] = dnT N L left (s : Int) N.length + outK N L (s : Int) i := by
      have := outL_at N L (fun z => left z && !z.sameKey (.int .i64 (i : Int))) hs
      rw [List.getElem?_eq_getElem h2] at this
      rw [dnT_step hl hw, if_pos hi] at this
      exact this
    have e2 : (outL N L left)[s]'(by simpa [outL] using hs) = dnT N L left (s : Int) N.length := by simp [outL]
    refine e1.trans ?_
    rw [List.getElem_set, List.getElem_set, e2, outK, ha, hb, hv]
    by_cases g1 : xb = s
    · subst g1
      have g2 : ¬ (xa : Int) = (xb : Int) := by omega
      simp only [g2, eq_self, ↓reduceIte]; omega
    · have g3 : ¬ (xb : Int) = (s : Int) := by omega
      by_cases g2 : xa = s
      · subst g2
        simp only [g1, g3, eq_self, ↓reduceIte]; omega
      · have g4 : ¬ (xa : Int) = (s : Int) := by omega
        simp only [g1, g2, g3, g4, ↓reduceIte]; omega

set_option maxRecDepth 100000 in
set_option maxHeartbeats 4000000 in
theorem usgOut_c (n : Int) (A : Option Addr) (c B : Nat) (ss : List Lin) (L : List Int) (w : World) (ha : ArgL w A c ss) (hu : Usg w B L) (hn : netB n ss = true) (hc : chB ss L = true) :
    Calls Try.prog 31 #[.map (some B), .slice A ss.length c] w
      (RetB (.agg #[.int .i64 (outV ss L 0), .int .i64 (outV ss L 1), .int .i64 (outV ss L 2), .int .i64 (outV ss L 3), .int .i64 (outV ss L 4), .int .i64 (outV ss L 5)]) w) := by
  have hl := ha.len
  have Hll := Lib.hid (chB_true.1 hc).1
  have hl10 := (netB_true.1 hn).2.1
  have h26 := (netB_true.1 hn).1
  have hul := hu.lt
  obtain ⟨D, hown, hsz, hD⟩ := hu.look
  have HA := Lib.hid ha
  have HD := Lib.hid hD
  have Hn := Lib.hid hn
  have Hc := Lib.hid hc
  have hown2 := fun (o1 o2 : Obj) => ((hown.alloc o1).alloc o2)
  have Hown := Lib.hid hown2
  clear ha hu hn hc hD hown hown2
  have Hsz := Lib.hid (fun (o1 o2 : Obj) => (by simp : ((w.alloc o1).alloc o2).heap.size = w.heap.size + 1 + 1))
  have Har : Hid (∀ o1 : Obj, ArAt ((w.alloc o1).alloc (.cells #[.int .i64 0, .int .i64 0, .int .i64 0, .int .i64 0, .int .i64 0, .int .i64 0] 49)) (w.heap.size + 1) (List.replicate 6 0)) := Lib.hid (fun o1 => by
    have h := ArAt.made (w.alloc o1)
    rwa [show (w.alloc o1).heap.size = w.heap.size + 1 by simp] at h)
  go_enter Try.func31, Try.ntmps31
  go_wp2_with (first
    | (at_range; refine wpList_range_own _ rfl _ 51 rfl 3 3 keyI Try.underlying51 _ B _ _ rfl (Hown.out _ _) ?_; intro w0 hrg0 hg0 hs0)
    | go_in)
  rw [Hsz.out] at hrg0 hs0 ⊢
  have Hb0 : Hid (Below w.heap.size w w0) := Lib.hid ((((Below.refl _ w).alloc (Nat.le_refl _) _).alloc (by simp) _).grown hg0 (by rw [Hsz.out]; omega) (by simp))
  have Har0 := Lib.hid ((Har.out _).kept hg0 (by simp))
  have HarR : Hid (ArAt w0 w.heap.size (List.replicate 6 0)) := Lib.hid ((((ArAt.made w).kept (World.grownBy_alloc _ _ none) (by simp))).kept hg0 (by simp))
  have Hrg0 := Lib.hid hrg0
  clear Har hrg0 hg0 hs0 Hown
  go_frame
  go_loopw [10] (fun _ wr => ∃ (left : Lit → Bool) (cnt : Nat), wr.ranges Try.prog 3 (plainElem Try.prog 3) B (w.heap.size + 1 + 1) L.length D left cnt ∧ (∀ kl, left kl = true → has D kl = true) ∧ ArAt wr (w.heap.size + 1) (outL ss L left) ∧ ArAt wr w.heap.size (List.replicate 6 0) ∧ Below w.heap.size w wr)
    (fun _ wr => wr.rangeLeft B (w.heap.size + 1 + 1))
  case atStart =>
    refine ⟨_, _, Hrg0.out, fun _ h => h, ?_, HarR.out, Hb0.out⟩
    have e : outL ss L (has D) = List.replicate 6 0 := by
      unfold outL
      have : ∀ s : Int, dnT ss L (has D) s ss.length = 0 := fun s => dnT_start (fun i hi => (HD.out.2 _).2 ⟨i, by have := Hll.out; omega, rfl⟩) s ss.length (Nat.le_refl _)
      simp only [this]
      rfl
    rw [e]; exact Har0.out
  case round =>
    obtain ⟨left, cnt, hrg, hsub, har, har2, hb⟩ := hrel
    have Har2 := Lib.hid har2
    have Hb := Lib.hid hb
    have Hsub := Lib.hid hsub
    have Har1 := Lib.hid har
    have Hrg := Lib.hid hrg
    clear hb hsub har har2 hrg
    go_wp2_with (first
      | (at_next; refine wpList_next_ranges_ii _ rfl _ rfl 3 3 .i64 .i64 keyI Try.underlying3 Try.underlying3 B (w.heap.size + 1 + 1) L.length _ _ _ rfl Hrg.out ?_ ?_)
      | go_in)
    · intro _ hl0
      have HL0 := Lib.hid hl0
      clear hl0
      have e : ∀ s : Nat, s < 6 → (outL ss L left)[s]?.getD 0 = outV ss L (s : Int) := fun s hs => by rw [outL_at _ _ _ hs, dnT_end HL0.out]; rfl
      have k0 := Har1.out.cell (j := 0) (by omega)
      have k1 := Har1.out.cell (j := 1) (by omega)
      have k2 := Har1.out.cell (j := 2) (by omega)
      have k3 := Har1.out.cell (j := 3) (by omega)
      have k4 := Har1.out.cell (j := 4) (by omega)
      have k5 := Har1.out.cell (j := 5) (by omega)
      rw [e 0 (by omega)] at k0
      rw [e 1 (by omega)] at k1
      rw [e 2 (by omega)] at k2
      rw [e 3 (by omega)] at k3
      rw [e 4 (by omega)] at k4
      rw [e 5 (by omega)] at k5
      clear e
      have z0 := Har2.out.cell (j := 0) (by omega)
      have z1 := Har2.out.cell (j := 1) (by omega)
      have z2 := Har2.out.cell (j := 2) (by omega)
      have z3 := Har2.out.cell (j := 3) (by omega)
      have z4 := Har2.out.cell (j := 4) (by omega)
      have z5 := Har2.out.cell (j := 5) (by omega)
      have f0 := Har2.out.frozen 0
      have f1 := Har2.out.frozen 1
      have f2 := Har2.out.frozen 2
      have f3 := Har2.out.frozen 3
      have f4 := Har2.out.frozen 4
      have f5 := Har2.out.frozen 5
      go_wp2
      have hF := (((((Har2.out.set 0 (outV ss L 0)).set 1 (outV ss L 1)).set 2 (outV ss L 2)).set 3 (outV ss L 3)).set 4 (outV ss L 4)).set 5 (outV ss L 5)
      have hb6 : Below w.heap.size wr _ := ((((((Below.refl w.heap.size wr).setCell (p := ⟨w.heap.size, 0, none⟩) (Nat.le_refl _) (.int .i64 (outV ss L 0))).setCell (p := ⟨w.heap.size, 1, none⟩) (Nat.le_refl _) (.int .i64 (outV ss L 1))).setCell (p := ⟨w.heap.size, 2, none⟩) (Nat.le_refl _) (.int .i64 (outV ss L 2))).setCell (p := ⟨w.heap.size, 3, none⟩) (Nat.le_refl _) (.int .i64 (outV ss L 3))).setCell (p := ⟨w.heap.size, 4, none⟩) (Nat.le_refl _) (.int .i64 (outV ss L 4))).setCell (p := ⟨w.heap.size, 5, none⟩) (Nat.le_refl _) (.int .i64 (outV ss L 5))
      have q0 := hF.cell (j := 0) (by omega)
      have q1 := hF.cell (j := 1) (by omega)
      have q2 := hF.cell (j := 2) (by omega)
      have q3 := hF.cell (j := 3) (by omega)
      have q4 := hF.cell (j := 4) (by omega)
      have q5 := hF.cell (j := 5) (by omega)
      simp only [List.replicate_succ, List.replicate_zero, List.set_cons_zero, List.set_cons_succ, List.getElem?_cons_zero, List.getElem?_cons_succ, Option.getD_some] at q0 q1 q2 q3 q4 q5
      clear hF k0 k1 k2 k3 k4 k5 z0 z1 z2 z3 z4 z5 f0 f1 f2 f3 f4 f5
      refine bodyPost_ret (v := .agg #[.int .i64 (outV ss L 0), .int .i64 (outV ss L 1), .int .i64 (outV ss L 2), .int .i64 (outV ss L 3), .int .i64 (outV ss L 4), .int .i64 (outV ss L 5)]) ?_ rfl ⟨rfl, Hb.out.trans hb6⟩
      simp [results, Try.results31, go_sem, q0, q1, q2, q3, q4, q5]
    · intro x cv w1 cnt1 hwx hwc hlx hat hrg1 hlt hg1 hs1 hen
      obtain ⟨i, hi, ex⟩ := (HD.out.2 _).1 (Hsub.out _ hlx)
      obtain rfl : x = (i : Int) := by injection ex
      have hcv : cv = ldAt L i := usd_at HD.out hi (hat _)
      have hiN : i < ss.length := by have := Hll.out; omega
      have hB1 : Below w.heap.size w w1 := Hb.out.grown hg1 Hb.out.size (fun r e => by injection e with e; omega)
      have hAr1 := Har1.out.kept hg1 (by intro e; injection e with e; omega)
      have hAr2 := Har2.out.kept hg1 (by intro e; injection e with e; omega)
      obtain ⟨b1, off1, rfl, _, hb1, hc0, hc1, hc2⟩ := (HA.out.rd.below hB1).at_ hiN
      have hnt := netB_at Hn.out hiN
      obtain ⟨xa, hxa⟩ : ∃ xa : Nat, (linAt ss i).a = (xa : Int) := ⟨_, (Int.toNat_of_nonneg hnt.1.1.1).symm⟩
      obtain ⟨xb, hxb⟩ : ∃ xb : Nat, (linAt ss i).b = (xb : Int) := ⟨_, (Int.toNat_of_nonneg hnt.1.2.1.1).symm⟩
      have hst := outL_step (L := L) (left := left) Hn.out hiN hlx hwx hxa hxb hcv.symm
      have hbd9 := ch9 Hn.out Hc.out i hi
      have hda := dnT_bd Hn.out Hc.out left (xa : Int) ss.length (Nat.le_refl _)
      have hdb := dnT_bd Hn.out Hc.out left (xb : Int) ss.length (Nat.le_refl _)
      rw [hxa] at hc0 hnt
      rw [hxb] at hc1 hnt
      rw [← hcv] at hbd9
      have hxa6 : xa < 6 := by omega
      have hxb6 : xb < 6 := by omega
      have hab : xa ≠ xb := by omega
      have ka := hAr1.cell (j := xa) hxa6
      rw [outL_at _ _ _ hxa6] at ka
      obtain ⟨va, hva⟩ : ∃ va, dnT ss L left (xa : Int) ss.length = va := ⟨_, rfl⟩
      obtain ⟨vb, hvb⟩ : ∃ vb, dnT ss L left (xb : Int) ss.length = vb := ⟨_, rfl⟩
      rw [hva] at ka hst hda
      rw [hvb] at hst hdb
      have kb := (hAr1.set xa (va + cv)).cell (j := xb) hxb6
      rw [List.getElem?_set_ne hab, outL_at _ _ _ hxb6, hvb] at kb
      have fa := hAr1.frozen xa
      have fb := (hAr1.set xa (va + cv)).frozen xb
      have Hst := Lib.hid hst
      have HAr1 := Lib.hid hAr1
      have HAr2 := Lib.hid hAr2
      have HB1 := Lib.hid hB1
      have Hrg1 := Lib.hid hrg1
      have Hsub1 : Hid (∀ kl, (left kl && !kl.sameKey (.int .i64 (i : Int))) = true → has D kl = true) := Lib.hid (fun kl h => Hsub.out kl (by rw [Bool.and_eq_true] at h; exact h.1))
      have Hlt := Lib.hid hlt
      have Hwx := Lib.hid hwx
      clear hst hAr1 hAr2 hB1 hrg1 hlt hwx hwc hlx hat hva hvb hg1 hs1 ex hcv hxa hxb
      obtain ⟨p1, p2⟩ := hbd9
      obtain ⟨p3, p4⟩ := hda
      obtain ⟨p5, p6⟩ := hdb
      have g1 : (i : Int) < (ss.length : Int) := by omega
      have g2 : (xa : Int) < 6 := by omega
      have g3 : (xb : Int) < 6 := by omega
      have p7 : -200 ≤ va ∧ va ≤ 200 := by omega
      have p8 : -200 ≤ vb ∧ vb ≤ 200 := by omega
      obtain ⟨p9, p10⟩ := p7
      obtain ⟨p11, p12⟩ := p8
      clear p3 p4 p5 p6 hnt
      go_wp2
      go_roundw
      case rel =>
        have hg2 := grown_set w1 (w.heap.size + 1) xa (.int .i64 (va + cv))
        have hg3 := grown_set (w1.setCell ⟨w.heap.size + 1, xa, none⟩ (.int .i64 (va + cv))) (w.heap.size + 1) xb (.int .i64 (vb - cv))
        have hrow : ∀ r, some (w.heap.size + 1) = some r → w.heap.size ≤ r := fun r e => by injection e with e; omega
        have n1 : some B ≠ some (w.heap.size + 1) := by intro e; injection e with e; omega
        have n2 : some (w.heap.size + 1 + 1) ≠ some (w.heap.size + 1) := by intro e; injection e with e; omega
        have n3 : some w.heap.size ≠ some (w.heap.size + 1) := by intro e; injection e with e; omega
        have s1 := HB1.out.size
        refine ⟨_, cnt1, (Hrg1.out.kept hg2 n1 n2).kept hg3 n1 n2, Hsub1.out, ?_, (HAr2.out.kept hg2 n3).kept hg3 n3, (HB1.out.grown hg2 s1 hrow).grown hg3 (Nat.le_trans s1 hg2.size) hrow⟩
        rw [Hst.out]
        exact (HAr1.out.set xa (va + cv)).set xb (vb - cv)
      case measure =>
        have hg2 := grown_set w1 (w.heap.size + 1) xa (.int .i64 (va + cv))
        have hg3 := grown_set (w1.setCell ⟨w.heap.size + 1, xa, none⟩ (.int .i64 (va + cv))) (w.heap.size + 1) xb (.int .i64 (vb - cv))
        have n1 : some B ≠ some (w.heap.size + 1) := by intro e; injection e with e; omega
        have n2 : some (w.heap.size + 1 + 1) ≠ some (w.heap.size + 1) := by intro e; injection e with e; omega
        rw [((Hrg1.out.kept hg2 n1 n2).kept hg3 n1 n2).left_eq, Hrg.out.left_eq]
        exact Hlt.out

end Go.Proofs.Ytnekjhpocfdpnaa
