/-
  CableReplace of both.
-/
import Derived.Test.YtndpdoiomoefpaaCSplice
namespace Go.Proofs.Ytndpdoiomoefpaa
open Go.RowKit

def replaceIn (ss : List Sec) (f t : Int) : Bool := cabB ss && decide (0 ≤ f) && decide (f < t) && decide (t ≤ milesL ss)
def replaceM (ss : List Sec) (f t k o : Int) : List Sec := partL ss 0 f ++ [⟨t - f, k, o⟩] ++ partL ss t (milesL ss)
def replaceOk (ss : List Sec) (f t k o : Int) : Bool := replaceIn ss f t && cabB (replaceM ss f t k o)
def replaceL (ss : List Sec) (f t k o : Int) : List Sec := if replaceOk ss f t k o then replaceM ss f t k o else []
theorem replaceIn_true {ss : List Sec} {f t : Int} : replaceIn ss f t = true ↔ cabB ss = true ∧ 0 ≤ f ∧ f < t ∧ t ≤ milesL ss := by
  unfold replaceIn
  simp only [Bool.and_eq_true, decide_eq_true_eq, and_assoc]
theorem replaceIn_not {ss : List Sec} {f t : Int} (h : ¬ (cabB ss = true ∧ 0 ≤ f ∧ f < t ∧ t ≤ milesL ss)) : replaceIn ss f t = false := by
  rw [Bool.eq_false_iff]
  exact fun h2 => h (replaceIn_true.1 h2)
theorem replace_out {ss : List Sec} {f t : Int} (h : replaceIn ss f t = false) (k o : Int) : replaceOk ss f t k o = false ∧ replaceL ss f t k o = [] := by
  have h1 : replaceOk ss f t k o = false := by unfold replaceOk; rw [h]; rfl
  refine ⟨h1, ?_⟩
  unfold replaceL
  rw [h1]
  rfl
theorem replace_in {ss : List Sec} {f t : Int} (h : replaceIn ss f t = true) (k o : Int) : replaceOk ss f t k o = cabB (replaceM ss f t k o) ∧ replaceL ss f t k o = cabL (replaceM ss f t k o) := by
  have h1 : replaceOk ss f t k o = cabB (replaceM ss f t k o) := by unfold replaceOk; rw [h]; rfl
  refine ⟨h1, ?_⟩
  unfold replaceL cabL
  rw [h1]

set_option maxRecDepth 100000 in
set_option maxHeartbeats 1000000 in
theorem implCableReplace_b (A : Option Addr) (c : Nat) (ss : List Sec) (f t k o : Int) (w : World) (ha : ArgC w A c ss) (hf : -9223372036854775808 ≤ f ∧ f ≤ 9223372036854775807) (ht : -9223372036854775808 ≤ t ∧ t ≤ 9223372036854775807) :
    Calls Try.prog 61 #[.slice A ss.length c, .int .i64 f, .int .i64 t, .int .i64 k, .int .i64 o] w (RetC 54 (fun v => .tuple #[v, .bool (replaceOk ss f t k o)]) (replaceL ss f t k o) w) := by
  have HA := Lib.hid ha
  clear ha
  cases hv : cabB ss
  · obtain ⟨n1, n2⟩ := replace_out (replaceIn_not (fun h => by rw [hv] at h; cases h.1)) k o (ss := ss) (f := f) (t := t)
    rw [n1, n2]
    have Hv := Lib.hid hv
    clear hv n1 n2
    go_enter Try.func61, Try.ntmps61
    go_wp2_with fail
    refine (chainOf_no A c ss _ HA.out Hv.out).mono ?_
    rintro e w1 ⟨rfl, hb⟩
    have Hb := Lib.hid hb
    clear hb
    go_wp2
    go_ret2
    exact RetC.nil (f := fun v => .tuple #[v, .bool false]) Hb.out
  have hl := (cab_len hv).2
  have hm0 := (cab_miles hv).1
  have hm := (cab_miles hv).2
  by_cases hf0 : f < 0
  · obtain ⟨n1, n2⟩ := replace_out (replaceIn_not (fun h => by omega)) k o (ss := ss) (f := f) (t := t)
    rw [n1, n2]
    have Hv := Lib.hid hv
    clear hv n1 n2
    have g0 : decide (f < 0) = true := by simp; omega
    go_enter Try.func61, Try.ntmps61
    go_wp2_with fail
    refine (chainOf_yes A c ss _ HA.out Hv.out).mono ?_
    rintro e w1 ⟨C, ns, rfl, hn, hC, hb⟩
    dsimp only
    have Hb := Lib.hid hb
    clear hb hC hn
    go_wp2
    go_ret2
    exact RetC.nil (f := fun v => .tuple #[v, .bool false]) Hb.out
  have g0 : decide (f < 0) = false := by simp; omega
  by_cases hft : t ≤ f
  · obtain ⟨n1, n2⟩ := replace_out (replaceIn_not (fun h => by omega)) k o (ss := ss) (f := f) (t := t)
    rw [n1, n2]
    have Hv := Lib.hid hv
    clear hv n1 n2
    have g1 : decide (t ≤ f) = true := by simp; omega
    go_enter Try.func61, Try.ntmps61
    go_wp2_with fail
    refine (chainOf_yes A c ss _ HA.out Hv.out).mono ?_
    rintro e w1 ⟨C, ns, rfl, hn, hC, hb⟩
    dsimp only
    have Hb := Lib.hid hb
    clear hb hC hn
    go_wp2
    go_ret2
    exact RetC.nil (f := fun v => .tuple #[v, .bool false]) Hb.out
  have g1 : decide (t ≤ f) = false := by simp; omega
  by_cases htm : milesL ss < t
  · obtain ⟨n1, n2⟩ := replace_out (replaceIn_not (fun h => by omega)) k o (ss := ss) (f := f) (t := t)
    rw [n1, n2]
    have Hv := Lib.hid hv
    clear hv n1 n2
    have g2 : decide (milesL ss < t) = true := by simp; omega
    go_enter Try.func61, Try.ntmps61
    go_wp2_with fail
    refine (chainOf_yes A c ss _ HA.out Hv.out).mono ?_
    rintro e w1 ⟨C, ns, rfl, hn, hC, hb⟩
    dsimp only
    have Hb := Lib.hid hb
    have HC := Lib.hid hC
    have Hn := Lib.hid hn
    clear hb hC hn
    go_wp2_with fail
    refine (miles_c _ C ns ss _ HC.out Hn.out (small_mono (cab_small Hv.out) (by omega)) (by omega)).mono ?_
    rintro e w2 ⟨rfl, rfl⟩
    go_wp2
    go_ret2
    exact RetC.nil (f := fun v => .tuple #[v, .bool false]) Hb.out
  · have g2 : decide (milesL ss < t) = false := by simp; omega
    obtain ⟨n1, n2⟩ := replace_in (ss := ss) (f := f) (t := t) (replaceIn_true.2 ⟨hv, by omega, by omega, by omega⟩) k o
    rw [n1, n2]
    have Hv := Lib.hid hv
    have p1 := partL_length ss 0 f
    have p2 := partL_length ss t (milesL ss)
    have Hq := Lib.hid (And.intro p1 p2)
    clear hv n1 n2 p1 p2
    go_enter Try.func61, Try.ntmps61
    go_wp2_with fail
    refine (chainOf_yes A c ss _ HA.out Hv.out).mono ?_
    rintro e w1 ⟨C, ns, rfl, hn, hC, hb⟩
    dsimp only
    have Hb := Lib.hid hb
    have HC := Lib.hid hC.bound
    have Hn := Lib.hid hn
    clear hb hC hn
    go_wp2_with fail
    refine (miles_c _ C ns ss _ HC.out Hn.out (small_mono (cab_small Hv.out) (by omega)) (by omega)).mono ?_
    rintro e w2 ⟨rfl, rfl⟩
    go_wp2_with fail
    refine (part_c _ C ns ss 0 f _ HC.out Hn.out (small_mono (cab_small Hv.out) (by omega)) (by omega) (by omega) (by omega) (by omega) (by omega)).mono ?_
    rintro e w3 ⟨D, ms, rfl, hms, hD, hb3⟩
    dsimp only [id]
    have Hb3 := Lib.hid (below_step Hb.out hb3)
    have HC3 := Lib.hid (HC.out.go hb3)
    have HD := Lib.hid hD
    have Hms := Lib.hid hms
    have s13 := hb3.size
    have s01 := Hb.out.size
    clear hb3 hD hms HC
    go_wp2_with fail
    refine (add_c (fun k => w1.heap.size ≤ k) D ms ⟨t - f, k, o⟩ _ HD.out (fun k hk => by omega)).mono ?_
    rintro e w4 ⟨⟨v4, rfl⟩, ⟨N, hD4⟩, hf4⟩
    have Hb4 := Lib.hid (Hb3.out.trans (hf4.below (B := w.heap.size) (by omega) (fun k hk hp => by omega)))
    have HC4 := Lib.hid (HC3.out.kept hf4 (fun k _ hp hq => by omega))
    have HD4 := Lib.hid hD4.bound
    have s34 := hf4.size
    clear hD4 hf4 HC3
    go_wp2_with fail
    refine (miles_c _ C ns ss _ HC4.out Hn.out (small_mono (cab_small Hv.out) (by omega)) (by omega)).mono ?_
    rintro e w5 ⟨rfl, rfl⟩
    go_wp2_with fail
    refine (part_c _ C ns ss t (milesL ss) _ HC4.out Hn.out (small_mono (cab_small Hv.out) (by omega)) (by omega) (by omega) (by omega) (by omega) (by omega)).mono ?_
    rintro e w5 ⟨E, es, rfl, hes, hE, hb5⟩
    dsimp only [id]
    have Hb5 := Lib.hid (below_step Hb4.out hb5)
    have HE := Lib.hid hE
    have Hes := Lib.hid hes
    have hD5 := (HD4.out.go hb5).mono (Q := fun k => (w1.heap.size ≤ k ∧ k < w4.heap.size) ∨ w5.heap.size ≤ k) (fun k h => .inl h)
    have HD5 := Lib.hid hD5
    have s45 := hb5.size
    clear hb5 hE hes hD5 HD4
    go_wp2_with fail
    refine (join_c (fun k => (w1.heap.size ≤ k ∧ k < w4.heap.size) ∨ w5.heap.size ≤ k) (fun k => w4.heap.size ≤ k) D E _ es _ HD5.out HE.out (fun k h1 h2 h3 => by omega) (fun k hk => .inr hk)).mono ?_
    rintro e w6 ⟨⟨v6, rfl⟩, ⟨rs, hD6, hrs⟩, hf6⟩
    have HD6 := Lib.hid hD6
    have Hrs := Lib.hid (show secs rs = replaceM ss f t k o by rw [hrs, secs_snoc, Hms.out, Hes.out]; rfl)
    have Hb6 := Lib.hid (Hb5.out.trans (hf6.below (B := w.heap.size) (by omega) (fun k hk hp => by omega)))
    clear hD6 hrs hf6
    go_wp2_with fail
    refine (cable_c _ D rs _ _ HD6.out Hrs.out (by have := Hq.out; simp [replaceM]; omega)).mono ?_
    rintro e w7 ⟨A1, c1, rfl, ra, ro, rb⟩
    dsimp only
    have Hb7 := Lib.hid (below_step Hb6.out rb)
    have Ra := Lib.hid ra
    have Ro := Lib.hid (ro.more Hb6.out.size (Nat.le_refl _))
    clear ra ro rb
    go_wp2
    go_ret2
    exact ⟨A1, c1, rfl, Ra.out, Ro.out, Hb7.out⟩

theorem repX {ss : List Sec} {f t : Int} (h : inB t 1 (milesI ss) = true) (h2 : inB f 0 (t - 1) = true) : cabB ss = true ∧ replaceIn ss f t = true := by
  rw [inB_true] at h h2
  cases hv : cabB ss
  · rw [milesI_no hv] at h
    omega
  · rw [milesI_yes hv] at h
    exact ⟨rfl, replaceIn_true.2 ⟨hv, by omega, by omega, by omega⟩⟩
theorem repX_no {ss : List Sec} {f t : Int} (h : inB t 1 (milesI ss) = false) : replaceIn ss f t = false := by
  refine replaceIn_not (fun ⟨hv, h1, h2, h3⟩ => ?_)
  rw [milesI_yes hv, inB_false] at h
  omega
theorem repX_no2 {ss : List Sec} {f t : Int} (h : inB f 0 (t - 1) = false) : replaceIn ss f t = false := by
  refine replaceIn_not (fun ⟨hv, h1, h2, h3⟩ => ?_)
  rw [inB_false] at h
  omega

set_option maxRecDepth 100000 in
set_option maxHeartbeats 2000000 in
theorem specCableReplace_b (A : Option Addr) (c : Nat) (ss : List Sec) (f t k o : Int) (w : World) (ha : ArgC w A c ss) (hf : -9223372036854775808 ≤ f ∧ f ≤ 9223372036854775807) (ht : -9223372036854775808 ≤ t ∧ t ≤ 9223372036854775807) :
    Calls Try.prog 72 #[.slice A ss.length c, .int .i64 f, .int .i64 t, .int .i64 k, .int .i64 o] w (RetC 54 (fun v => .tuple #[v, .bool (replaceOk ss f t k o)]) (replaceL ss f t k o) w) := by
  obtain ⟨i0, hi, hz0, hz1, hz2⟩ := info_parts section_info
  have HA := Lib.hid ha
  obtain ⟨hm0, hm1⟩ := milesI_bd ss
  clear ha
  cases h1 : inB t 1 (milesI ss)
  · obtain ⟨n1, n2⟩ := replace_out (repX_no (f := f) h1) k o
    rw [n1, n2]
    have H1 := Lib.hid h1
    clear h1 n1 n2
    go_enter Try.func72, Try.ntmps72
    go_wp2_with fail
    refine (specCableMiles_b A c ss _ HA.out).mono ?_
    rintro e w1 ⟨rfl, hb⟩
    have Hb := Lib.hid hb
    clear hb
    go_wp2_with fail
    refine (l6In_c _ _ _ _).mono ?_
    rintro e w2 ⟨rfl, rfl⟩
    rw [H1.out]
    go_wp2
    go_ret2
    exact RetC.made (f := fun v => .tuple #[v, .bool false]) Hb.out
  have ht1 := (inB_true.1 h1).1
  have ht2 := (inB_true.1 h1).2
  cases h2 : inB f 0 (t - 1)
  · obtain ⟨n1, n2⟩ := replace_out (repX_no2 (ss := ss) h2) k o
    rw [n1, n2]
    have H1 := Lib.hid h1
    have H2 := Lib.hid h2
    clear h1 h2 n1 n2
    go_enter Try.func72, Try.ntmps72
    go_wp2_with fail
    refine (specCableMiles_b A c ss _ HA.out).mono ?_
    rintro e w1 ⟨rfl, hb⟩
    have Hb := Lib.hid hb
    clear hb
    go_wp2_with fail
    refine (l6In_c _ _ _ _).mono ?_
    rintro e w2 ⟨rfl, rfl⟩
    rw [H1.out]
    go_wp2_with fail
    refine (l6In_c _ _ _ _).mono ?_
    rintro e w2 ⟨rfl, rfl⟩
    rw [H2.out]
    go_wp2
    go_ret2
    exact RetC.made (f := fun v => .tuple #[v, .bool false]) Hb.out
  · obtain ⟨hv, hin⟩ := repX h1 h2
    obtain ⟨n1, n2⟩ := replace_in hin k o
    rw [n1, n2]
    have hf1 := (inB_true.1 h2).1
    have hf2 := (inB_true.1 h2).2
    have hl := (cab_len hv).2
    have Hmi := Lib.hid (milesI_yes hv)
    have hml := (cab_miles hv).2
    have hml0 := (cab_miles hv).1
    have Hv := Lib.hid hv
    have H1 := Lib.hid h1
    have H2 := Lib.hid h2
    obtain ⟨P1, hP1⟩ : ∃ p, partL ss 0 f = p := ⟨_, rfl⟩
    obtain ⟨P2, hP2⟩ : ∃ p, partL ss t (milesL ss) = p := ⟨_, rfl⟩
    obtain ⟨Q1, hQ1⟩ : ∃ q, P1 ++ [⟨t - f, k, o⟩] = q := ⟨_, rfl⟩
    obtain ⟨Q2, hQ2⟩ : ∃ q, Q1 ++ P2 = q := ⟨_, rfl⟩
    have HR := Lib.hid (show replaceM ss f t k o = Q2 by unfold replaceM; rw [hP1, hP2, hQ1, hQ2])
    have hl1 : P1.length ≤ 8 := by rw [← hP1]; have := partL_length ss 0 f; omega
    have hl2 : P2.length ≤ 8 := by rw [← hP2]; have := partL_length ss t (milesL ss); omega
    have hlq : Q1.length = P1.length + 1 := by rw [← hQ1]; simp
    have hlq2 : Q2.length ≤ 17 := by rw [← hQ2, List.length_append]; omega
    have Hlq := Lib.hid hlq
    have hlq1 : Q1.length ≤ 9 := by omega
    have hsq : secCells Q1 = secCells P1 ++ secCell ⟨t - f, k, o⟩ := by rw [← hQ1, secCells_snoc]
    have Hsq := Lib.hid hsq
    have HP1 := Lib.hid hP1
    have HP2 := Lib.hid hP2
    have HQ2 := Lib.hid hQ2
    rw [HR.out]
    clear hv h1 h2 n1 n2 hin hP1 hP2 hQ1 hQ2 hlq hsq
    go_enter Try.func72, Try.ntmps72
    go_wp2_with fail
    refine (specCableMiles_b A c ss _ HA.out).mono ?_
    rintro e w1 ⟨rfl, hb⟩
    have Hb := Lib.hid hb
    clear hb
    go_wp2_with fail
    refine (l6In_c _ _ _ _).mono ?_
    rintro e w2 ⟨rfl, rfl⟩
    rw [H1.out]
    go_wp2_with fail
    refine (l6In_c _ _ _ _).mono ?_
    rintro e w2 ⟨rfl, rfl⟩
    rw [H2.out, Hmi.out]
    go_wp2_with fail
    refine (l2Part_c A c ss 0 f _ (HA.out.go Hb.out) (cab_small Hv.out) (by omega) (by omega) (by omega) (by omega) (by omega)).mono ?_
    rw [HP1.out]
    rintro e w3 ⟨A1, c1, rfl, ra, ro, rb⟩
    dsimp only [id]
    have Hb3 := Lib.hid (below_step Hb.out rb)
    have HO1 := Lib.hid (OwnsRow.more ro.1 Hb.out.size)
    clear ra ro rb
    go_wp2_with (first
      | (at_builtin; refine wpList_append_own _ rfl (.tmp 30) (.tmp 37) 45 rfl w.heap.size 54 i0 _ 3 24 Try.underlying45 hi hz0 hz1 hz2 rfl (by decide) _ _ _ rfl (HO1.out.alloc _) ⟨w3.heap.size, 0, none⟩ 1 1 (secCell ⟨t - f, k, o⟩) rfl rfl (secCell_new _ ⟨t - f, k, o⟩ _) (secCell_one _) (by unfold maxLen; omega) (by omega) (by have := Hb3.out.size; simp; omega) ?_; intro v4 w4 hown4 hg4 _; have HB4 := Lib.hid ((Hb3.out.alloc Hb3.out.size _).grown hg4 (by have := Hb3.out.size; simp; omega) (fun r e => (HO1.out.lt r e).1)); rw [← Hlq.out, ← Hsq.out] at hown4; have HO4 := Lib.hid hown4; clear hown4 hg4)
      | fail)
    refine (l2Part_c A c ss t (milesL ss) _ (HA.out.go HB4.out) (cab_small Hv.out) (by omega) (by omega) (by omega) (by omega) (by omega)).mono ?_
    rw [HP2.out]
    rintro e w5 ⟨A2, c2, rfl, ra, ro, rb⟩
    dsimp only [id]
    have Hb5 := Lib.hid (HB4.out.trans (rb.mono HB4.out.size))
    have HO5 := Lib.hid (own_below HO4.out rb)
    have Ra2 := Lib.hid ra
    clear ra ro rb
    go_wp2_with (first
      | (at_builtin; refine wpList_append_secs rfl (.tmp 39) (.tmp 43) 45 rfl w.heap.size 54 i0 _ Try.underlying45 hi hz0 hz1 hz2 rfl _ Q1 rfl HO5.out A2 c2 P2 rfl Ra2.out (by omega) Hb5.out.size ?_; intro v6 w6 hown6 hg6; have HB6 := Lib.hid (Hb5.out.grown hg6 Hb5.out.size (fun r e => (HO5.out.lt r e).1)); clear hg6; rw [HQ2.out] at hown6; obtain ⟨A9, c9, rfl, _, _, _⟩ := (OwC.of_own hown6).form; have HO6 := Lib.hid hown6; clear hown6)
      | fail)
    have ho6 := OwC.of_own HO6.out
    have Ra := Lib.hid (ho6.arg (by omega) (Nat.le_refl _))
    have Ro := Lib.hid ho6
    clear ho6 HO6
    refine (specCableValid_c A9 c9 Q2 _ Ra.out).mono ?_
    rintro e w7 ⟨rfl, hb7⟩
    have HB7 := Lib.hid (HB6.out.trans (hb7.mono HB6.out.size))
    have Ra7 := Lib.hid (Ra.out.go hb7)
    have Ro7 := Lib.hid ((Ro.out.go hb7 (Nat.le_refl _)).more (Nat.le_refl _) hb7.size)
    clear hb7
    cases hv3 : cabB Q2
    · have Hv3 := Lib.hid hv3
      clear hv3
      go_wp2
      go_ret2
      rw [Hv3.out, cabL_no Hv3.out]
      exact RetC.made (f := fun v => .tuple #[v, .bool false]) HB7.out
    · have Hv3 := Lib.hid hv3
      clear hv3
      go_wp2
      go_ret2
      rw [Hv3.out, cabL_yes Hv3.out]
      exact ⟨A9, c9, rfl, Ra7.out, Ro7.out, HB7.out⟩

end Go.Proofs.Ytndpdoiomoefpaa
