/-
  Mathematics of the laws of cables.
-/
import Derived.Test.YtndpdoiomoefpaaExpM
import Derived.Test.YtndpdoiomoefpaaCMiles
import Derived.Test.YtndpdoiomoefpaaCKind
import Derived.Test.YtndpdoiomoefpaaCCut
import Derived.Test.YtndpdoiomoefpaaCSplice
import Derived.Test.YtndpdoiomoefpaaCPlain
import Derived.Test.YtndpdoiomoefpaaCReplace
import Derived.Test.YtndpdoiomoefpaaCBackI
namespace Go.Proofs.Ytndpdoiomoefpaa

theorem cab_ok {ss : List Sec} (h : cabB ss = true) : ∀ s ∈ ss, secOk s = true := (cabB_true.1 h).2
theorem cab_milesM {ss : List Sec} (h : cabB ss = true) : (ss.length : Int) ≤ milesL ss ∧ 1 ≤ milesL ss ∧ milesL ss ≤ 400 ∧ 1 ≤ ss.length ∧ ss.length ≤ 8 := by
  obtain ⟨hl, hok⟩ := cabB_true.1 h
  have hb := (milesL_bd (small_of_ok hok)).2
  have : ∀ l : List Sec, (∀ s ∈ l, secOk s = true) → (l.length : Int) ≤ milesL l := by
    intro l
    induction l with
    | nil => intro _; simp [milesL_nil]
    | cons s r ih =>
      intro hh
      have := secOk_true.1 (hh s (by simp))
      have := ih fun x hx => hh x (by simp [hx])
      rw [milesL_cons, List.length_cons]
      omega
  have := this ss hok
  omega
theorem kindI_in {ss : List Sec} (h : cabB ss = true) {x : Int} (h0 : 0 ≤ x) : kindI ss x = kindAt ss x := by
  unfold kindI
  rw [h, decide_eq_true h0]
  rfl
theorem exp_len_nat {ss : List Sec} (h : cabB ss = true) : (expL ss).length = (milesL ss).toNat := by
  have := exp_length (nonN_ok (cab_ok h))
  omega
theorem kind_get {ss : List Sec} (h : cabB ss = true) {x : Int} (h0 : 0 ≤ x) (h1 : x < milesL ss) : ∃ p, (expL ss)[x.toNat]? = some p ∧ kindI ss x = p.1 ∧ 0 ≤ p.1 ∧ p.1 ≤ 3 := by
  have hl := exp_len_nat h
  have hlt : x.toNat < (expL ss).length := by omega
  have hm := exp_mem (cab_ok h) _ (List.getElem_mem hlt)
  refine ⟨(expL ss)[x.toNat], List.getElem?_eq_getElem hlt, ?_, hm.1⟩
  rw [kindI_in h h0, exp_kind (nonN_ok (cab_ok h)) x h0, List.getElem?_eq_getElem hlt]
  rfl
theorem kindI_outM {ss : List Sec} (h : cabB ss = true) {x : Int} (h1 : milesL ss ≤ x) : kindI ss x = -1 := by
  have := (cab_milesM h).2.1
  rw [kindI_in h (by omega)]
  exact kindAt_out x h1 (cab_ok h)
theorem cab_back {ss : List Sec} (h : cabB ss = true) : cabB ss.reverse = true := by rw [cabB_reverse]; exact h
theorem miles_back (ss : List Sec) : milesL ss.reverse = milesL ss := by
  induction ss with
  | nil => rfl
  | cons s r ih => rw [List.reverse_cons, milesL_snoc, ih, milesL_cons]; omega
theorem ohms_back (ss : List Sec) : ohmsL ss.reverse = ohmsL ss := by
  induction ss with
  | nil => rfl
  | cons s r ih => rw [List.reverse_cons, ohmsL_snoc, ih, ohmsL_cons]; omega
theorem milesI_back (ss : List Sec) : milesI ss.reverse = milesI ss := by unfold milesI; rw [cabB_reverse, miles_back]
theorem allI_back (ss : List Sec) : allI ss.reverse = allI ss := by unfold allI; rw [cabB_reverse, ohms_back]

/-! ### ohms -/
theorem ohmsI_inM {ss : List Sec} (h : cabB ss = true) {x : Int} (h0 : 0 ≤ x) (h1 : x ≤ milesL ss) : ohmsI ss x = ohmsTo ss x := by
  unfold ohmsI
  rw [h, inB_true.2 ⟨h0, h1⟩]
  rfl
theorem ohmsI_outM {ss : List Sec} {x : Int} (h1 : milesL ss < x) : ohmsI ss x = -1 := by
  unfold ohmsI
  rw [inB_false.2 (.inr h1)]
  simp
theorem ohmsTo_bds {ss : List Sec} (h : cabB ss = true) {x : Int} (h0 : 0 ≤ x) (h1 : x ≤ milesL ss) : x ≤ ohmsTo ss x ∧ ohmsTo ss x ≤ 20 * x := by
  have hl := exp_len_nat h
  rw [exp_ohmsTo (cab_ok h) h0]
  have := sum_bd (l := (expL ss).take x.toNat) fun p hp => exp_mem (cab_ok h) p (List.mem_of_mem_take hp)
  rw [List.length_take] at this
  omega
theorem ohmsTo_next {ss : List Sec} (h : cabB ss = true) {x : Int} (h0 : 0 ≤ x) (h1 : x < milesL ss) : ohmsTo ss x < ohmsTo ss (x + 1) ∧ ohmsTo ss (x + 1) ≤ ohmsTo ss x + 20 := by
  have hl := exp_len_nat h
  have hlt : x.toNat < (expL ss).length := by omega
  have hm := exp_mem (cab_ok h) _ (List.getElem_mem hlt)
  rw [exp_ohmsTo (cab_ok h) h0, exp_ohmsTo (cab_ok h) (by omega), show (x + 1).toNat = x.toNat + 1 by omega, List.take_succ_eq_append_getElem hlt, sumO_append, sumO_cons, sumO_nil]
  omega
theorem ohmsTo_ends {ss : List Sec} (h : cabB ss = true) {x : Int} (h0 : 0 ≤ x) (h1 : x ≤ milesL ss) : ohmsTo ss x + ohmsTo ss.reverse (milesL ss - x) = ohmsL ss := by
  have hl := exp_len_nat h
  rw [exp_ohmsTo (cab_ok h) h0, exp_ohmsTo (cab_ok (cab_back h)) (by omega), expL_reverse, ← exp_ohms (nonN_ok (cab_ok h)), List.take_reverse, show (expL ss).length - (milesL ss - x).toNat = x.toNat by omega]
  have hr : ∀ l : List (Int × Int), sumO l.reverse = sumO l := by
    intro l
    induction l with
    | nil => rfl
    | cons a r ih => rw [List.reverse_cons, sumO_append, ih, sumO_cons, sumO_cons, sumO_nil]; omega
  rw [hr, ← sumO_append, List.take_append_drop]
theorem all_bd {ss : List Sec} (h : cabB ss = true) : milesL ss ≤ ohmsL ss ∧ ohmsL ss ≤ 8000 := by
  have hm := cab_milesM h
  have hl := exp_len_nat h
  rw [← exp_ohms (nonN_ok (cab_ok h))]
  have := sum_bd (exp_mem (cab_ok h))
  omega

/-! ### plain -/
theorem plain_ok_cab {ss : List Sec} (h : cabB (plainX ss) = true) : cabB ss = true ∧ plainX ss = plainL ss := by
  cases hc : cabB ss
  · unfold plainX at h
    rw [hc] at h
    cases h
  · exact ⟨rfl, plainX_yes hc⟩
theorem plain_exp {ss : List Sec} (h : cabB ss = true) : expL (plainL ss) = expL ss := (plain_factsE (one_ok (cab_ok h))).2.2
theorem same_exp {a b : List Sec} (ha : cabB a = true) (hb : cabB b = true) (h : expL a = expL b) :
    milesL a = milesL b ∧ ohmsL a = ohmsL b ∧ (∀ x, 0 ≤ x → kindAt a x = kindAt b x) ∧ ∀ x, 0 ≤ x → ohmsTo a x = ohmsTo b x := by
  have la := exp_length (nonN_ok (cab_ok ha))
  have lb := exp_length (nonN_ok (cab_ok hb))
  refine ⟨by rw [← la, ← lb, h], by rw [← exp_ohms (nonN_ok (cab_ok ha)), ← exp_ohms (nonN_ok (cab_ok hb)), h], fun x hx => ?_, fun x hx => ?_⟩
  · rw [exp_kind (nonN_ok (cab_ok ha)) x hx, exp_kind (nonN_ok (cab_ok hb)) x hx, h]
  · rw [exp_ohmsTo (cab_ok ha) hx, exp_ohmsTo (cab_ok hb) hx, h]
theorem plain_laws {ss : List Sec} (h : cabB (plainX ss) = true) :
    cabB (plainL ss) = true ∧ cabL (plainX ss) = plainL ss ∧ plainX (plainL ss) = plainL ss ∧ (plainL ss).length ≤ ss.length ∧ milesI (plainL ss) = milesI ss ∧ allI (plainL ss) = allI ss ∧ (∀ x, ohmsI (plainL ss) x = ohmsI ss x) ∧ ∀ x, kindI (plainL ss) x = kindI ss x := by
  obtain ⟨hc, he⟩ := plain_ok_cab h
  rw [he] at h ⊢
  obtain ⟨s1, s2, s3, s4⟩ := same_exp h hc (plain_exp hc)
  refine ⟨h, cabL_yes h, by rw [plainX_yes h, plain_plain (one_ok (cab_ok hc))], plainL_length ss, by rw [milesI_yes h, milesI_yes hc, s1], by rw [allI_yes h, allI_yes hc, s2], fun x => ?_, fun x => ?_⟩
  · unfold ohmsI
    rw [h, hc, s1]
    cases hi : inB x 0 (milesL ss)
    · rfl
    · simp only [Bool.true_and, if_true]
      exact s4 x (inB_true.1 hi).1
  · unfold kindI
    rw [h, hc]
    by_cases hx : 0 ≤ x
    · simp only [decide_eq_true hx, Bool.and_self, if_true]
      exact s3 x hx
    · simp [hx]

/-! ### cut and splice -/
theorem cutOk_true {ss : List Sec} {x : Int} (h : cutOk ss x = true) : cabB ss = true ∧ 1 ≤ x ∧ x ≤ milesL ss - 1 := by
  unfold cutOk at h
  rw [Bool.and_eq_true, inB_true] at h
  exact ⟨h.1, h.2.1, h.2.2⟩
theorem cut_laws {ss : List Sec} {x : Int} (h : cutOk ss x = true) :
    cabB (cutA ss x) = true ∧ cabB (cutB ss x) = true ∧ milesI (cutA ss x) = x ∧ milesI (cutB ss x) = milesI ss - x ∧ allI (cutA ss x) + allI (cutB ss x) = allI ss ∧ plainL (cutA ss x ++ cutB ss x) = plainL ss := by
  obtain ⟨hc, h0, h1⟩ := cutOk_true h
  have ea : cutA ss x = partL ss 0 x := by unfold cutA; rw [if_pos h]
  have eb : cutB ss x = partL ss x (milesL ss) := by unfold cutB; rw [if_pos h]
  rw [ea, eb]
  have pa := part_cab hc (Int.le_refl 0) (show 0 < x by omega) (by omega)
  have pb := part_cab hc (show 0 ≤ x by omega) (show x < milesL ss by omega) (Int.le_refl _)
  have e2 := exp_two ss (nonN_ok (cab_ok hc)) (x := x)
  refine ⟨pa.1, pb.1, by rw [milesI_yes pa.1, pa.2]; omega, by rw [milesI_yes pb.1, pb.2, milesI_yes hc], ?_, ?_⟩
  · rw [allI_yes pa.1, allI_yes pb.1, allI_yes hc, ← exp_ohms (nonN_ok (cab_ok pa.1)), ← exp_ohms (nonN_ok (cab_ok pb.1)), ← exp_ohms (nonN_ok (cab_ok hc)), ← sumO_append, ← expL_append, e2]
  · refine plain_same (fun s hs => ?_) (one_ok (cab_ok hc)) e2
    rw [List.mem_append] at hs
    rcases hs with hs | hs
    · exact one_ok (cab_ok pa.1) s hs
    · exact one_ok (cab_ok pb.1) s hs
theorem splice_true {xs ys : List Sec} (h : spliceOk xs ys = true) : cabB xs = true ∧ cabB ys = true ∧ cabB (xs ++ ys) = true := by
  unfold spliceOk at h
  rw [Bool.and_eq_true, Bool.and_eq_true] at h
  exact ⟨h.1.1, h.1.2, h.2⟩
theorem splice_yes {xs ys : List Sec} (h : spliceOk xs ys = true) : spliceL xs ys = xs ++ ys := by unfold spliceL; rw [if_pos h]
/-- a plain cable of a spliced one: the same as of the whole -/
theorem cut_plain {ss : List Sec} {x : Int} (h : cutOk ss x = true) (h2 : spliceOk (cutA ss x) (cutB ss x) = true) : plainX (spliceL (cutA ss x) (cutB ss x)) = plainX ss := by
  rw [splice_yes h2, plainX_yes (splice_true h2).2.2, plainX_yes (cutOk_true h).1, (cut_laws h).2.2.2.2.2]
theorem splice_laws {xs ys : List Sec} (h : spliceOk xs ys = true) :
    cutOk (spliceL xs ys) (milesI xs) = true ∧ cutA (spliceL xs ys) (milesI xs) = xs ∧ cutB (spliceL xs ys) (milesI xs) = ys ∧ milesI (spliceL xs ys) = milesI xs + milesI ys ∧ allI (spliceL xs ys) = allI xs + allI ys := by
  obtain ⟨hx, hy, hz⟩ := splice_true h
  have mx := cab_milesM hx
  have my := cab_milesM hy
  have hc : cutOk (xs ++ ys) (milesL xs) = true := cutOk_in hz (inB_true.2 (by rw [milesL_append]; omega))
  obtain ⟨c1, c2⟩ := cut_splice (one_ok (cab_ok hx)) (one_ok (cab_ok hy))
  rw [splice_yes h, milesI_yes hx, milesI_yes hy, milesI_yes hz, allI_yes hx, allI_yes hy, allI_yes hz]
  refine ⟨hc, ?_, ?_, milesL_append _ _, ohmsL_append _ _⟩
  · unfold cutA; rw [if_pos hc, c1]
  · unfold cutB; rw [if_pos hc, c2]

/-! ### from the other end -/
theorem back_back {ss : List Sec} (h : cabB ss = true) : backL ss = ss.reverse ∧ backL ss.reverse = ss := by
  rw [backL_yes h, backL_yes (cab_back h), List.reverse_reverse]
  exact ⟨rfl, rfl⟩
theorem back_plain {ss : List Sec} (h : cabB ss = true) : plainX ss.reverse = (plainX ss).reverse := by
  rw [plainX_yes h, plainX_yes (cab_back h), plain_reverse (one_ok (cab_ok h))]
theorem kind_back {ss : List Sec} (h : cabB ss = true) {x : Int} (h0 : 0 ≤ x) (h1 : x < milesL ss) : kindI ss.reverse (milesL ss - 1 - x) = kindI ss x := by
  have hl := exp_len_nat h
  rw [kindI_in h h0, kindI_in (cab_back h) (by omega), exp_kind (nonN_ok (cab_ok h)) x h0, exp_kind (nonN_ok (cab_ok (cab_back h))) _ (by omega), expL_reverse, List.getElem?_reverse (by omega), show (expL ss).length - 1 - (milesL ss - 1 - x).toNat = x.toNat by omega]

/-! ### replaced miles -/
theorem replace_true {ss : List Sec} {f t k o : Int} (h : replaceOk ss f t k o = true) : (cabB ss = true ∧ 0 ≤ f ∧ f < t ∧ t ≤ milesL ss) ∧ cabB (replaceM ss f t k o) = true := by
  unfold replaceOk at h
  rw [Bool.and_eq_true, replaceIn_true] at h
  exact h
theorem replace_yes {ss : List Sec} {f t k o : Int} (h : replaceOk ss f t k o = true) : replaceL ss f t k o = replaceM ss f t k o := by unfold replaceL; rw [if_pos h]
theorem replace_exp {ss : List Sec} {f t k o : Int} (h : replaceOk ss f t k o = true) : expL (replaceL ss f t k o) = (expL ss).take f.toNat ++ List.replicate (t - f).toNat (k, o) ++ (expL ss).drop t.toNat := by
  obtain ⟨⟨hc, h0, h1, h2⟩, _⟩ := replace_true h
  have hl := exp_len_nat hc
  rw [replace_yes h]
  unfold replaceM
  rw [expL_append, expL_append, expL_one, exp_partL _ _ (nonN_ok (cab_ok hc)), exp_partL _ _ (nonN_ok (cab_ok hc)), show (0 : Int).toNat = 0 from rfl, List.drop_zero, show (milesL ss).toNat = (expL ss).length by omega, List.take_length]
  rfl
theorem replace_laws {ss : List Sec} {f t k o : Int} (h : replaceOk ss f t k o = true) :
    milesI (replaceL ss f t k o) = milesI ss ∧ allI (replaceL ss f t k o) - allI ss = (t - f) * o - (ohmsI ss t - ohmsI ss f) ∧ ∀ m, 0 ≤ m → m < milesL ss → kindI (replaceL ss f t k o) m = if f ≤ m ∧ m < t then k else kindI ss m := by
  obtain ⟨⟨hc, h0, h1, h2⟩, hr⟩ := replace_true h
  have he := replace_exp h
  rw [← replace_yes h] at hr
  have hl := exp_len_nat hc
  have hl2 := exp_len_nat hr
  have hm2 := (cab_milesM hr).2.1
  have hm1 := (cab_milesM hc).2.1
  have hlen : (expL (replaceL ss f t k o)).length = (expL ss).length := by
    rw [he, List.length_append, List.length_append, List.length_take, List.length_replicate, List.length_drop]
    omega
  have hml : milesL (replaceL ss f t k o) = milesL ss := by omega
  refine ⟨by rw [milesI_yes hr, milesI_yes hc, hml], ?_, fun m m0 m1 => ?_⟩
  · rw [allI_yes hr, allI_yes hc, ohmsI_inM hc (by omega) h2, ohmsI_inM hc h0 (by omega), exp_ohmsTo (cab_ok hc) (by omega), exp_ohmsTo (cab_ok hc) h0, ← exp_ohms (nonN_ok (cab_ok hr)), ← exp_ohms (nonN_ok (cab_ok hc)), he, sumO_append, sumO_append, sumO_rep, Int.toNat_of_nonneg (by omega)]
    have : sumO (expL ss) = sumO ((expL ss).take t.toNat) + sumO ((expL ss).drop t.toNat) := by rw [← sumO_append, List.take_append_drop]
    omega
  · rw [kindI_in hr m0, kindI_in hc m0, exp_kind (nonN_ok (cab_ok hr)) m m0, exp_kind (nonN_ok (cab_ok hc)) m m0, he]
    rcases Int.lt_or_le m f with h3 | h3
    · rw [if_neg (by omega), List.append_assoc, List.getElem?_append_left (by rw [List.length_take]; omega), List.getElem?_take_of_lt (by omega)]
    · rcases Int.lt_or_le m t with h4 | h4
      · rw [if_pos ⟨h3, h4⟩, List.append_assoc, List.getElem?_append_right (by rw [List.length_take]; omega), List.getElem?_append_left (by rw [List.length_take, List.length_replicate]; omega), List.getElem?_replicate, if_pos (by rw [List.length_take]; omega)]
        rfl
      · rw [if_neg (by omega), List.getElem?_append_right (by rw [List.length_append, List.length_take, List.length_replicate]; omega), List.getElem?_drop, List.length_append, List.length_take, List.length_replicate, show t.toNat + (m.toNat - (min f.toNat (expL ss).length + (t - f).toNat)) = m.toNat by omega]
end Go.Proofs.Ytndpdoiomoefpaa
