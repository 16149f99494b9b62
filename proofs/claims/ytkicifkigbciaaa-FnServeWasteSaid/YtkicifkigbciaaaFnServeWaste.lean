/-
  The law FnServeWaste: for every code the law answers true. No condition.
-/
import Derived.Test.YtkicifkigbciaaaFac
import Derived.Test.YtkicifkigbciaaaZDrawW
import Derived.Test.YtkicifkigbciaaaFitM
import Derived.Test.YtkicifkigbciaaaSvW
import Derived.Test.YtkicifkigbciaaaRowB
import Derived.BigQuiet
namespace Go.Proofs.Ytkicifkigbciaaa
open Go.ChangeShapes Go.WideShapes Go.ChangeAt Go.RowKit

theorem serv_row {L Nd : List Spr} {x : List Int} : ∀ k, k ≤ x.length → servTo L Nd x k → x.take k ∈ rows (sf L Nd) L.length k
  | 0, _, _ => by simp [rows]
  | k + 1, hk, h => by
    rw [rows, List.mem_flatMap]
    have h1 := h k (by omega)
    rw [List.getElem?_eq_getElem (by omega)] at h1
    simp only [Option.getD_some] at h1
    refine ⟨x.take k, serv_row k (by omega) (fun j hj => h j (by omega)), ext_mem.2 ⟨(x[k]).toNat, by omega, ?_, ?_⟩⟩
    · rw [Int.toNat_of_nonneg h1.1.1]; exact h1.2
    · rw [Int.toNat_of_nonneg h1.1.1, List.take_succ_eq_append_getElem (by omega)]
theorem serv_mem {L Nd : List Spr} {x : List Int} (h : servB L Nd x = true) : x ∈ allS L Nd := by
  obtain ⟨_, h2, h3⟩ := servB_true h
  have := serv_row x.length (Nat.le_refl _) h3
  rw [List.take_length, h2] at this
  exact this
theorem row_serv {L Nd : List Spr} : ∀ (k : Nat) (y : List Int), y ∈ rows (sf L Nd) L.length k → y.length = k ∧ servTo L Nd y k
  | 0, y, h => by
    simp only [rows, List.mem_singleton] at h
    subst h
    exact ⟨rfl, servTo_zero _ _ _⟩
  | k + 1, y, h => by
    rw [rows, List.mem_flatMap] at h
    obtain ⟨r, hr, hx⟩ := h
    obtain ⟨i, hi, hf, rfl⟩ := ext_mem.1 hx
    obtain ⟨h1, h2⟩ := row_serv k r hr
    refine ⟨by simp [h1], fun j hj => ?_⟩
    rcases Nat.lt_or_ge j k with h3 | h3
    · have h4 := h2 j h3
      rw [List.getElem?_append_left (by omega), List.take_append_of_le_length (by omega)]
      exact h4
    · obtain rfl : j = k := by omega
      rw [List.getElem?_append_right (by omega), h1, Nat.sub_self, List.take_append_of_le_length (by omega), List.take_of_length_le (by omega)]
      exact ⟨by simp; omega, by simpa using hf⟩
theorem mem_serv {L Nd : List Spr} (hB : bothB L Nd = true) {y : List Int} (h : y ∈ allS L Nd) : servB L Nd y = true := by
  obtain ⟨h1, h2⟩ := row_serv _ _ h
  exact servB_yes hB h1 (by rw [h1]; exact h2)
theorem waste_of {L Nd : List Spr} {x : List Int} (h : servB L Nd x = true) : wasteZ L Nd x = sumZ L x - milesZ Nd := by
  obtain ⟨_, h2, _⟩ := servB_true h
  unfold wasteZ wsTo
  rw [if_pos h, List.take_length, h2, List.take_length]
/-- the best serving is one and wastes no more -/
theorem best_waste {L Nd : List Spr} {x : List Int} (h : servB L Nd x = true) : serveB L Nd = true ∧ 0 ≤ wasteZ L Nd (serveL L Nd) ∧ wasteZ L Nd (serveL L Nd) ≤ wasteZ L Nd x ∧ (serveL L Nd).length ≤ 5 := by
  obtain ⟨hB, _, _⟩ := servB_true h
  have hm := serv_mem h
  obtain ⟨y, hy⟩ := bst_some (c := sumZ L) (l := allS L Nd) (fun e => by rw [e] at hm; simp at hm)
  have hg : serveG L Nd = some y := by unfold serveG; rw [if_pos hB, hy]
  have hl : serveL L Nd = y := by unfold serveL; rw [hg]; rfl
  have hs := mem_serv hB (bst_mem hy)
  have h5 := serveG_len hg
  refine ⟨by unfold serveB; rw [hg]; rfl, ?_, ?_, by rw [hl]; omega⟩
  · rw [hl]
    unfold wasteZ
    rw [if_pos hs]
    exact (wsTo_bd hs (Nat.le_refl _)).1
  · rw [hl, waste_of hs, waste_of h]
    have := bst_le hy x hm
    omega
/-- a need that is served has a best spare that wastes no more -/
theorem fit_waste {L Nd : List Spr} {x : List Int} (h : servB L Nd x = true) {i : Nat} (hi : i < Nd.length) : serveB L [sprAt Nd i] = true ∧ ∃ j : Nat, fitV L (sprAt Nd i) = (j : Int) ∧ j < L.length ∧ (sprAt Nd i).m ≤ (sprAt L j).m ∧ (sprAt L j).m ≤ (sprAt L (x[i]?.getD 0).toNat).m := by
  obtain ⟨hB, hl, ht⟩ := servB_true h
  obtain ⟨hL, hN⟩ := bothB_true.1 hB
  have h1 := ht i (by omega)
  have h2 := (sf_true.1 h1.2).1
  rw [show (x.take i).length = i by simp; omega] at h2
  obtain ⟨m, hm⟩ : ∃ m : Nat, x[i]?.getD 0 = (m : Int) := ⟨(x[i]?.getD 0).toNat, by omega⟩
  rw [hm, Int.toNat_natCast] at h2 ⊢
  rw [hm] at h1
  have hmL : m < L.length := by omega
  have hB1 : bothB L [sprAt Nd i] = true := bothB_true.2 ⟨hL, by rw [sprB_one 5 (by omega)]; exact (sprB_true.1 hN).2 _ (sprAt_mem hi)⟩
  have hmem : [(m : Int)] ∈ allS L [sprAt Nd i] := by
    rw [allS_from, ← preS_all (by simp)]
    unfold preS
    rw [List.mem_flatMap]
    exact ⟨[(m : Int)], ext_mem.2 ⟨m, hmL, by rw [sf_one]; exact h2, rfl⟩, by rw [fromS_end (by simp)]; simp⟩
  have hs : serveB L [sprAt Nd i] = true := by
    obtain ⟨y, hy⟩ := bst_some (c := sumZ L) (l := allS L [sprAt Nd i]) (fun e => by rw [e] at hmem; simp at hmem)
    unfold serveB serveG
    rw [if_pos hB1, hy]; rfl
  obtain ⟨j, hj, _, hjL, _, hjs, hbest⟩ := fit_found hs
  refine ⟨hs, j, hj, hjL, (srvB_true.1 hjs).2, ?_⟩
  rcases hbest m hmL h2 with h3 | h3 <;> omega

set_option maxRecDepth 100000 in
set_option maxHeartbeats 4000000 in
theorem fnServeWaste_in (A : Option Addr) (n c : Nat) (w : World) (hl : n ≤ 1048576) (hnc : n ≤ c) (hb : Bytes w.heap.size w A n) :
    Calls Try.prog 4 #[.slice A n c] w (RetB (.bool true) w) := by
  have Hb := Lib.hid hb
  clear hb
  go_enter Try.func4, Try.ntmps4
  go_wp2_with fail
  refine (DrawServeWaste_c A n c _ (by omega) hnc Hb.out).mono ?_
  rintro e w1 ⟨B, d, L, B2, d2, Nd, B3, d3, x, rfl, hzl, hyl, hA, hA2, hX, hB⟩
  have Ha := Lib.hid hA
  have Hn := Lib.hid hA2
  have Hx := Lib.hid hX
  have Bt := Lib.hid hB
  clear hA hA2 hX hB Hb
  have Himpl := Lib.hid (fun A c A2 c2 A3 c3 w h h2 h3 => implServeWaste_b A c L A2 c2 Nd A3 c3 x w h h2 h3)
  have Hspec := Lib.hid (fun A c A2 c2 A3 c3 w h h2 h3 => specServeWaste_b A c L A2 c2 Nd A3 c3 x w h h2 h3)
  obtain ⟨v, hv⟩ : ∃ v, wasteZ L Nd x = v := ⟨_, rfl⟩
  rw [hv] at Himpl Hspec
  have Hv := Lib.hid hv
  have nv : (v != v) = false := by simp
  have ne : (v == v) = true := by simp
  clear hv
  go_wp2_with fail
  refine (Himpl.out B d B2 d2 B3 d3 _ Ha.out Hn.out Hx.out).mono ?_
  rintro e w2 ⟨rfl, rb2⟩
  replace Ha := Lib.hid (Ha.out.go rb2)
  replace Hn := Lib.hid (Hn.out.go rb2)
  replace Hx := Lib.hid (Hx.out.go rb2)
  replace Bt := Lib.hid (below_step Bt.out rb2)
  clear rb2
  go_wp2_with fail
  refine (Hspec.out B d B2 d2 B3 d3 _ Ha.out Hn.out Hx.out).mono ?_
  rintro e w3 ⟨rfl, rb3⟩
  replace Ha := Lib.hid (Ha.out.go rb3)
  replace Hn := Lib.hid (Hn.out.go rb3)
  replace Bt := Lib.hid (below_step Bt.out rb3)
  clear rb3 Hx
  cases hs : servB L Nd x
  · have hv1 : v = -1 := by rw [← Hv.out]; exact wasteZ_no hs
    subst hv1
    go_wp2
    go_ret
    exact ⟨rfl, Bt.out⟩
  have Hs := Lib.hid hs
  have hvw : v = wsTo L Nd x x.length := by rw [← Hv.out]; exact wasteZ_yes hs
  have hv0 : 0 ≤ v := by rw [hvw]; exact (wsTo_bd hs (Nat.le_refl _)).1
  have hvn : ¬ v < 0 := by omega
  have Hvw := Lib.hid hvw
  obtain ⟨b1, b2, b3, b4⟩ := best_waste hs
  have hxl := (servB_true hs).2.1
  have hBo := (servB_true hs).1
  have hl10 := (sprB_true.1 (bothB_true.1 hBo).1).1
  have HBo := Lib.hid hBo
  have Hxl := Lib.hid hxl
  rw [Hv.out] at b3
  clear hs hvw hxl hBo
  go_wp2_with fail
  refine (implServeBest_b B d L B2 d2 Nd _ Ha.out Hn.out).mono ?_
  rintro e w4 ⟨B5, d5, rfl, ra5, ro5, rb5⟩
  dsimp only
  rw [b1]
  replace Ha := Lib.hid (Ha.out.go rb5)
  replace Hn := Lib.hid (Hn.out.go rb5)
  replace Bt := Lib.hid (below_step Bt.out rb5)
  have Hy := Lib.hid ra5
  have Hw5 := Lib.hid (fun A c A2 c2 A3 c3 w h h2 h3 => implServeWaste_b A c L A2 c2 Nd A3 c3 (serveL L Nd) w h h2 h3)
  obtain ⟨y, hy⟩ : ∃ y, serveL L Nd = y := ⟨_, rfl⟩
  rw [hy] at Hy Hw5 b2 b3 b4 ⊢
  obtain ⟨u, hu⟩ : ∃ u, wasteZ L Nd y = u := ⟨_, rfl⟩
  rw [hu] at Hw5 b2 b3
  clear ra5 ro5 rb5 b1 hy hu
  go_wp2
  go_loopw [10, 11] (fun av iv wr => ∃ (i : Nat) (al : Int), i ≤ Nd.length ∧ iv = .int .i64 i ∧ av = .int .i64 al ∧ 0 ≤ al ∧ al ≤ wsTo L Nd x i ∧ Below w4.heap.size w4 wr) (fun _ iv _ => Nd.length - (intOf iv).toNat)
  case atStart => exact ⟨0, 0, Nat.zero_le _, rfl, rfl, by omega, by rw [wsTo_zero]; omega, Below.refl _ _⟩
  case round =>
    obtain ⟨i, al, hi, rfl, rfl, al0, al1, hb⟩ := hrel
    have Hb := Lib.hid hb
    clear hb
    have hwb := wsTo_bd Hs.out (k := i) (by have := Hxl.out; omega)
    by_cases hlt : i < Nd.length
    · have g1 : (i : Int) < (Nd.length : Int) := by omega
      obtain ⟨bn, on, rfl, _, hbwn, n0, n1⟩ := (Hn.out.go Hb.out).rd.at_ hlt
      obtain ⟨f1, j, f2, f3, f4, f5⟩ := fit_waste Hs.out hlt
      have hst := wsTo_succ (L := L) (Nd := Nd) (x := x) (k := i) (by have := Hxl.out; omega) hlt
      have hbd := (sprB_at (bothB_true.1 HBo.out).2 hlt).1
      have hbj := (sprB_at (bothB_true.1 HBo.out).1 f3).1
      have Hfit := Lib.hid (fun w h => implSparesFit_b B d L (sprAt Nd i) w h)
      rw [f1, f2] at Hfit
      obtain ⟨f, hf⟩ : ∃ f, sprAt Nd i = f := ⟨_, rfl⟩
      rw [hf] at n0 n1 Hfit f4 hst hbd
      obtain ⟨o, ho⟩ : ∃ o, sprAt L j = o := ⟨_, rfl⟩
      rw [ho] at f4 f5 hbj
      have Hst := Lib.hid (show 0 ≤ al + o.m - f.m ∧ al + o.m - f.m ≤ wsTo L Nd x (i + 1) by rw [hst]; omega)
      have Ho := Lib.hid ho
      clear f1 f2 f5 hst hf ho
      go_wp2_with fail
      refine (Hfit.out _ (Ha.out.go Hb.out)).mono ?_
      rintro e w5 ⟨rfl, hb5⟩
      have Hb5 := Lib.hid (below_step Hb.out hb5)
      have m0 := (hb5.cell hbwn).trans n0
      clear hb5 n0 n1
      obtain ⟨bl, ol, rfl, _, _, c0, _⟩ := (Ha.out.go Hb5.out).rd.at_ f3
      rw [Ho.out] at c0
      have g2 : (j : Int) < (L.length : Int) := by omega
      go_wp2
      go_quiet (fail)
      go_wp2
      go_roundw
      case rel => exact ⟨i + 1, al + o.m - f.m, by omega, by go_num, rfl, Hst.out.1, Hst.out.2, below_drewN Hb5.out nq⟩
      case measure => simp [intOf]; omega
    · obtain rfl : i = Nd.length := by omega
      have hal : al ≤ v := by
        have h1 := Hvw.out
        rw [Hxl.out] at h1
        omega
      go_wp2_with fail
      refine (Hw5.out B d B2 d2 B5 d5 _ (Ha.out.go Hb.out) (Hn.out.go Hb.out) (Hy.out.go Hb.out)).mono ?_
      rintro e w5 ⟨rfl, hb5⟩
      have H5 := Lib.hid (below_step (below_step Bt.out Hb.out) hb5)
      clear hb5
      go_wp2
      go_ret
      exact ⟨rfl, H5.out⟩

theorem fnServeWaste_walk (A0 : Option Addr) (n0 c0 : Nat) (w : World) (hb0 : Byt0 w A0 n0 c0) :
    Calls Try.prog 4 #[.slice A0 n0 c0] w (RetB (.bool true) w) := by
  by_cases hl0 : 1048576 < n0
  · clear hb0
    go_enter Try.func4, Try.ntmps4
    go_wp2
    go_ret
    exact ⟨rfl, Below.refl _ _⟩
  exact fnServeWaste_in A0 n0 c0 w (by omega) hb0.1 hb0.2.2

set_option maxRecDepth 100000 in
theorem fnServeWaste_lifted (os : Os) (started : os.Started) (H : Type) (enc : TypeId × Value → H) :
    ReturnsInHanded {} Try.checked os 4 .any (Rows.fnServeWasteSpec.pre6 enc Try.prog Try.f4 Rows.fnServeWasteRow.domain false) (Rows.fnServeWasteSpec.post enc Try.prog Try.f4 false true false false) := by
  refine returnsInHanded_of_change (C := Try.checked) row_own started (by kernel_rfl) Try.func4
    (ChangeSpec.witness6 (enc := enc) (C := Try.checked) false ⟨#[], #[.slice none 0 0], []⟩ 8 (by kernel_rfl) (by kernel_rfl) (by kernel_rfl) (by kernel_rfl)) ?_
  intro W base args ds gs before hval0 hW hcnd _
  have hval : ∀ (j : Nat) t v, Try.f4.params[j]? = some t → args[j]? = some v → Value.okWide Try.prog W .any base t v := hval0
  have hW' := hW
  obtain ⟨p, q, hA0, hV, rfl, _, _⟩ := hW
  have hA : DataW.TrodAll enc Try.prog W 0 (fun _ => true) true Try.f4.params.toList args.toList ds p := hA0
  rw [Try.params4] at hA hval
  obtain ⟨v0, vs0, d0, ds0, p0, q0, hargs, rfl, rfl, h0, r0⟩ := trodAll_cons hA
  obtain ⟨rfl, rfl, rfl⟩ := trodAll_nil r0
  obtain rfl : args = #[v0] := by cases args; simp_all
  obtain ⟨rfl, rfl⟩ := trodVars_none hV
  have hlt0 : ∀ x ∈ p0, x.block < W.heap.size := fun x hx => by exact hW'.lt x (by simp [hx])
  obtain ⟨A0, n0, c0, rfl, hb0⟩ := open_bytes (hval 0 22 v0 rfl rfl) h0 hlt0
  clear hA0 hval0
  refine (fnServeWaste_walk A0 n0 c0 W hb0).mono fun e W' ⟨he, hb⟩ => ?_
  subst he
  exact ⟨_, rfl, _, _, _, [], _, [], hW', (trodAll_cons_mk (shut_bool Try.underlying4 _) trodAll_mk0), (trodAll_cons_mk (read_again_bytes h0 hlt0 hb) trodAll_mk0), rfl, hb.frame _, fun h => by cases h⟩

set_option maxRecDepth 100000 in
theorem fnServeWaste_closed : joinedFacts Try.prog 4 Try.f4 Rows.fnServeWasteSpec Rows.fnServeWasteRow = true := by
  unfold joinedFacts
  repeat' (with_reducible apply facAnd)
  all_goals first | (with_reducible exact facEnter) | (with_reducible exact facLaid) | (with_reducible exact facMaps) | (with_reducible exact facStops) | (with_reducible exact facKnobs) | (with_reducible exact facHeard) | (rw [facLifts]; as_aux_lemma => kernel_rfl) | (rw [facMake]; as_aux_lemma => kernel_rfl) | (as_aux_lemma => kernel_rfl)

/-- THE STATEMENT -/
theorem fnServeWaste_holds : Rows.FnServeWasteSaid :=
  OpenClaim.holds_of_wide 4 Try.f4 rfl rfl rfl rfl rfl rfl rfl ⟨rfl, rfl, rfl, rfl, rfl⟩ rfl rfl rfl rfl rfl (by kernel_rfl) Try.func4 fnServeWaste_closed
    (of_decide_eq_true (by kernel_rfl)) (by unfold Func.isWrapper; first | (rw [if_pos (by decide +kernel)]; kernel_rfl) | (rw [if_neg (by decide +kernel)]; exact ⟨rfl, rfl⟩))
    (fun os started H enc _ => fnServeWaste_lifted os started H enc)
#print axioms fnServeWaste_holds
end Go.Proofs.Ytkicifkigbciaaa
