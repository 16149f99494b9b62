/-
  The law FnServeBest: for every code the law answers true. No condition.
-/
import Derived.Test.YtmbdggakahbciaaFac
import Derived.Test.YtmbdggakahbciaaZDrawB
import Derived.Test.YtmbdggakahbciaaServB
import Derived.Test.YtmbdggakahbciaaSvBI
import Derived.Test.YtmbdggakahbciaaSame
import Derived.Test.YtmbdggakahbciaaRowB
import Derived.BigQuiet
namespace Go.Proofs.Ytmbdggakahbciaa
open Go.ChangeShapes Go.WideShapes Go.ChangeAt Go.RowKit

theorem own_store {w : World} {base : Nat} {t : TypeId} {v : Value} {y : List Int} (h : w.ownsRow base t 1 v y.length (y.map (Value.int .i64))) {i : Nat} (hlt : i < y.length) (k : Int) :
    ∃ g cap, v = .slice (some ⟨g, 0, none⟩) y.length cap ∧ w.cell? ⟨g, i, none⟩ = some (.int .i64 y[i]) ∧ w.frozen? ⟨g, i, none⟩ = false ∧ base ≤ g ∧
      (w.setCell ⟨g, i, none⟩ (.int .i64 k)).ownsRow base t 1 (.slice (some ⟨g, 0, none⟩) (y.set i k).length cap) (y.set i k).length ((y.set i k).map (Value.int .i64)) ∧ w.grownBy (w.setCell ⟨g, i, none⟩ (.int .i64 k)) (some g) := by
  obtain ⟨g, cap, hvg⟩ : ∃ g cap, v = .slice (some ⟨g, 0, none⟩) y.length cap := by
    rcases h.2 with ⟨h1, h2⟩ | ⟨g, cap, cur, h1, _⟩
    · omega
    · exact ⟨g, cap, h1⟩
  subst hvg
  have hst := h.stored i (.int .i64 k)
  rw [← List.map_set] at hst
  have hck := h.cellAt i (by omega)
  rw [List.getElem?_map, List.getElem?_eq_getElem hlt] at hck
  simp only [Option.map_some] at hck
  have hsl : (y.set i k).length = y.length := List.length_set
  exact ⟨g, cap, rfl, hck, h.frozenAt i, (h.lt g rfl).1, by rw [hsl]; exact hst.1, hst.2⟩

set_option maxRecDepth 100000 in
set_option maxHeartbeats 8000000 in
theorem fnServeBest_in (A : Option Addr) (n c : Nat) (w : World) (hl : n ≤ 1048576) (hnc : n ≤ c) (hb : Bytes w.heap.size w A n) :
    Calls Try.prog 7 #[.slice A n c] w (RetB (.bool true) w) := by
  obtain ⟨i0, hi, hz0, hz1, hz2⟩ := info_parts intInf
  have Hb := Lib.hid hb
  clear hb
  go_enter Try.func7, Try.ntmps7
  go_wp2_with fail
  refine (DrawServeBest_c A n c _ (by omega) hnc Hb.out).mono ?_
  rintro e w1 ⟨B, d, L, B2, d2, Nd, rfl, hzl, hnl, hA, hA2, hB⟩
  have Ha := Lib.hid hA
  have Hn := Lib.hid hA2
  have Bt := Lib.hid hB
  clear hA hA2 hB Hb
  go_wp2_with fail
  refine (implServeBest_b B d L B2 d2 Nd _ Ha.out Hn.out).mono ?_
  rintro e w2 ⟨B3, d3, rfl, ra2, ro2, rb2⟩
  dsimp only
  replace Ha := Lib.hid (Ha.out.go rb2)
  replace Hn := Lib.hid (Hn.out.go rb2)
  replace Bt := Lib.hid (below_step Bt.out rb2)
  have Hx := Lib.hid ra2
  clear ra2 ro2 rb2
  go_wp2_with fail
  refine (specServeBest_b B d L B2 d2 Nd _ Ha.out Hn.out).mono ?_
  rintro e w3 ⟨B4, d4, rfl, ra3, ro3, rb3⟩
  dsimp only
  replace Ha := Lib.hid (Ha.out.go rb3)
  replace Hn := Lib.hid (Hn.out.go rb3)
  replace Bt := Lib.hid (below_step Bt.out rb3)
  replace Hx := Lib.hid (Hx.out.go rb3)
  have Hy := Lib.hid ra3
  clear ra3 ro3 rb3
  have hdt : decide (serveL L Nd = serveL L Nd) = true := by simp
  cases hsb : serveB L Nd
  · go_wp2_with fail
    refine (sameInts_c B3 B4 d3 d4 _ _ _ Hx.out Hy.out).mono ?_
    rintro e w4 ⟨rfl, q4, rfl⟩
    replace Hx := Lib.hid (Hx.out.go (below_drewN (Below.refl _ _) q4))
    replace Hy := Lib.hid (Hy.out.go (below_drewN (Below.refl _ _) q4))
    have Bt0 := Bt
    replace Bt := Lib.hid (below_drewN Bt.out q4)
    go_wp2_with fail
    refine (sameInts_c B3 B4 d3 d4 _ _ _ Hx.out Hy.out).mono ?_
    rintro e w4 ⟨rfl, q5, rfl⟩
    go_wp2
    go_ret
    exact ⟨rfl, by first | exact below_drewN Bt0.out _ | exact below_drewN Bt.out _⟩
  obtain ⟨p0, p1, p2, p3⟩ := best_pays hsb
  have Hset := Lib.hid (fun i hi k => best_set (L := L) (Nd := Nd) hsb (i := i) hi k)
  have Hsb := Lib.hid hsb
  clear hsb
  go_wp2_with fail
  refine (sameInts_c B3 B4 d3 d4 _ _ _ Hx.out Hy.out).mono ?_
  rintro e w4 ⟨rfl, q4, rfl⟩
  replace Ha := Lib.hid (Ha.out.go (below_drewN (Below.refl _ _) q4))
  replace Hn := Lib.hid (Hn.out.go (below_drewN (Below.refl _ _) q4))
  replace Hx := Lib.hid (Hx.out.go (below_drewN (Below.refl _ _) q4))
  replace Bt := Lib.hid (below_drewN Bt.out q4)
  clear Hy
  obtain ⟨y, hy⟩ : ∃ y, serveL L Nd = y := ⟨_, rfl⟩
  rw [hy] at p0 p1 p2 Hset Hx ⊢
  clear hy hdt
  obtain ⟨wa, hwa⟩ : ∃ wa, wa = w3.drewN q4 := ⟨_, rfl⟩
  rw [← hwa] at Ha Hn Hx Bt ⊢
  clear hwa
  have Hw := Lib.hid (fun A c A2 c2 A3 c3 x w h h2 h3 => implServeWaste_b A c L A2 c2 Nd A3 c3 x w h h2 h3)
  obtain ⟨v, hv⟩ : ∃ v, wasteZ L Nd y = v := ⟨_, rfl⟩
  have Hv := Lib.hid hv
  rw [hv] at p0 p1 Hset
  clear hv
  go_wp2_with fail
  refine (Hw.out B d B2 d2 B3 d3 y _ Ha.out Hn.out Hx.out).mono ?_
  rintro e w5 ⟨rfl, rb5⟩
  rw [Hv.out]
  replace Ha := Lib.hid (Ha.out.go rb5)
  replace Hn := Lib.hid (Hn.out.go rb5)
  replace Hx := Lib.hid (Hx.out.go rb5)
  replace Bt := Lib.hid (below_step Bt.out rb5)
  clear rb5 Hv
  go_wp2
  go_loopw [10] (fun iv wr => ∃ i : Nat, i ≤ y.length ∧ iv = .int .i64 i ∧ Below w5.heap.size w5 wr) (fun iv _ => y.length - (intOf iv).toNat)
  case atStart => exact ⟨0, Nat.zero_le _, rfl, Below.refl _ _⟩
  case round =>
    obtain ⟨i, hi2, rfl, hb⟩ := hrel
    have Hb := Lib.hid hb
    clear hb
    by_cases hlt : i < y.length
    · have g1 : (i : Int) < (y.length : Int) := by omega
      obtain ⟨b, off, rfl, _, _, _⟩ := Hx.out.rd.at_ hlt
      go_wp2
      go_loopw [11] (fun kv wr => ∃ k : Nat, k ≤ L.length ∧ kv = .int .i64 k ∧ Below w5.heap.size w5 wr) (fun kv _ => L.length - (intOf kv).toNat)
      case atStart => exact ⟨0, Nat.zero_le _, rfl, Hb.out⟩
      case round =>
        obtain ⟨k, hk, rfl, hb2⟩ := hrel
        have Hb2 := Lib.hid hb2
        clear hb2
        obtain ⟨W, hW⟩ : ∃ W, W = wr := ⟨_, rfl⟩
        subst hW
        by_cases hlk : k < L.length
        · have g2 : (k : Int) < (L.length : Int) := by omega
          obtain ⟨b9, o9, e9, _, _, hc0⟩ := (Hx.out.go Hb2.out).rd.at_ hlt
          injection e9 with e9
          injection e9 with e91 e92 _
          subst e91; subst e92
          go_wp2_with (at_builtin; refine wpList_append_ints rfl (.tmp 71) (.tmp 72) 36 rfl W.heap.size 3 i0 (.int .i64 0) Try.underlying36 hi hz0 hz1 hz2 rfl (.slice (some ⟨W.heap.size, 0, none⟩) 0 0) [] rfl (own_none W _) (some ⟨b, off, none⟩) d3 y rfl ((Hx.out.go Hb2.out).go (below_none W _)) (by simp; omega) (by simp) ?_; intro v1 w6 hown3 hg3; have H3 := Lib.hid (next1 hown3 hg3); clear hown3 hg3; obtain ⟨g, cap, rfl, hck, hfk, hgb, h8o, h8g⟩ := own_store H3.out.1 hlt (k : Int); clear hi hz0 hz1 hz2)
          have hsl : (y.set i (k : Int)).length = y.length := List.length_set
          obtain ⟨w8, hw8⟩ : ∃ w8, w6.setCell ⟨g, i, none⟩ (.int .i64 (k : Int)) = w8 := ⟨_, rfl⟩
          rw [hw8] at h8o h8g ⊢
          have H8x := Lib.hid ((Ow.of_own h8o).arg (by omega) (Nat.le_refl _))
          have H8 := Lib.hid (show Below w5.heap.size w5 w8 from below_step Hb2.out (H3.out.2.grown h8g H3.out.2.size (fun r e => by cases e; exact hgb)))
          have hno := Hset.out i hlt (k : Int)
          obtain ⟨z, hz⟩ : ∃ z, y.set i (k : Int) = z := ⟨_, rfl⟩
          have Hwz := Lib.hid (Hw.out B d B2 d2 (some ⟨g, 0, none⟩) cap z)
          rw [hz] at hno hsl H8x
          rw [hsl] at Hwz
          obtain ⟨u, hu⟩ : ∃ u, wasteZ L Nd z = u := ⟨_, rfl⟩
          rw [hu] at hno Hwz
          obtain ⟨q, hq⟩ : ∃ q, y[i]?.getD 0 = q := ⟨_, rfl⟩
          rw [hq] at hno hc0
          have Hc0 := Lib.hid (show ∀ w', Below w5.heap.size w5 w' → w'.cell? ⟨b, off + i, none⟩ = some (.int .i64 q) from fun w' hb' => by
            obtain ⟨b9, o9, e9, _, _, h0⟩ := (Hx.out.go hb').rd.at_ hlt
            injection e9 with e9
            injection e9 with e91 e92 _
            subst e91; subst e92
            rwa [hq] at h0)
          clear h8g h8o hz hu hq hw8 hgb
          refine (Hwz.out _ (Ha.out.go H8.out) (Hn.out.go H8.out) H8x.out).mono ?_
          rintro e w9 ⟨rfl, rb9⟩
          have H9 := Lib.hid (below_step H8.out rb9)
          have hc9 := Hc0.out w9 H9.out
          clear rb9 hc0
          by_cases hu0 : 0 ≤ u
          · by_cases hu1 : u < v
            · exact absurd ⟨hu0, .inl hu1⟩ hno
            · have e1 : decide (u < v) = false := decide_eq_false hu1
              by_cases hu2 : u = v
              · have hkq : ¬ (k : Int) < q := fun h => hno ⟨hu0, .inr ⟨hu2, h⟩⟩
                have e2 : decide ((k : Int) < q) = false := decide_eq_false hkq
                have e3 : (u == v) = true := by simp [hu2]
                clear hno
                go_wp2
                go_roundw
                case rel => exact ⟨k + 1, by omega, by go_num, H9.out⟩
                case measure => simp [intOf]; omega
              · have e3 : (u == v) = false := by simp [hu2]
                clear hno
                go_wp2
                go_roundw
                case rel => exact ⟨k + 1, by omega, by go_num, H9.out⟩
                case measure => simp [intOf]; omega
          · have e1 : decide (0 ≤ u) = false := decide_eq_false hu0
            clear hno
            go_wp2
            go_roundw
            case rel => exact ⟨k + 1, by omega, by go_num, H9.out⟩
            case measure => simp [intOf]; omega
        · obtain rfl : k = L.length := by omega
          go_wp2
          go_roundw
          case rel => exact ⟨i + 1, by omega, by go_num, Hb2.out⟩
          case measure => simp [intOf]; omega
    · obtain rfl : i = y.length := by omega
      go_wp2_with fail
      refine (implServeCan_b B d L B2 d2 Nd _ (Ha.out.go Hb.out) (Hn.out.go Hb.out)).mono ?_
      rintro e w7 ⟨rfl, rb7⟩
      rw [Hsb.out]
      have H7 := Lib.hid (below_step Hb.out rb7)
      clear rb7
      go_wp2
      go_ret
      exact ⟨rfl, below_step Bt.out H7.out⟩

theorem fnServeBest_walk (A0 : Option Addr) (n0 c0 : Nat) (w : World) (hb0 : Byt0 w A0 n0 c0) :
    Calls Try.prog 7 #[.slice A0 n0 c0] w (RetB (.bool true) w) := by
  by_cases hl0 : 1048576 < n0
  · clear hb0
    go_enter Try.func7, Try.ntmps7
    go_wp2
    go_ret
    exact ⟨rfl, Below.refl _ _⟩
  exact fnServeBest_in A0 n0 c0 w (by omega) hb0.1 hb0.2.2

set_option maxRecDepth 100000 in
theorem fnServeBest_lifted (os : Os) (started : os.Started) (H : Type) (enc : TypeId × Value → H) :
    ReturnsInHanded {} Try.checked os 7 .any (Rows.fnServeBestSpec.pre6 enc Try.prog Try.f7 Rows.fnServeBestRow.domain false) (Rows.fnServeBestSpec.post enc Try.prog Try.f7 false true false false) := by
  refine returnsInHanded_of_change (C := Try.checked) row_own started (by kernel_rfl) Try.func7
    (ChangeSpec.witness6 (enc := enc) (C := Try.checked) false ⟨#[], #[.slice none 0 0], []⟩ 8 (by kernel_rfl) (by kernel_rfl) (by kernel_rfl) (by kernel_rfl)) ?_
  intro W base args ds gs before hval0 hW hcnd _
  have hval : ∀ (j : Nat) t v, Try.f7.params[j]? = some t → args[j]? = some v → Value.okWide Try.prog W .any base t v := hval0
  have hW' := hW
  obtain ⟨p, q, hA0, hV, rfl, _, _⟩ := hW
  have hA : DataW.TrodAll enc Try.prog W 0 (fun _ => true) true Try.f7.params.toList args.toList ds p := hA0
  rw [Try.params7] at hA hval
  obtain ⟨v0, vs0, d0, ds0, p0, q0, hargs, rfl, rfl, h0, r0⟩ := trodAll_cons hA
  obtain ⟨rfl, rfl, rfl⟩ := trodAll_nil r0
  obtain rfl : args = #[v0] := by cases args; simp_all
  obtain ⟨rfl, rfl⟩ := trodVars_none hV
  have hlt0 : ∀ x ∈ p0, x.block < W.heap.size := fun x hx => by exact hW'.lt x (by simp [hx])
  obtain ⟨A0, n0, c0, rfl, hb0⟩ := open_bytes (hval 0 22 v0 rfl rfl) h0 hlt0
  clear hA0 hval0
  refine (fnServeBest_walk A0 n0 c0 W hb0).mono fun e W' ⟨he, hb⟩ => ?_
  subst he
  exact ⟨_, rfl, _, _, _, [], _, [], hW', (trodAll_cons_mk (shut_bool Try.underlying4 _) trodAll_mk0), (trodAll_cons_mk (read_again_bytes h0 hlt0 hb) trodAll_mk0), rfl, hb.frame _, fun h => by cases h⟩

set_option maxRecDepth 100000 in
theorem fnServeBest_closed : joinedFacts Try.prog 7 Try.f7 Rows.fnServeBestSpec Rows.fnServeBestRow = true := by
  unfold joinedFacts
  repeat' (with_reducible apply facAnd)
  all_goals first | (with_reducible exact facEnter) | (with_reducible exact facLaid) | (with_reducible exact facMaps) | (with_reducible exact facStops) | (with_reducible exact facKnobs) | (with_reducible exact facHeard) | (rw [facLifts]; as_aux_lemma => kernel_rfl) | (rw [facMake]; as_aux_lemma => kernel_rfl) | (as_aux_lemma => kernel_rfl)

/-- THE STATEMENT -/
theorem fnServeBest_holds : Rows.FnServeBestSaid :=
  OpenClaim.holds_of_wide 7 Try.f7 rfl rfl rfl rfl rfl rfl rfl ⟨rfl, rfl, rfl, rfl, rfl⟩ rfl rfl rfl rfl rfl (by kernel_rfl) Try.func7 fnServeBest_closed
    (of_decide_eq_true (by kernel_rfl)) (by unfold Func.isWrapper; first | (rw [if_pos (by decide +kernel)]; kernel_rfl) | (rw [if_neg (by decide +kernel)]; exact ⟨rfl, rfl⟩))
    (fun os started H enc _ => fnServeBest_lifted os started H enc)
#print axioms fnServeBest_holds
end Go.Proofs.Ytmbdggakahbciaa
