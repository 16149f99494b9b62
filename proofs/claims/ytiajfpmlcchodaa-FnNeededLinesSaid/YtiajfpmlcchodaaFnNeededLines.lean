/-
  The law FnNeededLines: for every code the law answers true. No condition.
-/
import Derived.Test.YtiajfpmlcchodaaFac
import Derived.Test.YtiajfpmlcchodaaRowB
import Derived.Test.YtiajfpmlcchodaaTfXn
import Derived.Test.YtiajfpmlcchodaaTfJ
import Derived.Test.YtiajfpmlcchodaaTfX
import Derived.Test.YtiajfpmlcchodaaTfE
import Derived.Test.YtiajfpmlcchodaaTfEs
import Derived.BigQuiet
import Derived.Test.YtiajfpmlcchodaaNdB
import Derived.Test.YtiajfpmlcchodaaBase0
namespace Go.Proofs.Ytiajfpmlcchodaa
open Go.RowKit

theorem draw_belowU {w a b : World} {R : Nat} (h : Below w.heap.size w a) (hR : w.heap.size ≤ R) (hg : a.grownBy b (some R)) : Below w.heap.size w b := h.grown hg h.size (fun r e => by cases e; exact hR)
/-- a net and two stations -/
def RetNe (w : World) (e : Ending) (w' : World) : Prop :=
  ∃ (m : Nat), ∃ B d zs, ∃ (f t : Int), e = .returned (.tuple #[.int .i64 (m : Int), .slice B (zs : List Lin).length d, .int .i64 f, .int .i64 t]) ∧ 2 ≤ m ∧ m ≤ 5 ∧ zs.length ≤ 7 ∧ (0 ≤ f ∧ f < (m : Int)) ∧ (-1 ≤ t ∧ t ≤ (m : Int)) ∧ ArgL w' B d zs ∧ Below w.heap.size w w'
set_option maxHeartbeats 2000000 in
theorem DrawNetNeeded_c (A : Option Addr) (n c : Nat) (w : World) (hn : n ≤ 9223372036854775807) (hnc : n ≤ c) (hb : Bytes w.heap.size w A n) :
    Calls Try.prog 23 #[.slice A n c] w (RetNe w) := by
  have Hb := Lib.hid hb
  clear hb
  go_enter Try.func23, Try.ntmps23
  go_wp2_with fail
  refine (l6Open_c A n c _ hn hnc Hb.out).mono ?_
  rintro e w0 ⟨n1, c1, rfl, hr0, hb0, hs0⟩
  have H0 := Lib.hid hr0
  have HB0 := Lib.hid hb0
  obtain ⟨R, hR⟩ : ∃ R, w.heap.size = R := ⟨_, rfl⟩
  rw [hR] at H0 hs0
  have hRR : w.heap.size ≤ R := by omega
  clear hr0 hb0
  go_wp2_with fail
  refine (l92Two_c R A n1 c1 0 _ H0.out hs0 (by omega)).mono ?_
  rintro e w1 ⟨m, B, d, zs, f, t, q, rfl, hm2, hm5, hzl, hf, ht, ho1, hr1, hq, hg1⟩
  have Ha := Lib.hid (ho1.arg (by omega) (Nat.le_refl _))
  have HB1 := Lib.hid (draw_belowU HB0.out hRR hg1)
  clear ho1 hr1 hg1 hR
  go_wp2
  refine bodyPost_ret (v := .tuple #[.int .i64 (m : Int), .slice B zs.length d, .int .i64 f, .int .i64 t]) (by simp [results, Try.results23, go_sem]) rfl ?_
  exact ⟨m, B, d, zs, f, t, rfl, hm2, hm5, hzl, hf, ht, Ha.out, HB1.out⟩
end Go.Proofs.Ytiajfpmlcchodaa

namespace Go.Proofs.Ytiajfpmlcchodaa
open Go.RowKit

/-- no number of the first k is n -/
def noneTo (zs : List Int) (n : Int) (k : Nat) : Prop := ∀ j (h : j < zs.length), j < k → zs[j] ≠ n
theorem noneTo_all {zs : List Int} {n : Int} (h : noneTo zs n zs.length) : n ∉ zs := fun hm => by
  obtain ⟨j, hj, e⟩ := List.mem_iff_getElem.1 hm
  exact h j hj hj e
set_option maxHeartbeats 400000 in
theorem hasInt_c (A : Option Addr) (c : Nat) (zs : List Int) (n : Int) (w : World) (ha : Arg w A c zs) :
    Calls Try.prog 22 #[.slice A zs.length c, .int .i64 n] w fun e w' => e = .returned (.bool (decide (n ∈ zs))) ∧ w = w' := by
  obtain ⟨hl, _, _, hr⟩ := ha
  go_enter Try.func22, Try.ntmps22
  go_wp2
  go_loop [5] (fun i => ∃ k : Nat, k ≤ zs.length ∧ noneTo zs n k ∧ i = .int .i64 k) (fun i => zs.length - (intOf i).toNat)
  case atStart => exact ⟨0, Nat.zero_le _, fun j _ hj => absurd hj (by omega), rfl⟩
  case round =>
    obtain ⟨k, hk, hno, rfl⟩ := hrel
    have Hno := Lib.hid hno
    clear hno
    by_cases hlt : k < zs.length
    · obtain ⟨b, off, rfl, _, _, hc⟩ := hr.at_ hlt
      have Hr := Lib.hid hr
      clear hr
      have e0 : zs[k]?.getD 0 = zs[k] := by simp [hlt]
      rw [e0] at hc
      clear e0
      by_cases he : zs[k] = n
      · have hb : (zs[k] == n) = true := by simp [he]
        have hm : decide (n ∈ zs) = true := by simp; exact he ▸ List.getElem_mem _
        have Hm := Lib.hid hm
        clear he hm
        go_wp2
        go_ret
        exact ⟨by rw [Hm.out]; rfl, rfl⟩
      · have hb : (zs[k] == n) = false := by simp [he]
        have He := Lib.hid he
        clear he
        go_wp2
        go_round
        case rel => exact ⟨k + 1, by omega, fun j h1 h2 => by
          rcases Nat.lt_or_ge j k with h3 | h3
          · exact Hno.out j h1 h3
          · obtain rfl : j = k := by omega
            exact He.out, by go_num⟩
        case measure => simp [intOf]; omega
    · obtain rfl : k = zs.length := by omega
      have hm : decide (n ∈ zs) = false := by simp; exact noneTo_all Hno.out
      have Hm := Lib.hid hm
      clear hm
      go_wp2
      go_ret
      exact ⟨by rw [Hm.out]; rfl, rfl⟩
end Go.Proofs.Ytiajfpmlcchodaa

namespace Go.Proofs.Ytiajfpmlcchodaa
open Go.RowKit

/-! ### sameInts: of the package laws -/
set_option maxHeartbeats 400000 in
theorem sameInts_c (A B : Option Addr) (c d : Nat) (xs ys : List Int) (w : World) (ha1 : Arg w A c xs) (ha2 : Arg w B d ys) :
    Calls Try.prog 25 #[.slice A xs.length c, .slice B ys.length d] w (RetQ (.bool (decide (xs = ys))) w) := by
  obtain ⟨hx, _, _, r1⟩ := ha1
  obtain ⟨hy, _, _, r2⟩ := ha2
  by_cases hl : xs.length = ys.length
  · have hl1 : ((xs.length : Int) != (ys.length : Int)) = false := by simp [hl]
    have HL := Lib.hid hl
    clear hl
    go_enter Try.func25, Try.ntmps25
    go_wp2
    go_loopw [5] (fun i wr => ∃ k n : Nat, k ≤ xs.length ∧ eqTo xs ys k ∧ i = .int .i64 k ∧ wr = w.drewN n) (fun i _ => xs.length - (intOf i).toNat)
    case atStart => exact ⟨0, 0, Nat.zero_le _, eqTo_zero _ _, rfl, rfl⟩
    case round =>
      obtain ⟨k, n, hk, ha, rfl, rfl⟩ := hrel
      have Ha := Lib.hid ha
      clear ha
      by_cases hlt : k < xs.length
      · have hlt2 : k < ys.length := by have := HL.out; omega
        obtain ⟨b, off, rfl, _, _, hc⟩ := r1.at_ hlt
        obtain ⟨b', off', rfl, _, _, hc'⟩ := r2.at_ hlt2
        have R1 := Lib.hid r1
        have R2 := Lib.hid r2
        clear r1 r2
        have e0 : xs[k]?.getD 0 = xs[k] := by simp [hlt]
        have e1 : ys[k]?.getD 0 = ys[k] := by simp [hlt2]
        rw [e0] at hc
        rw [e1] at hc'
        have E0 := Lib.hid e0
        have E1 := Lib.hid e1
        clear e0 e1
        have g1 : (k : Int) < (xs.length : Int) := by omega
        have g2 : (k : Int) < (ys.length : Int) := by omega
        by_cases hne : xs[k] = ys[k]
        · have hb : (xs[k] != ys[k]) = false := by simp [hne]
          have Hne := Lib.hid hne
          clear hne
          go_wp2
          go_quiet (fail)
          go_wp2
          go_roundw
          case rel => exact ⟨k + 1, _, by omega, eqTo_succ Ha.out (by rw [E0.out, E1.out]; exact Hne.out), by go_num, by first | exact World.drewN_drewN _ _ _ | rfl⟩
          case measure => simp [intOf]; omega
        · have hb : (xs[k] != ys[k]) = true := by simp [hne]
          have Hne := Lib.hid hne
          clear hne
          go_wp2
          go_quiet (fail)
          go_wp2
          go_ret
          refine ⟨?_, _, by first | exact World.drewN_drewN _ _ _ | rfl⟩
          have hn : xs ≠ ys := by
            intro e
            subst e
            exact Hne.out rfl
          simp [hn]
      · obtain rfl : k = xs.length := by omega
        go_wp2
        go_ret
        refine ⟨?_, n, rfl⟩
        have := eq_of_to HL.out Ha.out
        simp [this]
  · have hl1 : ((xs.length : Int) != (ys.length : Int)) = true := by simp; omega
    have hn : xs ≠ ys := fun e => hl (by rw [e])
    have HN := Lib.hid hn
    clear hl hn
    go_enter Try.func25, Try.ntmps25
    go_wp2
    go_ret
    exact ⟨by simp [HN.out], 0, rfl⟩
end Go.Proofs.Ytiajfpmlcchodaa

namespace Go.Proofs.Ytiajfpmlcchodaa
open Go.ChangeShapes Go.WideShapes Go.ChangeAt Go.RowKit

section
variable {n : Int} {N : List Lin} {f t : Int} {L S : List Int}
/-- a line that carries nothing adds nothing -/
theorem share_less (hc : chB N L = true) (hn : netB n N = true) (hs : ∀ x ∈ S, x = 0 ∨ x = 1) {i : Nat} (hi : i < N.length) (hz : ldAt L i = 0) : ∀ k, k ≤ N.length → shrT N L S k + (if i < k then gS S (linAt N i) else 0) ≤ cutT N S k
  | 0, _ => by simp [shrT, cutT]
  | k + 1, hk => by
    have h1 := share_less hc hn hs hi hz k (by omega)
    have h2 := (chB_true.1 hc).2 k (by omega)
    have h3 := sd_01 hs (linAt N k).a
    have h4 := sd_01 hs (linAt N k).b
    rw [shrT, cutT, shr]
    by_cases e : k = i
    · subst e
      have g1 : ¬ k < k := by omega
      have g2 : k < k + 1 := by omega
      rw [if_neg g1] at h1
      rw [if_pos g2, hz]
      unfold gS
      simp only [ite_self, Int.sub_self]
      omega
    · have hsh : (if sdAt S (linAt N k).a = 1 then ldAt L k else 0) - (if sdAt S (linAt N k).b = 1 then ldAt L k else 0) ≤ (if sdAt S (linAt N k).a = sdAt S (linAt N k).b then 0 else (linAt N k).c) := by
        rcases h3 with h3 | h3 <;> rcases h4 with h4 | h4 <;> rw [h3, h4] <;> simp only [eq_self, ↓reduceIte, Int.reduceEq] <;> omega
      obtain ⟨G, hG⟩ : ∃ G, gS S (linAt N i) = G := ⟨_, rfl⟩
      rw [hG] at h1 ⊢
      have q : (if i < k + 1 then G else (0 : Int)) = (if i < k then G else 0) := by
        by_cases g1 : i < k
        · rw [if_pos g1, if_pos (by omega)]
        · rw [if_neg g1, if_neg (by omega)]
      rw [q]
      omega
theorem load_needed (he : endB n N f t = true) {k : Nat} (hk : k < N.length) (hz : ldAt (TL n N f t) k = 0) : mostV n N f t ≤ mostV n (dropN N k) f t := by
  obtain ⟨S, hs, hc⟩ := most_cut (dropN_end k he)
  have hn := (endB_true.1 he).1
  have hfl := (TL_flow he).1
  have hM : mostV n N f t = outV N (TL n N f t) f := by unfold mostV; rw [if_pos he]
  obtain ⟨m, rfl, hm, hf, ht, hft⟩ := ends_nat he
  obtain ⟨h1, h2, h3, h4⟩ := sideB_true.1 hs
  have ho := out_share hn hfl.2.1 hf h3 h4
  have hl := share_less (S := S) hfl.1 hn h2 hk hz N.length (Nat.le_refl _)
  rw [if_pos hk] at hl
  have hd := cut_drop hk S
  have hcc : cutC N S = cutT N S N.length := rfl
  omega
end

set_option maxRecDepth 100000 in
set_option maxHeartbeats 8000000 in
theorem fnNeededLines_in (A : Option Addr) (n c : Nat) (w : World) (hl : n ≤ 1048576) (hnc : n ≤ c) (hb : Bytes w.heap.size w A n) :
    Calls Try.prog 6 #[.slice A n c] w (RetB (.bool true) w) := by
  have Hb := Lib.hid hb
  clear hb
  go_enter Try.func6, Try.ntmps6
  go_wp2_with fail
  refine (DrawNetNeeded_c A n c _ (by omega) hnc Hb.out).mono ?_
  rintro e w1 ⟨m, B, d, zs, f, t, rfl, hm2, hm5, hzl, ⟨f0, f1⟩, ⟨t0, t1⟩, hA, hB⟩
  have Ha := Lib.hid hA
  have Bt := Lib.hid hB
  clear hA hB Hb
  have Himpl := Lib.hid (fun W h => implNetNeeded_b (m : Int) B d zs f t W h)
  have Hspec := Lib.hid (fun W h => specNetNeeded_b (m : Int) B d zs f t W h)
  have hVd : ndV (m : Int) zs f t = ndTo (lfL (m : Int) zs f t) (mostV (m : Int) zs f t) (lfL (m : Int) zs f t).length := rfl
  have HVd := Lib.hid hVd
  obtain ⟨V, hV⟩ : ∃ V, ndV (m : Int) zs f t = V := ⟨_, rfl⟩
  rw [hV] at Himpl Hspec HVd
  clear hV hVd
  dsimp only
  go_wp2_with fail
  refine (Himpl.out _ Ha.out).mono ?_
  rintro e w2 ⟨A7, c7, rfl, ra2, _, rb2⟩
  have Ra := Lib.hid ra2
  replace Ha := Lib.hid (Ha.out.go rb2)
  replace Bt := Lib.hid (below_step Bt.out rb2)
  clear ra2 rb2
  dsimp only [id]
  go_wp2_with fail
  refine (Hspec.out _ Ha.out).mono ?_
  rintro e w3 ⟨A9, c9, rfl, ra3, _, rb3⟩
  have Rb := Lib.hid ra3
  replace Ra := Lib.hid (Ra.out.go rb3)
  replace Ha := Lib.hid (Ha.out.go rb3)
  replace Bt := Lib.hid (below_step Bt.out rb3)
  clear ra3 rb3 Himpl Hspec
  dsimp only [id]
  go_wp2_with fail
  refine (sameInts_c _ _ _ _ _ _ _ Ra.out Rb.out).mono ?_
  rintro e w4 ⟨rfl, q4, hq4⟩
  have hb4 : Below w3.heap.size w3 w4 := by rw [hq4]; exact below_drewN (Below.refl _ _) q4
  replace Ra := Lib.hid (Ra.out.go hb4)
  replace Rb := Lib.hid (Rb.out.go hb4)
  replace Ha := Lib.hid (Ha.out.go hb4)
  replace Bt := Lib.hid (below_step Bt.out hb4)
  clear hb4 hq4
  rw [decide_eq_true (rfl : V = V)]
  by_cases h0 : V.length = 0
  · have q1 : ((V.length : Int) == 0) = true := by simp [h0]
    clear h0
    go_wp2_with fail
    refine (sameInts_c _ _ _ _ _ _ _ Ra.out Rb.out).mono ?_
    rintro e w5 ⟨rfl, q5, hq5⟩
    have hb5 : Below w4.heap.size w4 w5 := by rw [hq5]; exact below_drewN (Below.refl _ _) q5
    have Hb5 := Lib.hid (below_step Bt.out hb5)
    clear hb5 hq5
    rw [decide_eq_true (rfl : V = V)]
    go_wp2
    go_ret
    exact ⟨rfl, Hb5.out⟩
  have q1 : ((V.length : Int) == 0) = false := by rw [beq_eq_false_iff_ne]; omega
  cases he : endB (m : Int) zs f t
  · rw [lf_no he] at HVd
    have := HVd.out
    rw [this] at h0
    exact absurd rfl h0
  have hlen := lf_len he
  have hmem : ∀ k : Nat, k < zs.length → (((k : Int) ∈ V) ↔ mostV (m : Int) (dropN zs k) f t < mostV (m : Int) zs f t) := fun k hk => by
    rw [HVd.out, ndTo_mem]
    constructor
    · rintro ⟨j, e, h1, h2⟩
      obtain rfl : k = j := by omega
      rwa [lf_at he hk] at h2
    · intro h
      exact ⟨k, rfl, by omega, by rw [lf_at he hk]; exact h⟩
  have Hcross := Lib.hid (fun k hk hx => (hmem k hk).2 (cross_less he hk hx))
  have hload : ∀ k : Nat, k < zs.length → (k : Int) ∈ V → ldAt (TLv (m : Int) zs f t) k ≠ 0 := fun k hk hin hz => by
    rw [TLv_yes he] at hz
    have h1 := load_needed he hk hz
    have h2 := (hmem k hk).1 hin
    omega
  have Hload := Lib.hid hload
  have hLl : (TLv (m : Int) zs f t).length = zs.length := by rw [TLv_yes he, TL_len he]
  have Hnet := Lib.hid (endB_true.1 he).1
  have h10 := (netB_true.1 Hnet.out).2.1
  have hTl := (sideB_true.1 (lcV_side he).1).1
  have C1 := Lib.hid (fun W h => implCutLeast_b (m : Int) B d zs f t W h)
  have C2 := Lib.hid (fun W h => implTrafficLoad_b (m : Int) B d zs f t W h)
  rw [he] at C1 C2
  obtain ⟨T, hT⟩ : ∃ T, lcV (m : Int) zs f t = T := ⟨_, rfl⟩
  obtain ⟨L, hL⟩ : ∃ L, TLv (m : Int) zs f t = L := ⟨_, rfl⟩
  rw [hT] at C1 Hcross hTl
  rw [hL] at C2 Hload hLl
  obtain ⟨l1, l2⟩ : T.length ≤ m ∧ m ≤ T.length := by omega
  obtain ⟨l3, l4⟩ : L.length ≤ zs.length ∧ zs.length ≤ L.length := by omega
  clear he hlen hmem hload hLl hTl hT hL HVd h0 Rb
  go_wp2_with fail
  refine (C1.out _ Ha.out).mono ?_
  rintro e w5 ⟨A5, c5, rfl, ra5, _, rb5⟩
  have Rt := Lib.hid ra5
  replace Ra := Lib.hid (Ra.out.go rb5)
  replace Ha := Lib.hid (Ha.out.go rb5)
  replace Bt := Lib.hid (below_step Bt.out rb5)
  clear ra5 rb5
  dsimp only
  go_wp2_with fail
  refine (C2.out _ Ha.out).mono ?_
  rintro e w6 ⟨A6, c6, rfl, ra6, _, rb6⟩
  have Rl := Lib.hid ra6
  replace Rt := Lib.hid (Rt.out.go rb6)
  replace Ra := Lib.hid (Ra.out.go rb6)
  replace Ha := Lib.hid (Ha.out.go rb6)
  replace Bt := Lib.hid (below_step Bt.out rb6)
  clear ra6 rb6 C1 C2
  go_wp2
  go_loopw [13] (fun i wr => ∃ k : Nat, k ≤ zs.length ∧ i = .int .i64 k ∧ Below w6.heap.size w6 wr) (fun i _ => zs.length - (intOf i).toNat)
  case atStart => exact ⟨0, Nat.zero_le _, rfl, Below.refl _ _⟩
  case round =>
    obtain ⟨k, hk, rfl, hbr⟩ := hrel
    have Hbr := Lib.hid hbr
    clear hbr
    by_cases hlt : k < zs.length
    · obtain ⟨b1, off1, rfl, _, hb1, hc0, hc1, _⟩ := Ha.out.rd.at_ hlt
      have hnt := (netB_at Hnet.out hlt).1
      have hx := Hcross.out k hlt
      have hld := Hload.out k hlt
      obtain ⟨xa, hxa⟩ : ∃ xa : Nat, (linAt zs k).a = (xa : Int) := ⟨_, (Int.toNat_of_nonneg hnt.1.1).symm⟩
      obtain ⟨xb, hxb⟩ : ∃ xb : Nat, (linAt zs k).b = (xb : Int) := ⟨_, (Int.toNat_of_nonneg hnt.2.1.1).symm⟩
      rw [hxa, hxb] at hnt hx
      rw [hxa] at hc0
      rw [hxb] at hc1
      have hxaS : xa < T.length := by omega
      have hxbS : xb < T.length := by omega
      obtain ⟨b2, off2, rfl, hb2, da⟩ := sd_cell Rt.out hxaS
      obtain ⟨b', off', e', _, db⟩ := sd_cell Rt.out hxbS
      injection e' with e'
      injection e' with e1 e2 _
      subst e1; subst e2
      have hkL : k < L.length := by omega
      obtain ⟨b3, off3, rfl, _, hb3, dl⟩ := Rl.out.rd.at_ hkL
      rw [show L[k]?.getD 0 = ldAt L k from rfl] at dl
      have e0 := below_cell Hbr.out hb1 hc0
      have e1 := below_cell Hbr.out hb1 hc1
      have ca := below_cell Hbr.out hb2 da
      have cb := below_cell Hbr.out hb2 db
      have cl := fun q => below_cell (below_drewN Hbr.out q) hb3 dl
      obtain ⟨va, hva⟩ : ∃ v, sdAt T (xa : Int) = v := ⟨_, rfl⟩
      obtain ⟨vb, hvb⟩ : ∃ v, sdAt T (xb : Int) = v := ⟨_, rfl⟩
      obtain ⟨y, hy⟩ : ∃ v, ldAt L k = v := ⟨_, rfl⟩
      rw [hva] at ca hx
      rw [hvb] at cb hx
      rw [hy] at cl hld
      have Hx := Lib.hid hx
      have Hld := Lib.hid hld
      have Rk := Lib.hid (fun q => Ra.out.go (below_drewN Hbr.out q))
      have g3 : (k : Int) < (zs.length : Int) := by omega
      have g4 : (xa : Int) < (T.length : Int) := by omega
      have g5 : (xb : Int) < (T.length : Int) := by omega
      have g6 : (k : Int) < (L.length : Int) := by omega
      have Hcl := Lib.hid cl
      clear hva hvb hy hx hld hnt hc0 hc1 da db dl hxa hxb cl
      by_cases h1 : va = vb
      · have p1 : (va != vb) = false := by simp [h1]
        have p2 : (vb != va) = false := by simp [h1]
        clear h1
        go_wp2
        go_quiet (fail)
        have hcl := Hcl.out nq
        have Hin := Lib.hid (Rk.out nq)
        go_wp2_with fail
        refine (hasInt_c _ _ _ _ _ Hin.out).mono ?_
        rintro e w7 ⟨rfl, rfl⟩
        by_cases hkV : (k : Int) ∈ V
        · have hy0 := Hld.out hkV
          have p3 : (y == 0) = false := by simpa using hy0
          rw [decide_eq_true hkV]
          clear hkV
          go_wp2
          go_roundw
          case rel => exact ⟨k + 1, by omega, by go_num, below_drewN Hbr.out _⟩
          case measure => simp [intOf]; omega
        · rw [decide_eq_false hkV]
          clear hkV
          go_wp2
          go_roundw
          case rel => exact ⟨k + 1, by omega, by go_num, below_drewN Hbr.out _⟩
          case measure => simp [intOf]; omega
      · have p1 : (va != vb) = true := by simp [h1]
        have p2 : (vb != va) = true := by simpa using fun e => h1 e.symm
        have hkV := Hx.out h1
        have HkV := Lib.hid (decide_eq_true hkV)
        have hy0 := Hld.out hkV
        have p3 : (y == 0) = false := by simpa using hy0
        clear h1 hkV hy0
        go_wp2
        go_quiet ((go_at_call 22; refine Calls.quiet_of_same (v := .bool true) ((hasInt_c _ _ _ _ _ (Rk.out _)).mono ?_); rintro e w' ⟨rfl, rfl⟩; exact ⟨by rw [HkV.out], rfl⟩))
        have hcl := Hcl.out nq
        have Hin := Lib.hid (Rk.out nq)
        go_wp2_with fail
        refine (hasInt_c _ _ _ _ _ Hin.out).mono ?_
        rintro e w7 ⟨rfl, rfl⟩
        rw [HkV.out]
        go_wp2
        go_roundw
        case rel => exact ⟨k + 1, by omega, by go_num, below_drewN Hbr.out _⟩
        case measure => simp [intOf]; omega
    · obtain rfl : k = zs.length := by omega
      go_wp2
      go_ret
      exact ⟨rfl, below_step Bt.out Hbr.out⟩

theorem fnNeededLines_walk (A0 : Option Addr) (n0 c0 : Nat) (w : World) (hb0 : Byt0 w A0 n0 c0) :
    Calls Try.prog 6 #[.slice A0 n0 c0] w (RetB (.bool true) w) := by
  by_cases hl0 : 1048576 < n0
  · clear hb0
    go_enter Try.func6, Try.ntmps6
    go_wp2
    go_ret
    exact ⟨rfl, Below.refl _ _⟩
  exact fnNeededLines_in A0 n0 c0 w (by omega) hb0.1 hb0.2.2

set_option maxRecDepth 100000 in
theorem fnNeededLines_lifted (os : Os) (started : os.Started) (H : Type) (enc : TypeId × Value → H) :
    ReturnsInHanded {} Try.checked os 6 .any (Rows.fnNeededLinesSpec.pre6 enc Try.prog Try.f6 Rows.fnNeededLinesRow.domain false) (Rows.fnNeededLinesSpec.post enc Try.prog Try.f6 false true false false) := by
  refine returnsInHanded_of_change (C := Try.checked) row_own started (by kernel_rfl) Try.func6
    (ChangeSpec.witness6 (enc := enc) (C := Try.checked) false ⟨#[], #[.slice none 0 0], []⟩ 8 (by kernel_rfl) (by kernel_rfl) (by kernel_rfl) (by kernel_rfl)) ?_
  intro W base args ds gs before hval0 hW hcnd _
  have hval : ∀ (j : Nat) t v, Try.f6.params[j]? = some t → args[j]? = some v → Value.okWide Try.prog W .any base t v := hval0
  have hW' := hW
  obtain ⟨p, q, hA0, hV, rfl, _, _⟩ := hW
  have hA : DataW.TrodAll enc Try.prog W 0 (fun _ => true) true Try.f6.params.toList args.toList ds p := hA0
  rw [Try.params6] at hA hval
  obtain ⟨v0, vs0, d0, ds0, p0, q0, hargs, rfl, rfl, h0, r0⟩ := trodAll_cons hA
  obtain ⟨rfl, rfl, rfl⟩ := trodAll_nil r0
  obtain rfl : args = #[v0] := by cases args; simp_all
  obtain ⟨rfl, rfl⟩ := trodVars_none hV
  have hlt0 : ∀ x ∈ p0, x.block < W.heap.size := fun x hx => by exact hW'.lt x (by simp [hx])
  obtain ⟨A0, n0, c0, rfl, hb0⟩ := open_bytes (hval 0 22 v0 rfl rfl) h0 hlt0
  clear hA0 hval0
  refine (fnNeededLines_walk A0 n0 c0 W hb0).mono fun e W' ⟨he, hb⟩ => ?_
  subst he
  exact ⟨_, rfl, _, _, _, [], _, [], hW', (trodAll_cons_mk (shut_bool Try.underlying4 _) trodAll_mk0), (trodAll_cons_mk (read_again_bytes h0 hlt0 hb) trodAll_mk0), rfl, hb.frame _, fun h => by cases h⟩

set_option maxRecDepth 100000 in
theorem fnNeededLines_closed : joinedFacts Try.prog 6 Try.f6 Rows.fnNeededLinesSpec Rows.fnNeededLinesRow = true := by
  unfold joinedFacts
  repeat' (with_reducible apply facAnd)
  all_goals first | (with_reducible exact facEnter) | (with_reducible exact facLaid) | (with_reducible exact facMaps) | (with_reducible exact facStops) | (with_reducible exact facKnobs) | (with_reducible exact facHeard) | (rw [facLifts]; as_aux_lemma => kernel_rfl) | (rw [facMake]; as_aux_lemma => kernel_rfl) | (as_aux_lemma => kernel_rfl)

/-- THE STATEMENT -/
theorem fnNeededLines_holds : Rows.FnNeededLinesSaid :=
  OpenClaim.holds_of_wide 6 Try.f6 rfl rfl rfl rfl rfl rfl rfl ⟨rfl, rfl, rfl, rfl, rfl⟩ rfl rfl rfl rfl rfl (by kernel_rfl) Try.func6 fnNeededLines_closed
    (of_decide_eq_true (by kernel_rfl)) (by unfold Func.isWrapper; first | (rw [if_pos (by decide +kernel)]; kernel_rfl) | (rw [if_neg (by decide +kernel)]; exact ⟨rfl, rfl⟩))
    (fun os started H enc _ => fnNeededLines_lifted os started H enc)
#print axioms fnNeededLines_holds
end Go.Proofs.Ytiajfpmlcchodaa
