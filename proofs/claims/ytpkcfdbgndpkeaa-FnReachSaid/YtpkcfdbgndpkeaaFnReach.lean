/-
  The law FnReach: for every code the law answers true. No condition.
-/
import Derived.Test.YtpkcfdbgndpkeaaAboard
import Derived.Test.YtpkcfdbgndpkeaaReach
import Derived.Test.YtpkcfdbgndpkeaaFFloorLength
import Derived.Test.YtpkcfdbgndpkeaaRowB
import Derived.Deep.RegionHeld3
namespace Go.Proofs.Ytpkcfdbgndpkeaa
open Go.ChangeShapes Go.WideShapes Go.ChangeAt Go.RowKit

theorem left_eq {zs : List Int} {ab : Int} : ∀ k, (∀ j, j < k → needAt zs j ≤ leftTo zs ab j) → leftTo zs ab k = ab - lenTo zs 0 k
  | 0, _ => by simp [leftTo, lenTo_zero]
  | k + 1, h => by
    have ih := left_eq (zs := zs) (ab := ab) k (fun j hj => h j (by omega))
    have hk := h k (by omega)
    rw [leftTo, Int.min_eq_right hk, lenTo_succ, ih, Nat.zero_add]
    omega
theorem reach_here {zs : List Int} {ab : Int} {N : Nat} :
    reachTo zs ab N ≤ N ∧ (∀ j, j < reachTo zs ab N → needAt zs j ≤ leftTo zs ab j) ∧ (reachTo zs ab N = N ∨ leftTo zs ab (reachTo zs ab N) < needAt zs (reachTo zs ab N)) := by
  rcases reach_cases (zs := zs) (ab := ab) N with ⟨p, hp, h1, h2, e⟩ | ⟨h2, e⟩
  · rw [e]
    rw [hang_carry zs ab hp] at h1
    refine ⟨by omega, fun j hj => ?_, .inr (of_decide_eq_true h1)⟩
    have := h2 j hj
    rw [hang_carry zs ab (by omega)] at this
    have := of_decide_eq_false this
    omega
  · rw [e]
    refine ⟨Nat.le_refl _, fun j hj => ?_, .inl rfl⟩
    have := h2 j hj
    rw [hang_carry zs ab hj] at this
    have := of_decide_eq_false this
    omega
theorem reach_facts {zs : List Int} {ab : Int} (hc : carryB zs ab = true) {N : Nat} (hN : zs.length = N + 1) :
    reachTo zs ab N ≤ N ∧ lenTo zs 0 (reachTo zs ab N) ≤ ab ∧ (reachTo zs ab N < N → ab < lenTo zs 0 (reachTo zs ab N + 1)) ∧ (reachTo zs ab N ≤ reachTo zs (ab + 1) N) := by
  obtain ⟨hv, h0, h1⟩ := carryB_true hc
  obtain ⟨a1, a2, a3⟩ := reach_here (zs := zs) (ab := ab) (N := N)
  have e := left_eq _ a2
  have hb := leftTo_bd hv h0 h1 (reachTo zs ab N) (by omega)
  refine ⟨a1, by omega, fun h => ?_, ?_⟩
  · rw [lenTo_succ, Nat.zero_add]
    rcases a3 with h3 | h3 <;> omega
  · obtain ⟨b1, b2, b3⟩ := reach_here (zs := zs) (ab := ab + 1) (N := N)
    rcases Nat.lt_or_ge (reachTo zs (ab + 1) N) (reachTo zs ab N) with hlt | hge
    · have e2 := left_eq _ b2
      have e3 := left_eq (zs := zs) (ab := ab) (reachTo zs (ab + 1) N) (fun j hj => a2 j (by omega))
      have h4 := a2 _ hlt
      rcases b3 with h5 | h5 <;> omega
    · exact hge

/-- a number handed back, and what every world behind the draw keeps -/
def RetK (w0 : World) (B : Option Addr) (d : Nat) (zs : List Int) (n : Int) (e : Ending) (w : World) : Prop := e = .returned (.int .i64 n) ∧ Hid (Kp w0 B d zs w)
theorem len_k {w0 w : World} {B : Option Addr} {d : Nat} {zs : List Int} (hv : validB zs = true) {N k : Nat} (hN : zs.length = N + 1) (hk : k ≤ N) (h : Hid (Kp w0 B d zs w)) :
    Calls Try.prog 20 #[.slice B (N + 1) d, .int .i64 0, .int .i64 (k : Int)] w (RetK w0 B d zs (lenTo zs 0 k)) := by
  have hfl : floorLengthI zs 0 (k : Int) = lenTo zs 0 k := by
    unfold floorLengthI twoB ptsB
    rw [hv]
    simp
    omega
  have := implFloorLength_b B d zs 0 (k : Int) w h.out.2
  rw [hN, hfl] at this
  exact this.mono fun e w' ⟨he, hb⟩ => ⟨he, Lib.hid (h.out.go hb)⟩
theorem reach_k {w0 w : World} {B : Option Addr} {d : Nat} {zs : List Int} {y : Int} (hc : carryB zs y = true) {N : Nat} (hN : zs.length = N + 1) (h : Hid (Kp w0 B d zs w)) :
    Calls Try.prog 36 #[.slice B (N + 1) d, .int .i64 y] w (RetK w0 B d zs (reachTo zs y N)) := by
  have e : payReachI zs y = (reachTo zs y N : Int) := by unfold payReachI; rw [hc, hN]; rfl
  have := implPayReach_b B d zs y w h.out.2
  rw [hN, e] at this
  exact this.mono fun e w' ⟨he, hb⟩ => ⟨he, Lib.hid (h.out.go hb)⟩

set_option maxHeartbeats 4000000 in
theorem fnReach_in (A : Option Addr) (n c : Nat) (w : World) (hl : n ≤ 1048576) (hnc : n ≤ c) (hb : Bytes w.heap.size w A n) :
    Calls Try.prog 8 #[.slice A n c] w (RetB (.bool true) w) := by
  have Hb := Lib.hid hb
  clear hb
  go_enter Try.func8, Try.ntmps8
  go_wp2_with fail
  refine (DrawPayReach_c A n c _ (by omega) hnc Hb.out).mono ?_
  rintro e w1 ⟨B, d, zs, x, rfl, hzl, hx0, hx1, ha1, hb1⟩
  have Ha := Lib.hid ha1
  have Bt := Lib.hid hb1
  clear ha1 hb1 Hb
  go_wp2_with fail
  refine (implPayReach_b B d zs x _ Ha.out).mono ?_
  rintro e w2 ⟨rfl, rb2⟩
  replace Ha := Lib.hid (Ha.out.go rb2)
  replace Bt := Lib.hid (below_step Bt.out rb2)
  clear rb2
  go_wp2_with fail
  refine (specPayReach_b B d zs x _ Ha.out).mono ?_
  rintro e w3 ⟨rfl, rb3⟩
  replace Ha := Lib.hid (Ha.out.go rb3)
  replace Bt := Lib.hid (below_step Bt.out rb3)
  clear rb3
  cases hc : carryB zs x
  · have e1 : payReachI zs x = -1 := by unfold payReachI; rw [hc]; rfl
    rw [e1]
    go_wp2
    go_ret
    exact ⟨rfl, Bt.out⟩
  · obtain ⟨hv, hab0, hab1⟩ := carryB_true hc
    have hn2 := (validB_true hv).1
    have hn16 := (validB_true hv).2.1
    obtain ⟨N, hN⟩ : ∃ N, zs.length = N + 1 := ⟨zs.length - 1, by omega⟩
    have hN1 : (zs.length : Int) - 1 = (N : Int) := by omega
    have hf := reach_facts hc hN
    obtain ⟨p, hp⟩ : ∃ p, reachTo zs x N = p := ⟨_, rfl⟩
    have e1 : payReachI zs x = (p : Int) := by unfold payReachI; rw [hc, ← hp, hN]; rfl
    rw [hp] at hf
    obtain ⟨hpN, hL1, hL2, hR⟩ := hf
    have hlb1 := lenTo_bd hv 0 p (by omega)
    rw [e1]
    have hK : Hid (Kp w B d zs w3) := Lib.hid ⟨Bt.out, Ha.out⟩
    have C1 := Lib.hid fun W' (h : Hid (Kp w B d zs W')) => len_k (w := W') hv hN hpN h
    obtain ⟨L1, hl1⟩ : ∃ L, lenTo zs 0 p = L := ⟨_, rfl⟩
    rw [hl1] at C1 hL1 hlb1
    have C2 := Lib.hid fun W' (h : Hid (Kp w B d zs W')) (hk : p + 1 ≤ N) => len_k (w := W') hv hN hk h
    obtain ⟨L2, hl2⟩ : ∃ L, lenTo zs 0 (p + 1) = L := ⟨_, rfl⟩
    have hL3 : p < N → x < L2 := fun h => by have := hL2 h; omega
    rw [hl2] at C2
    rw [Int.natCast_add, Int.natCast_one] at C2
    have C3 := Lib.hid fun W' (h : Hid (Kp w B d zs W')) (hy : carryB zs (x + 1) = true) => reach_k (w := W') hy hN h
    obtain ⟨q, hq⟩ : ∃ q, reachTo zs (x + 1) N = q := ⟨_, rfl⟩
    rw [hq] at C3 hR
    have hy : x ≠ 1000 → Hid (carryB zs (x + 1) = true) := fun h => by
      refine Lib.hid ?_
      unfold carryB
      rw [hv, Bool.true_and, inB_true]
      omega
    have d1 : decide (L1 ≤ x) = true := decide_eq_true hL1
    have d4 : decide ((p : Int) ≤ (q : Int)) = true := decide_eq_true (by omega)
    clear Ha Bt hp hl1 hl2 hq e1 hv hc hL2 hL1 hlb1
    go_wp2_with fail
    refine (C1.out _ hK).mono ?_
    rintro e w4 ⟨rfl, h4⟩
    by_cases hpe : p = N
    · have d2 : ((p : Int) == (N : Int)) = true := by simp [hpe]
      by_cases hxe : x = 1000
      · have d3 : (x == 1000) = true := by simp [hxe]
        clear hL3 hR hy C2 C3 hpe hxe
        go_wp2
        go_ret
        exact ⟨rfl, h4.out.1⟩
      · have d3 : (x == 1000) = false := by simpa using hxe
        have hy2 := hy hxe
        clear hy hL3 C2 hpe
        go_wp2_with fail
        refine (C3.out _ h4 hy2.out).mono ?_
        rintro e w5 ⟨rfl, h5⟩
        go_wp2
        go_ret
        exact ⟨rfl, h5.out.1⟩
    · have d2 : ((p : Int) == (N : Int)) = false := by rw [beq_eq_false_iff_ne]; omega
      have hL4 := hL3 (by omega)
      have d5 : decide (x < L2) = true := decide_eq_true hL4
      have hpN2 : p + 1 ≤ N := by omega
      clear hL3
      go_wp2_with fail
      refine (C2.out _ h4 hpN2).mono ?_
      rintro e w5 ⟨rfl, h5⟩
      by_cases hxe : x = 1000
      · have d3 : (x == 1000) = true := by simp [hxe]
        clear hR hy C2 C3 hpe hxe
        go_wp2
        go_ret
        exact ⟨rfl, h5.out.1⟩
      · have d3 : (x == 1000) = false := by simpa using hxe
        have hy2 := hy hxe
        clear hy C2 hpe
        go_wp2_with fail
        refine (C3.out _ h5 hy2.out).mono ?_
        rintro e w6 ⟨rfl, h6⟩
        go_wp2
        go_ret
        exact ⟨rfl, h6.out.1⟩

theorem fnReach_walk (A0 : Option Addr) (n0 c0 : Nat) (w : World) (hb0 : Byt0 w A0 n0 c0) :
    Calls Try.prog 8 #[.slice A0 n0 c0] w (RetB (.bool true) w) := by
  by_cases hl0 : 1048576 < n0
  · clear hb0
    go_enter Try.func8, Try.ntmps8
    go_wp2
    go_ret
    exact ⟨rfl, Below.refl _ _⟩
  exact fnReach_in A0 n0 c0 w (by omega) hb0.1 hb0.2.2

set_option maxRecDepth 100000 in
theorem fnReach_lifted (os : Os) (started : os.Started) (H : Type) (enc : TypeId × Value → H) :
    ReturnsInHanded {} Try.checked os 8 .any (Rows.fnReachSpec.pre6 enc Try.prog Try.f8 Rows.fnReachRow.domain false) (Rows.fnReachSpec.post enc Try.prog Try.f8 false true false false) := by
  refine returnsInHanded_of_change (C := Try.checked) row_own started (by kernel_rfl) Try.func8
    (ChangeSpec.witness6 (enc := enc) (C := Try.checked) false ⟨#[], #[.slice none 0 0], []⟩ 8 (by kernel_rfl) (by kernel_rfl) (by kernel_rfl) (by kernel_rfl)) ?_
  intro W base args ds gs before hval0 hW hcnd _
  have hval : ∀ (j : Nat) t v, Try.f8.params[j]? = some t → args[j]? = some v → Value.okWide Try.prog W .any base t v := hval0
  have hW' := hW
  obtain ⟨p, q, hA0, hV, rfl, _, _⟩ := hW
  have hA : DataW.TrodAll enc Try.prog W 0 (fun _ => true) true Try.f8.params.toList args.toList ds p := hA0
  rw [Try.params8] at hA hval
  obtain ⟨v0, vs0, d0, ds0, p0, q0, hargs, rfl, rfl, h0, r0⟩ := trodAll_cons hA
  obtain ⟨rfl, rfl, rfl⟩ := trodAll_nil r0
  obtain rfl : args = #[v0] := by cases args; simp_all
  obtain ⟨rfl, rfl⟩ := trodVars_none hV
  have hlt0 : ∀ x ∈ p0, x.block < W.heap.size := fun x hx => by exact hW'.lt x (by simp [hx])
  obtain ⟨A0, n0, c0, rfl, hb0⟩ := open_bytes (hval 0 22 v0 rfl rfl) h0 hlt0
  clear hA0 hval0
  refine (fnReach_walk A0 n0 c0 W hb0).mono fun e W' ⟨he, hb⟩ => ?_
  subst he
  exact ⟨_, rfl, _, _, _, [], _, [], hW', (trodAll_cons_mk (shut_bool Try.underlying4 _) trodAll_mk0), (trodAll_cons_mk (read_again_bytes h0 hlt0 hb) trodAll_mk0), rfl, hb.frame _, fun h => by cases h⟩

/-- THE STATEMENT -/
theorem fnReach_holds : Rows.FnReachSaid :=
  OpenClaim.holds_of_wide 8 Try.f8 rfl rfl rfl rfl rfl rfl rfl ⟨rfl, rfl, rfl, rfl, rfl⟩ rfl rfl rfl rfl rfl (by kernel_rfl) Try.func8 (by kernel_rfl)
    (of_decide_eq_true (by kernel_rfl)) (by unfold Func.isWrapper; first | (rw [if_pos (by decide +kernel)]; kernel_rfl) | (rw [if_neg (by decide +kernel)]; exact ⟨rfl, rfl⟩))
    (fun os started H enc _ => fnReach_lifted os started H enc)
#print axioms fnReach_holds
end Go.Proofs.Ytpkcfdbgndpkeaa
