/-
  A slice of slices of ints; slices.Concat of them.
-/
import Derived.Test.YtjboamhjfncgdaaApI0
import Derived.Test.YtjboamhjfncgdaaBase
import Derived.Lib.AppendZerosOnto
import Derived.Deep.AppendLies
namespace Go.Proofs.Ytjboamhjfncgdaa
open Go.RowKit

theorem rowInf : (Try.prog.info? 25).map (fun i => (i.zero, i.size, i.bytes)) = some (some (.slice none 0 0), 1, 24) := by kernel_rfl

/-- the values vs read as the lists Ls -/
def Row2 (w : World) (vs : List Value) (Ls : List (List Int)) : Prop := vs.length = Ls.length ∧ ∀ j, j < Ls.length → ∃ a cc, vs[j]? = some (.slice a (Ls[j]?.getD []).length cc) ∧ Arg w a cc (Ls[j]?.getD [])
theorem Row2.nil (w : World) : Row2 w [] [] := ⟨rfl, fun j h => absurd h (by simp)⟩
theorem Row2.go {w w' : World} {vs : List Value} {Ls : List (List Int)} (h : Row2 w vs Ls) (hb : Below w.heap.size w w') : Row2 w' vs Ls := ⟨h.1, fun j hj => by
  obtain ⟨a, cc, h1, h2⟩ := h.2 j hj
  exact ⟨a, cc, h1, h2.go hb⟩⟩
theorem Row2.cons {w : World} {vs : List Value} {Ls : List (List Int)} {a : Option Addr} {cc : Nat} {L : List Int} (h : Row2 w vs Ls) (ha : Arg w a cc L) : Row2 w (.slice a L.length cc :: vs) (L :: Ls) := ⟨by simp [h.1], fun j hj => by
  cases j with
  | zero => exact ⟨a, cc, rfl, ha⟩
  | succ j =>
    obtain ⟨a', c', h1, h2⟩ := h.2 j (by simpa using hj)
    exact ⟨a', c', by simpa using h1, by simpa using h2⟩⟩
theorem Row2.one {w : World} {vs : List Value} {Ls : List (List Int)} (h : Row2 w vs Ls) : ∀ u ∈ vs, u.oneCell' = true := fun u hu => by
  obtain ⟨j, hj, e⟩ := List.getElem_of_mem hu
  obtain ⟨a, cc, h1, _⟩ := h.2 j (by rw [← h.1]; exact hj)
  rw [List.getElem?_eq_getElem hj, e] at h1
  injection h1 with h1
  subst h1; rfl
/-- A SLICE OF SLICES AS AN ARGUMENT -/
def ArgSS (w : World) (A : Option Addr) (c : Nat) (Ls : List (List Int)) : Prop :=
  Ls.length ≤ c ∧ c ≤ maxLen ∧ ∃ vs, Row2 w vs Ls ∧ (0 < Ls.length → ∃ b off, A = some ⟨b, off, none⟩ ∧ b < w.heap.size ∧ ∀ j u, vs[j]? = some u → w.cell? ⟨b, off + j, none⟩ = some u)
theorem ArgSS.nil (w : World) : ArgSS w none 0 [] := ⟨by simp, by simp, [], Row2.nil w, fun h => absurd h (by simp)⟩
theorem ArgSS.go {w w' : World} {A : Option Addr} {c : Nat} {Ls : List (List Int)} (h : ArgSS w A c Ls) (hb : Below w.heap.size w w') : ArgSS w' A c Ls := by
  obtain ⟨h1, h2, vs, hr, hc⟩ := h
  refine ⟨h1, h2, vs, hr.go hb, fun hn => ?_⟩
  obtain ⟨b, off, e, hbl, hcell⟩ := hc hn
  exact ⟨b, off, e, Nat.lt_of_lt_of_le hbl hb.size, fun j u hu => (hb.cell (p := ⟨b, off + j, none⟩) hbl).trans (hcell j u hu)⟩
/-- what is asked for in a round -/
theorem ArgSS.at_ {w : World} {A : Option Addr} {c : Nat} {Ls : List (List Int)} (h : ArgSS w A c Ls) {j : Nat} (hj : j < Ls.length) : ∃ b off a cc, A = some ⟨b, off, none⟩ ∧ w.cell? ⟨b, off + j, none⟩ = some (.slice a (Ls[j]?.getD []).length cc) ∧ Arg w a cc (Ls[j]?.getD []) := by
  obtain ⟨h1, h2, vs, hr, hc⟩ := h
  obtain ⟨b, off, e, hbl, hcell⟩ := hc (by omega)
  obtain ⟨a, cc, k1, k2⟩ := hr.2 j hj
  exact ⟨b, off, a, cc, e, hcell j _ k1, k2⟩
theorem ArgSS.of_own {w : World} {base : Nat} {A : Option Addr} {c n : Nat} {vs : List Value} {Ls : List (List Int)} (h : w.ownsRow base 25 1 (.slice A n c) n vs) (hn : n = Ls.length) (hr : Row2 w vs Ls) : ArgSS w A c Ls := by
  subst hn
  rcases h.2 with ⟨h3, h0⟩ | ⟨g, cap, cur, e1, hg, hgg, hnc, hm, hs, ht⟩
  · injection h3 with h3 _ h4
    subst h3; subst h4
    have : Ls = [] := List.eq_nil_of_length_eq_zero (by omega)
    subst this
    exact ⟨by simp, by simp, vs, hr, fun h => absurd h (by simp)⟩
  · injection e1 with e1 e2 e3
    subst e1; subst e3
    refine ⟨hnc, hm, vs, hr, fun _ => ⟨g, 0, rfl, (Array.getElem?_eq_some_iff.1 hgg).1, fun j u hu => ?_⟩⟩
    have := h.cells (g := g) rfl j u hu
    rwa [show (⟨g, 0, none⟩ : Addr).add j = ⟨g, 0 + j, none⟩ by unfold Addr.add; split <;> simp_all] at this

/-- append(own, rows...) -/
theorem wpList_append_rows {P : Program} {w : World} {ops : Array Oper} {rest : List Oper} {o : Oper} {a : Act} {Q : Exit → Act → World → Prop} (hgd : o.guard = none) (s x : Operand) (t : TypeId)
    (ho : o.op = .call { callee := .builtin .append, args := #[s, x], argTypes := #[t, t] })
    (base : Nat) (e : TypeId) (i : TypeInfo) (z : Value) (ht : P.underlying t = some (.slice e)) (hi : P.info? e = some i) (hz : i.zero = some z)
    (hsize : i.size = 1) (hby : i.bytes = 24) (hzs : z.cells.size = 1)
    (v : Value) (k : Nat) (xs : List Value) (hs : a.eval s = v) (hown : w.ownsRow base e 1 v k xs)
    (A : Option Addr) (c : Nat) (Ls : List (List Int)) (hx : a.eval x = .slice A Ls.length c) (ha : ArgSS w A c Ls)
    (h63 : k + Ls.length ≤ 4194304) (hbase : base ≤ w.heap.size)
    (h : ∀ vs, Row2 w vs Ls → ∀ v' w', w'.ownsRow base e 1 v' (k + Ls.length) (xs ++ vs) → w.grownBy w' v.ownBlock → wpList P ops Q rest (a.put o.dst v') w') : wpList P ops Q (o :: rest) a w := by
  obtain ⟨h1, h2, vs, hr, hc⟩ := ha
  by_cases hn : Ls.length = 0
  · have h0 : Ls = [] := List.eq_nil_of_length_eq_zero hn
    subst h0
    have hv : vs = [] := List.eq_nil_of_length_eq_zero (by rw [hr.1]; rfl)
    subst hv
    cases A with
    | none =>
      refine wpList_plain hgd fun K hK => ?_
      have hrun := run_append_none_i (P := P) (w := w) base t o.type e i 1 ht hi v k c xs hown
      unfold Oper.wp
      simp only [List.length_nil] at hx
      simp [execOp, ho, resolve, invoke, builtin, hs, hx, hrun, Result.andThen]
      exact hK _ _ (h [] hr v w (by simpa using hown) (World.grownBy.refl _ _))
    | some ad =>
      exact wpList_append_own w hgd s x t ho base e i z 1 24 ht hi hz hsize hby hzs (by omega) v k xs hs hown ad 0 c [] hx rfl (fun j u hu => by simp at hu) (fun u hu => by simp at hu) (by unfold maxLen; omega) (by omega) hbase fun v' w' k1 k2 _ => h [] hr v' w' (by simpa using k1) k2
  · obtain ⟨b, off, e1, _, hcell⟩ := hc (by omega)
    subst e1
    exact wpList_append_own w hgd s x t ho base e i z 1 24 ht hi hz hsize hby hzs (by omega) v k xs hs hown ⟨b, off, none⟩ Ls.length c vs hx (by rw [hr.1]; omega) (fun j u hu => by rw [show (⟨b, off, none⟩ : Addr).add j = ⟨b, off + j, none⟩ by unfold Addr.add; split <;> simp_all]; exact hcell j u hu) hr.one (by unfold maxLen; omega) (by omega) hbase fun v' w' k1 k2 _ => h vs hr v' w' k1 k2

set_option maxRecDepth 100000 in
set_option maxHeartbeats 1000000 in
/-- slices.Grow(nil, n): a new, empty slice with room; nil if there is nothing to come. -/
theorem growN_c (n : Nat) (w : World) (hl : n ≤ 4194304) :
    Calls Try.prog 100 #[.slice none 0 0, .int .i64 (n : Int)] w fun e w' =>
      ∃ v, e = .returned v ∧ w'.ownsRow w.heap.size 3 1 v 0 [] ∧ Below w.heap.size w w' := by
  rcases Nat.eq_zero_or_pos n with rfl | hn
  · go_enter Try.func100, Try.ntmps100
    go_wp2
    go_ret
    exact ⟨_, rfl, World.ownsRow_nil _ _ _ _, Below.refl _ _⟩
  obtain ⟨i0, hi, hz0, hz1, hz2⟩ := info_parts int_info
  have hold : (Builtin.firstCells i0.size 0 (.slice none 0 0)).run Try.prog w.drew = .ok (#[] : Array Value) w.drew := run_firstCells_none w.drew i0.size 0 0 0
  have hrz := Lib.run_append_grow_zeros (P := Try.prog) w 25 3 25 3 i0 (.int .i64 0) .i64 .i64 Try.underlying25 Try.underlying3 hi hz0 none 0 0 [] hold n (by omega) (by omega) (by omega) (by omega) (by rw [hz2]; omega)
    (by rw [hz2]; exact growslice_fits (by omega) (by omega))
  have hGn : n ≤ grownCap w (0 + n) 0 3 := by have := grownCap_ge w (0 + n) 0 3; omega
  obtain ⟨G, hG⟩ : ∃ G, G = grownCap w (0 + n) 0 3 := ⟨_, rfl⟩
  rw [← hG] at hrz hGn
  have hG63 : G ≤ maxLen := by
    have := grownCap_le_maxLen w (0 + n) 0 3 (by unfold maxLen; omega)
    rwa [← hG] at this
  rw [Nat.zero_add] at hrz
  obtain ⟨C, hC⟩ : ∃ C, C = ([].toArray ++ Builtin.zeroCells (Value.cells (.int .i64 0)) n ++ Builtin.zeroCells (Value.cells (.int .i64 0)) (G - n) : Array Value) := ⟨_, rfl⟩
  have hCs : C.size = G * 1 := by rw [hC]; simp [size_zeroCells, Value.cells]; omega
  rw [← hC] at hrz
  have HCs := Lib.hid hCs
  have hG64 : G ≤ 9223372036854775807 := by unfold maxLen at hG63; omega
  clear hC hCs hG hold
  go_enter Try.func100, Try.ntmps100
  go_wp2_with (at_builtin; refine Lib.wpList_append_run _ rfl _ _ _ _ rfl _ _ rfl rfl _ _ hrz ?_)
  go_ret
  exact ⟨.slice (some ⟨w.heap.size, 0, none⟩) 0 G, rfl, World.ownsRow_made (w.drew) C G (Nat.le_refl _) hG63 HCs.out, (Below.refl _ w).drew.alloc (Nat.le_refl _) _⟩

theorem flat_succ {Ls : List (List Int)} {k : Nat} (h : k < Ls.length) : (Ls.take (k + 1)).flatten = (Ls.take k).flatten ++ Ls[k]?.getD [] := by
  rw [List.take_succ_eq_append_getElem h, List.flatten_append]; simp [h]
theorem flat_len_le (Ls : List (List Int)) : ∀ k, (Ls.take k).flatten.length ≤ Ls.flatten.length := fun k => by
  have := congrArg List.flatten (List.take_append_drop k Ls)
  rw [List.flatten_append] at this
  rw [← this, List.length_append]; omega

set_option maxRecDepth 100000 in
set_option maxHeartbeats 2000000 in
theorem concatL_c (A : Option Addr) (c : Nat) (Ls : List (List Int)) (w : World) (ha : ArgSS w A c Ls) (hn : Ls.length ≤ 1000) (hf : Ls.flatten.length ≤ 1000) :
    Calls Try.prog 75 #[.slice A Ls.length c] w (RetS 3 id Ls.flatten w) := by
  obtain ⟨i0, hi, hz0, hz1, hz2⟩ := info_parts intInf
  have HA := Lib.hid ha
  clear ha
  go_enter Try.func75, Try.ntmps75
  go_wp2
  go_loop [3, 11] (fun q i => ∃ k : Nat, k ≤ Ls.length ∧ i = .int .i64 k ∧ q = .int .i64 ((Ls.take k).flatten.length : Nat)) (fun _ i => Ls.length - (intOf i).toNat)
  case atStart => exact ⟨0, Nat.zero_le _, rfl, rfl⟩
  case round =>
    obtain ⟨k, hk, rfl, rfl⟩ := hrel
    have hb0 := flat_len_le Ls k
    by_cases hlt : k < Ls.length
    · obtain ⟨b, off, a, cc, rfl, hc, _⟩ := HA.out.at_ hlt
      have hsu := congrArg List.length (flat_succ hlt)
      rw [List.length_append] at hsu
      have hb1 := flat_len_le Ls (k + 1)
      obtain ⟨X, hX⟩ : ∃ X, (Ls.take k).flatten.length = X := ⟨_, rfl⟩
      obtain ⟨Y, hY⟩ : ∃ Y, (Ls[k]?.getD []).length = Y := ⟨_, rfl⟩
      rw [hX, hY] at hsu
      rw [hY] at hc
      rw [hX] at hb0 ⊢
      have q1 : IntKind.i64.wrap ((X : Int) + (Y : Int)) = ((X + Y : Nat) : Int) := by rw [IntWalk.i64_in _ (by omega)]; omega
      have Hsu := Lib.hid hsu
      have g1 : (k : Int) < (Ls.length : Int) := by omega
      have g2 : ¬ ((X : Int) + (Y : Int) < 0) := by omega
      have g3 : ¬ (((X + Y : Nat) : Int) < 0) := by omega
      clear hX hY hsu hb1
      go_wp2
      go_round
      case rel => exact ⟨k + 1, by omega, by go_num, by rw [Hsu.out]; first | rfl | rw [Int.natCast_add]⟩
      case measure => simp [intOf]; omega
    · obtain rfl : k = Ls.length := by omega
      rw [List.take_length] at hb0 ⊢
      have Hgrow := Lib.hid (growN_c Ls.flatten.length w (by omega))
      obtain ⟨X, hX⟩ : ∃ X, Ls.flatten.length = X := ⟨_, rfl⟩
      rw [hX] at Hgrow ⊢
      clear hX
      go_wp2_with fail
      refine Hgrow.out.mono ?_
      rintro e w1 ⟨v1, rfl, hown, hb⟩
      have Hown := Lib.hid hown
      have Hb := Lib.hid hb
      clear hown hb Hgrow
      go_wp2
      go_loopw [6, 27] (fun o i wr => ∃ (k : Nat) (v : Value), k ≤ Ls.length ∧ i = .int .i64 k ∧ v = o ∧ wr.ownsRow w.heap.size 3 1 v (Ls.take k).flatten.length ((Ls.take k).flatten.map (Value.int .i64)) ∧ Below w.heap.size w wr) (fun _ i _ => Ls.length - (intOf i).toNat)
      case atStart => exact ⟨0, _, Nat.zero_le _, rfl, rfl, Hown.out, Hb.out⟩
      case round =>
        obtain ⟨k, v, hk, rfl, rfl, hok, hbk⟩ := hrel
        have Hok := Lib.hid hok
        have Hbk := Lib.hid hbk
        clear hok hbk
        have hb2 := flat_len_le Ls k
        by_cases hlt : k < Ls.length
        · obtain ⟨b, off, a, cc, rfl, hc, hr⟩ := (HA.out.go Hbk.out).at_ hlt
          have hsu := flat_succ hlt
          have hb3 := congrArg List.length hsu
          rw [List.length_append] at hb3
          have hb4 := flat_len_le Ls (k + 1)
          obtain ⟨X, hX⟩ : ∃ X, (Ls.take k).flatten = X := ⟨_, rfl⟩
          obtain ⟨Y, hY⟩ : ∃ Y, Ls[k]?.getD [] = Y := ⟨_, rfl⟩
          rw [hX, hY] at hsu hb3
          rw [hY] at hc hr
          rw [hX] at Hok hb2
          have Hsu := Lib.hid hsu
          have Hr := Lib.hid hr
          have hXY : X.length + Y.length ≤ 1000 := by omega
          have g1 : (k : Int) < (Ls.length : Int) := by omega
          clear hX hY hsu hr hb3 hb4 hb2
          go_wp2_with (at_builtin; refine wpList_append_ints rfl (.tmp 31) (.tmp 32) 25 rfl w.heap.size 3 i0 (.int .i64 0) Try.underlying25 hi hz0 hz1 hz2 rfl v X rfl Hok.out a cc Y rfl Hr.out (by omega) Hbk.out.size ?_; intro v' w9 hown9 hg9; have H9 := Lib.hid (And.intro hown9 (Hbk.out.grown hg9 Hbk.out.size (fun r e => (Hok.out.lt r e).1))); clear hown9 hg9)
          go_roundw
          case rel => exact ⟨k + 1, v', by omega, by go_num, rfl, by rw [Hsu.out]; exact H9.out.1, H9.out.2⟩
          case measure => simp [intOf]; omega
        · obtain rfl : k = Ls.length := by omega
          rw [List.take_length] at Hok
          go_wp2
          go_ret
          exact RetS.mk (f := id) (by omega) Hok.out Hbk.out

end Go.Proofs.Ytjboamhjfncgdaa
