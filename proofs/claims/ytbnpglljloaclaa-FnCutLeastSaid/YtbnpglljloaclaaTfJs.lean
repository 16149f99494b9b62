/-
  CutLeast of the model.
-/
import Derived.Test.YtbnpglljloaclaaTfLc
import Derived.Test.YtbnpglljloaclaaTfK
import Derived.Test.YtbnpglljloaclaaApI0
import Derived.Test.YtbnpglljloaclaaSprM
namespace Go.Proofs.Ytbnpglljloaclaa
open Go.RowKit

/-- an own slice of ints and what else stands -/
def OnI (w wr : World) (sv : Value) (xs : List Int) : Prop := wr.ownsRow w.heap.size 3 1 sv xs.length (xs.map (Value.int .i64)) ∧ Below w.heap.size w wr
theorem OnI.grown {w wr w3 : World} {sv v' : Value} {xs ys : List Int} {o : Obj} (h : OnI w wr sv xs) (h1 : w3.ownsRow w.heap.size 3 1 v' ys.length (ys.map (Value.int .i64))) (h2 : (wr.alloc o).grownBy w3 sv.ownBlock) : OnI w w3 v' ys :=
  ⟨h1, (h.2.alloc h.2.size o).grown h2 (by simp; have := h.2.size; omega) (fun k e => (h.1.lt k e).1)⟩

/-- the best one so far in an own slice, its cost -/
def LcSt (c : List Int → Int) (base : Nat) (d : List (List Int)) (wr : World) (sv : Value) (cost : Int) : Prop :=
  ∃ xs : List Int, wr.ownsRow base 3 1 sv xs.length (xs.map (Value.int .i64)) ∧ xs.length ≤ 6 ∧ (match bst c d with | none => cost = -1 ∧ xs = [] | some x => cost = c x ∧ xs = x ∧ 0 ≤ c x)
section
variable {c : List Int → Int} {base : Nat} {d : List (List Int)} {W W' : World} {sv : Value} {cost : Int} {x : List Int}
theorem LcSt.go (h : LcSt c base d W sv cost) (hb : Below W.heap.size W W') : LcSt c base d W' sv cost := by
  obtain ⟨xs, h1, h2, h3⟩ := h
  exact ⟨xs, own_below h1 hb, h2, h3⟩
theorem LcSt.new {sv' : Value} (h : LcSt c base d W sv cost) (h1 : 0 ≤ c x) (h2 : cost < 0 ∨ c x < cost) (ho : W'.ownsRow base 3 1 sv' x.length (x.map (Value.int .i64))) (hl : x.length ≤ 6) : LcSt c base (d ++ [x]) W' sv' (c x) := by
  obtain ⟨xs, _, _, h3⟩ := h
  refine ⟨x, ho, hl, ?_⟩
  rw [bst_snoc]
  cases hb : bst c d with
  | none => exact ⟨rfl, rfl, h1⟩
  | some y =>
    rw [hb] at h3
    obtain ⟨h4, _, h5⟩ := h3
    simp only [mrg]
    rw [if_pos (by omega)]
    exact ⟨rfl, rfl, h1⟩
theorem LcSt.stay (h : LcSt c base d W sv cost) (h1 : ¬ cost < 0) (h2 : ¬ c x < cost) : LcSt c base (d ++ [x]) W sv cost := by
  obtain ⟨xs, h3, h4, h5⟩ := h
  refine ⟨xs, h3, h4, ?_⟩
  rw [bst_snoc]
  cases hb : bst c d with
  | none => rw [hb] at h5; obtain ⟨h6, _⟩ := h5; omega
  | some y =>
    rw [hb] at h5
    obtain ⟨h6, h7, h8⟩ := h5
    simp only [mrg]
    rw [if_neg (by omega)]
    exact ⟨h6, h7, h8⟩
theorem LcSt.bd (h : LcSt c base d W sv cost) (hb : ∀ y, c y ≤ 90) : -1 ≤ cost ∧ cost ≤ 90 := by
  obtain ⟨xs, _, _, h3⟩ := h
  cases hd : bst c d with
  | none => rw [hd] at h3; omega
  | some y => rw [hd] at h3; have := hb y; omega
theorem LcSt.end_ (h : LcSt c base d W sv cost) (hx : bst c d = some x) : x.length ≤ 6 ∧ W.ownsRow base 3 1 sv x.length (x.map (Value.int .i64)) := by
  obtain ⟨xs, h1, h2, h3⟩ := h
  rw [hx] at h3
  obtain ⟨_, rfl, _⟩ := h3
  exact ⟨h2, h1⟩
end

set_option maxRecDepth 100000 in
set_option maxHeartbeats 8000000 in
theorem specCutLeast_b (n : Int) (A : Option Addr) (c : Nat) (ss : List Lin) (f t : Int) (w : World) (ha : ArgL w A c ss) :
    Calls Try.prog 24 #[.int .i64 n, .slice A ss.length c, .int .i64 f, .int .i64 t] w (RetS 3 (fun v => .tuple #[v, .bool (endB n ss f t)]) (lcV n ss f t) w) := by
  obtain ⟨i0, hi, hz0, hz1, hz2⟩ := info_parts intInf
  have HA := Lib.hid ha
  clear ha
  go_enter Try.func24, Try.ntmps24
  go_wp2_with fail
  refine (l7Two_c _ _ _ _ _ _ _ (HA.out.go (below_none w _))).mono ?_
  rintro e w1 ⟨rfl, hb1⟩
  have hOw := own_below (own_none w 3) hb1
  have HBw := Lib.hid (below_step (below_none w 3) hb1)
  have HA1 := Lib.hid ((HA.out.go (below_none w 3)).go hb1)
  have HOw := Lib.hid hOw
  clear hb1 hOw
  cases e1 : endB n ss f t
  · have N := Lib.hid (lcV_no e1)
    have E1 := Lib.hid e1
    clear e1
    go_wp2
    go_ret2
    rw [N.out, E1.out]
    exact RetS.mk (f := fun v => .tuple #[v, .bool false]) (by simp) HOw.out HBw.out
  obtain ⟨x, hx⟩ := lc_some e1
  have Hval := Lib.hid (lcV_bst e1 hx)
  have E1 := Lib.hid e1
  obtain ⟨m, rfl, hm, hf, ht, _⟩ := ends_nat e1
  rw [Int.toNat_natCast] at hx
  have hp : ∀ k, k ≤ m → (2 : Nat) ^ k ≤ 64 := fun k hk => Nat.pow_le_pow_right (i := k) (j := 6) (show 0 < 2 by decide) (by omega)
  have Hp := Lib.hid hp
  have Hx := Lib.hid hx
  clear hx hp e1
  go_wp2
  go_loop [12, 13] (fun v i => ∃ k : Nat, k ≤ m ∧ i = .int .i64 k ∧ v = .int .i64 ((2 ^ k : Nat) : Int)) (fun _ i => m - (intOf i).toNat)
  case atStart => exact ⟨0, Nat.zero_le _, rfl, by simp⟩
  case round =>
    obtain ⟨k, hk, rfl, rfl⟩ := hrel
    have hp := Hp.out k hk
    have hps : (2 : Nat) ^ (k + 1) = 2 ^ k + 2 ^ k := by rw [Nat.pow_succ]; omega
    obtain ⟨M, hMd⟩ : ∃ M, 2 ^ k = M := ⟨_, rfl⟩
    rw [hMd] at hp hps ⊢
    have Hps := Lib.hid hps
    clear hps
    by_cases hlt : k < m
    · have g1 : (k : Int) < (m : Int) := by omega
      clear hMd
      go_wp2
      go_round
      case rel => exact ⟨k + 1, by omega, by go_num, by rw [Hps.out]; simp⟩
      case measure => simp [intOf]; omega
    · obtain rfl : k = m := by omega
      rw [hMd] at Hx
      have HMd := Lib.hid hMd
      clear hMd Hps
      go_wp2
      go_loopw [10, 11, 14] (fun sv cv i wr => ∃ (q : Nat) (cost : Int), q ≤ M ∧ i = .int .i64 q ∧ cv = .int .i64 cost ∧ LcSt (cutV (k : Int) ss f t) w.heap.size (lcTo (k : Int) ss f t k q) wr sv cost ∧ Below w.heap.size w wr ∧ ArgL wr A c ss) (fun _ _ i _ => M - (intOf i).toNat)
      case atStart => exact ⟨0, -1, Nat.zero_le _, rfl, rfl, ⟨[], HOw.out, by simp, rfl, rfl⟩, HBw.out, HA1.out⟩
      case round =>
        obtain ⟨q, cost, hq, rfl, rfl, hl, hbw, haw⟩ := hrel
        have Hl := Lib.hid hl
        have Hbw := Lib.hid hbw
        have Haw := Lib.hid haw
        have hcb := hl.bd (fun y => (cutV_bd (k : Int) ss f t y).2)
        clear hl hbw haw
        by_cases hlt : q < M
        · have g1 : (q : Int) < (M : Int) := by omega
          have hdl := digs_len k q
          have Hdl := Lib.hid hdl
          clear hdl
          obtain ⟨wo, hwo⟩ : ∃ wo, wr = wo := ⟨_, rfl⟩
          subst wr
          go_wp2
          go_loopw [15, 16, 17] (fun ov tv iv wr => ∃ (i : Nat) (xs : List Int), i ≤ k ∧ iv = .int .i64 i ∧ tv = .int .i64 ((q / 2 ^ i : Nat) : Int) ∧ xs = (digs k q).take i ∧ OnI wo wr ov xs) (fun _ _ iv _ => k - (intOf iv).toNat)
          case atStart => exact ⟨0, [], Nat.zero_le _, rfl, by simp, rfl, own_none wo _, below_none wo _⟩
          case round =>
            obtain ⟨i, xs, hin, rfl, rfl, hxs, ho⟩ := hrel
            have hxl : xs.length ≤ 6 := by rw [hxs, List.length_take]; omega
            have Hxs := Lib.hid hxs
            have Ho := Lib.hid ho
            have hwsz := ho.2.size
            have hdiv := Nat.div_le_self q (2 ^ i)
            have Hs2 := Lib.hid (show q / 2 ^ i / 2 = q / 2 ^ (i + 1) by rw [Nat.div_div_eq_div_mul, Nat.pow_succ])
            have Hta := Lib.hid (fun h => digs_take (m := k) (num := q) (k := i) h)
            obtain ⟨y, hyy⟩ : ∃ y, q / 2 ^ i = y := ⟨_, rfl⟩
            rw [hyy] at hdiv Hs2 Hta ⊢
            clear hxs ho hyy
            have t1 : ((y : Nat) : Int).tmod 2 = ((y % 2 : Nat) : Int) := by rw [Int.tmod_eq_emod_of_nonneg (by omega)]; omega
            have t0 : ((y : Nat) : Int).tdiv 2 = ((y / 2 : Nat) : Int) := by rw [Int.tdiv_eq_ediv_of_nonneg (by omega)]; omega
            have q0 : IntKind.i64.wrap ((y / 2 : Nat) : Int) = ((y / 2 : Nat) : Int) := IntWalk.i64_in _ (by omega)
            have q1 : IntKind.i64.wrap ((y % 2 : Nat) : Int) = ((y % 2 : Nat) : Int) := IntWalk.i64_in _ (by omega)
            by_cases hlt2 : i < k
            · have g2 : (i : Int) < (k : Int) := by omega
              have Hxy := Lib.hid (show xs ++ [((y % 2 : Nat) : Int)] = (digs k q).take (i + 1) by rw [Hxs.out, Hta.out hlt2])
              go_wp2_with (at_builtin; refine wpList_append_ints rfl (.tmp 47) (.tmp 50) 24 rfl wo.heap.size 3 i0 (.int .i64 0) Try.underlying24 hi hz0 hz1 hz2 rfl _ xs rfl (Ho.out.1.alloc _) (some ⟨_, 0, none⟩) 1 [((y % 2 : Nat) : Int)] rfl (arg_one _ ((y % 2 : Nat) : Int) _) (by simp; omega) (by simp; omega) ?_; intro v' w3 hown3 hg3; have H3 := Lib.hid (Ho.out.grown hown3 hg3); clear hown3 hg3)
              go_roundw
              case rel => exact ⟨i + 1, _, by omega, by go_num, (by rw [← Hs2.out]; congr 1), Hxy.out, H3.out⟩
              case measure => simp [intOf]; omega
            · obtain rfl : i = k := by omega
              have hxe : xs = digs i q := by rw [Hxs.out, List.take_of_length_le (by rw [Hdl.out]; exact Nat.le_refl _)]
              subst hxe
              have howf := Ow.of_own Ho.out.1
              obtain ⟨A2, c2, rfl, _, _, _⟩ := howf.form
              have harg := howf.arg (by omega) (Nat.le_refl _)
              have hcall := specCutOf_b (i : Int) f t A A2 c c2 ss (digs i q) wr (Haw.out.go Ho.out.2) harg
              have hyes := fun h => lcTo_yes (n := (i : Int)) (N := ss) (f := f) (t := t) (m := i) (k := q) h
              have hno := fun h => lcTo_no (n := (i : Int)) (N := ss) (f := f) (t := t) (m := i) (k := q) h
              have hnew := fun (W' : World) sv' h1 h2 ho hl => Hl.out.new (x := digs i q) (W' := W') (sv' := sv') h1 h2 ho hl
              have hlgo := fun (W' : World) hb => Hl.out.go (W' := W') hb
              have hstay := fun (W' : World) (hb : Below wo.heap.size wo W') h1 h2 => (Hl.out.go hb).stay (x := digs i q) h1 h2
              obtain ⟨cv, hcv⟩ : ∃ cv, cutV (i : Int) ss f t (digs i q) = cv := ⟨_, rfl⟩
              have hbd := cutV_bd (i : Int) ss f t (digs i q)
              rw [hcv] at hcall hyes hno hbd hnew hstay
              have Hyes := Lib.hid hyes
              have Hno := Lib.hid hno
              have Hnew := Lib.hid hnew
              have Hstay := Lib.hid hstay
              have Hcall := Lib.hid hcall
              have hwy := below_step Hbw.out (Ho.out.2)
              have Hwy := Lib.hid hwy
              clear hlgo hwy hyes hno hnew hstay hcall harg howf hcv t1 t0 q0 q1 Hs2 Hta Hxs hdiv
              go_wp2_with fail
              refine Hcall.out.mono ?_
              rintro e w4 ⟨rfl, hw4⟩
              have Hwy4 := Lib.hid (below_step Hwy.out hw4)
              have Hl4 := Lib.hid (Hl.out.go (below_step Ho.out.2 hw4))
              have Ha4 := Lib.hid (Haw.out.go (below_step Ho.out.2 hw4))
              have Hown4 := Lib.hid (OwnsRow.more (own_below Ho.out.1 hw4) Hbw.out.size)
              have hlen6 : (digs i q).length ≤ 6 := by rw [Hdl.out]; omega
              have Hst4 := Lib.hid (below_step Ho.out.2 hw4)
              clear hw4
              by_cases h0 : 0 ≤ cv
              · by_cases h1 : cost < 0
                · have Hy := Lib.hid (Hyes.out h0)
                  have Hn := Lib.hid (Hnew.out w4 _ h0 (.inl h1) Hown4.out hlen6)
                  go_wp2
                  go_roundw
                  case rel => exact ⟨q + 1, cv, by omega, by go_num, rfl, by rw [Hy.out]; exact Hn.out, Hwy4.out, Ha4.out⟩
                  case measure => simp [intOf]; omega
                · by_cases h2 : cv < cost
                  · have Hy := Lib.hid (Hyes.out h0)
                    have Hn := Lib.hid (Hnew.out w4 _ h0 (.inr h2) Hown4.out hlen6)
                    go_wp2
                    go_roundw
                    case rel => exact ⟨q + 1, cv, by omega, by go_num, rfl, by rw [Hy.out]; exact Hn.out, Hwy4.out, Ha4.out⟩
                    case measure => simp [intOf]; omega
                  · have Hy := Lib.hid (Hyes.out h0)
                    have Hs := Lib.hid (Hstay.out w4 Hst4.out (by omega) (by omega))
                    go_wp2
                    go_roundw
                    case rel => exact ⟨q + 1, cost, by omega, by go_num, rfl, by rw [Hy.out]; exact Hs.out, Hwy4.out, Ha4.out⟩
                    case measure => simp [intOf]; omega
              · have Hn := Lib.hid (Hno.out (by omega))
                go_wp2
                go_roundw
                case rel => exact ⟨q + 1, cost, by omega, by go_num, rfl, by rw [Hn.out]; exact Hl4.out, Hwy4.out, Ha4.out⟩
                case measure => simp [intOf]; omega
        · obtain rfl : q = M := by omega
          have hend := Hl.out.end_ Hx.out
          have Hend := Lib.hid hend
          clear hend
          go_wp2
          go_ret2
          rw [Hval.out, E1.out]
          exact RetS.mk (f := fun v => .tuple #[v, .bool true]) (by have := Hend.out.1; omega) Hend.out.2 Hbw.out
end Go.Proofs.Ytbnpglljloaclaa
