/-
  append(own, secs...): the source a slice that reads as sections, nil or not; and the model's l2Part.
-/
import Derived.Test.YtndpdoiomoefpaaCMiles
import Derived.Laws.AppendOwnNone
namespace Go.Proofs.Ytndpdoiomoefpaa
open Go.RowKit

theorem section_info : (Try.prog.info? 54).map (fun i => (i.zero, i.size, i.bytes)) = some (some (.agg #[.int .i64 0, .int .i64 0, .int .i64 0]), 3, 24) := by kernel_rfl

theorem run_append_none_c {P : Program} {w : World} (base : Nat) (t ty e : TypeId) (i : TypeInfo) (size : Nat) (ht : P.underlying t = some (.slice e)) (hi : P.info? e = some i)
    (v : Value) (n c : Nat) (xs : List Value) (hown : w.ownsRow base e size v n xs) :
    (Builtin.append_ #[t, t] ty #[v, .slice none 0 c]).run P w = .ok v w := by
  rcases hown.2 with ⟨rfl, rfl⟩ | ⟨g, cap, cur, rfl, _, _, hnc, _⟩
  · simp [Builtin.append_, run_underlying ht, sizeOf, typeInfo, hi, Builtin.lenOf, Builtin.firstCells]
  · simp [Builtin.append_, run_underlying ht, sizeOf, typeInfo, hi, Builtin.lenOf, Builtin.firstCells, hnc, storeCells]

theorem arg_cells {w : World} {b o c : Nat} {ss : List Sec} (ha : ArgC w (some ⟨b, o, none⟩) c ss) : ∀ j u, (secCells ss)[j]? = some u → w.cell? ((⟨b, o, none⟩ : Addr).add j) = some u := by
  intro j u hu
  have hj : j < ss.length * 3 := by
    have := (List.getElem?_eq_some_iff.1 hu).1
    rwa [secCells_length] at this
  obtain ⟨b', o', e, _, _, h0, h1, h2⟩ := ha.rd.at_ (k := j / 3) (by omega)
  injection e with e
  injection e with e1 e2 _
  subst e1
  subst e2
  have ea : (⟨b, o, none⟩ : Addr).add j = ⟨b, o + j, none⟩ := by unfold Addr.add; split <;> simp_all
  rw [ea]
  have hd : j = j / 3 * 3 + j % 3 := by omega
  have hlt : j / 3 < ss.length := by omega
  rcases (by omega : j % 3 = 0 ∨ j % 3 = 1 ∨ j % 3 = 2) with h | h | h
  · rw [h, Nat.add_zero] at hd
    rw [hd, secCells_0 hlt] at hu
    rw [hd, ← hu]
    exact h0
  · rw [h] at hd
    rw [hd, secCells_1 hlt] at hu
    rw [hd, ← hu, ← Nat.add_assoc]
    exact h1
  · rw [h] at hd
    rw [hd, secCells_2 hlt] at hu
    rw [hd, ← hu, ← Nat.add_assoc]
    exact h2

/-- append(own, secs...) -/
theorem wpList_append_secs {P : Program} {w : World} {ops : Array Oper} {rest : List Oper} {o : Oper} {a : Act} {Q : Exit → Act → World → Prop} (hgd : o.guard = none) (s x : Operand) (t : TypeId)
    (ho : o.op = .call { callee := .builtin .append, args := #[s, x], argTypes := #[t, t] })
    (base : Nat) (e : TypeId) (i : TypeInfo) (z : Value) (ht : P.underlying t = some (.slice e)) (hi : P.info? e = some i) (hz : i.zero = some z)
    (hsize : i.size = 3) (hby : i.bytes = 24) (hzs : z.cells.size = 3)
    (v : Value) (xs : List Sec) (hs : a.eval s = v) (hown : w.ownsRow base e 3 v xs.length (secCells xs))
    (A : Option Addr) (c : Nat) (ss : List Sec) (hx : a.eval x = .slice A ss.length c) (ha : ArgC w A c ss)
    (h63 : xs.length + ss.length ≤ 8388608) (hbase : base ≤ w.heap.size)
    (h : ∀ v' w', w'.ownsRow base e 3 v' (xs ++ ss).length (secCells (xs ++ ss)) → w.grownBy w' v.ownBlock → wpList P ops Q rest (a.put o.dst v') w') : wpList P ops Q (o :: rest) a w := by
  rw [List.length_append, secCells_append] at h
  cases A with
  | none =>
    have h0 : ss = [] := by
      rcases Nat.lt_or_ge 0 ss.length with hp | hp
      · obtain ⟨b, off, e, _⟩ := ha.rd hp
        cases e
      · exact List.eq_nil_of_length_eq_zero (by omega)
    subst h0
    refine wpList_plain hgd fun K hK => ?_
    have hrun := run_append_none_c (P := P) (w := w) base t o.type e i 3 ht hi v xs.length c (secCells xs) hown
    unfold Oper.wp
    simp only [List.length_nil] at hx
    simp [execOp, ho, resolve, invoke, builtin, hs, hx, hrun, Result.andThen]
    exact hK _ _ (h v w (by simpa [secCells_nil] using hown) (World.grownBy.refl _ _))
  | some ad =>
    by_cases hn : ss.length = 0
    · have h0 : ss = [] := List.eq_nil_of_length_eq_zero hn
      subst h0
      exact wpList_append_own w hgd s x t ho base e i z 3 24 ht hi hz hsize hby hzs (by omega) v xs.length (secCells xs) hs hown ad 0 c [] hx rfl (fun j u hu => by simp at hu) (fun u hu => by simp at hu) (by unfold maxLen; omega) (by omega) hbase fun v' w' h1 h2 _ => h v' w' (by simpa [secCells_nil] using h1) h2
    · obtain ⟨b, off, e1, _⟩ := ha.rd (by omega)
      injection e1 with e1
      subst e1
      exact wpList_append_own w hgd s x t ho base e i z 3 24 ht hi hz hsize hby hzs (by omega) v xs.length (secCells xs) hs hown ⟨b, off, none⟩ ss.length c (secCells ss) hx (secCells_length ss) (arg_cells ha) (secCells_oneCell ss) (by unfold maxLen; omega) (by omega) hbase fun v' w' h1 h2 _ => h v' w' h1 h2

set_option maxRecDepth 100000 in
set_option maxHeartbeats 2000000 in
theorem l2Part_c (A : Option Addr) (c : Nat) (ss : List Sec) (f t : Int) (w : World) (ha : ArgC w A c ss) (hs : small 50 ss) (hl : ss.length ≤ 8)
    (hf0 : 0 ≤ f) (hf1 : f ≤ 1000000) (ht0 : 0 ≤ t) (ht1 : t ≤ 1000000) :
    Calls Try.prog 109 #[.slice A ss.length c, .int .i64 f, .int .i64 t] w (RetC 54 id (partL ss f t) w) := by
  obtain ⟨i0, hi, hz0, hz1, hz2⟩ := info_parts section_info
  have HA := Lib.hid ha
  have Hs := Lib.hid hs
  clear ha hs
  go_enter Try.func109, Try.ntmps109
  go_wp2
  go_loopw [7, 8, 9] (fun o q i wr => ∃ (k : Nat) (v : Value), k ≤ ss.length ∧ i = .int .i64 k ∧ q = .int .i64 (milesL (ss.take k)) ∧ v = o ∧ wr.ownsRow w.heap.size 54 3 v (partL (ss.take k) f t).length (secCells (partL (ss.take k) f t)) ∧ Below w.heap.size w wr) (fun _ _ i _ => ss.length - (intOf i).toNat)
  case atStart => exact ⟨0, _, Nat.zero_le _, rfl, rfl, rfl, World.ownsRow_made w #[] 0 (Nat.le_refl _) (by simp) rfl, (Below.refl _ _).alloc (Nat.le_refl _) _⟩
  case round =>
    obtain ⟨k, v, hk, rfl, rfl, rfl, hown, hb⟩ := hrel
    by_cases hlt : k < ss.length
    · obtain ⟨b, off, rfl, _, _, hc0, hc1, hc2⟩ := (HA.out.go hb).rd.at_ hlt
      have hsz := hb.size
      have b1 := milesL_bd (small_take Hs.out k)
      have b2 := Hs.out _ (secAt_mem hlt)
      have b3 : (ss.take k).length ≤ 8 := by simp; omega
      have b9 : (partL (ss.take k) f t).length ≤ 8 := by have := partL_length (ss.take k) f t; omega
      have Ht := Lib.hid (take_succ_at hlt)
      have Hown := Lib.hid hown
      have Hb := Lib.hid hb
      obtain ⟨s, hss⟩ : ∃ s, secAt ss k = s := ⟨_, rfl⟩
      rw [hss] at hc0 hc1 hc2 b2 Ht
      obtain ⟨m, hm⟩ : ∃ m, milesL (ss.take k) = m := ⟨_, rfl⟩
      have Hps := Lib.hid (partL_snoc f t (ss.take k) s)
      have Hms := Lib.hid (milesL_snoc (ss.take k) s)
      rw [hm] at b1 Hps Hms ⊢
      obtain ⟨b4, b5⟩ := b1
      obtain ⟨b6, b7, _⟩ := b2
      have b8 : m ≤ 400 := by omega
      have g1 : (k : Int) < (ss.length : Int) := by omega
      clear hss hm b5 b3 hown hb
      by_cases c3 : 0 < min t (m + s.m) - max f m
      · have Hp := Lib.hid (show pieceL f t m s = [⟨min t (m + s.m) - max f m, s.k, s.o⟩] by unfold pieceL; rw [if_pos c3])
        have HN := Lib.hid (fun (o2 : Obj) (w3 : World) (hg : ((wr.alloc (.cells #[.int .i64 s.m, .int .i64 s.k, .int .i64 s.o] 54)).alloc o2).grownBy w3 v.ownBlock) => (show Below w.heap.size w w3 ∧ w3.cell? ⟨wr.heap.size, 0, none⟩ = some (.int .i64 s.m) by
          refine ⟨((Hb.out.alloc hsz _).alloc (by simp; omega) o2).grown hg (by simp; omega) (fun r e => (Hown.out.lt r e).1), hg.cell ?_ (fun e => ?_)⟩
          · have h1 := cell_of_row (wr.alloc (.cells #[.int .i64 s.m, .int .i64 s.k, .int .i64 s.o] 54)) wr.heap.size 0 _ _ _ (heap_alloc_new wr _)
            rw [World.cell?_alloc_lt _ _ _ (by simp)]
            exact h1
          · have := (Hown.out.lt _ e.symm).2
            dsimp only at this
            omega))
        by_cases c1 : t < m + s.m <;> by_cases c2 : m < f
        all_goals
          have hown := Hown.out
          go_wp2_with (at_builtin; refine wpList_append_own _ rfl _ _ 45 rfl w.heap.size 54 i0 _ 3 24 Try.underlying45 hi hz0 hz1 hz2 rfl (by decide) v _ _ rfl ((hown.alloc _).alloc _) ⟨wr.heap.size + 1, 0, none⟩ 1 1 (secCell ⟨_, s.k, s.o⟩) rfl rfl (secCell_new1 wr _ ⟨_, s.k, s.o⟩ _) (secCell_one _) (by unfold maxLen; omega) (by omega) (by simp; omega) ?_; intro v' w3 hown3 hg3 _; have hn3 := (HN.out _ w3 hg3).2)
          have hb3 := (HN.out _ w3 hg3).1
          clear hn3 hg3
          go_roundw
          case rel =>
            refine ⟨k + 1, v', by omega, by go_num, by rw [Ht.out, Hms.out], rfl, ?_, hb3⟩
            rw [Ht.out, Hps.out, Hp.out, secCells_append, List.length_append]
            refine cast ?_ hown3
            congr 2
            rw [secCells_one]
            unfold secCell
            congr 2
            dsimp only
            omega
          case measure => simp [intOf]; omega
      · have Hp := Lib.hid (show pieceL f t m s = [] by unfold pieceL; rw [if_neg c3])
        have hcb := cell_of_row (wr.alloc (.cells #[.int .i64 s.m, .int .i64 s.k, .int .i64 s.o] 54)) wr.heap.size 0 _ _ _ (heap_alloc_new wr _)
        have Hcb := Lib.hid hcb
        clear hcb
        by_cases c1 : t < m + s.m <;> by_cases c2 : m < f
        all_goals
          go_wp2
          go_roundw
          case rel => exact ⟨k + 1, v, by omega, by go_num, by rw [Ht.out, Hms.out], rfl, by rw [Ht.out, Hps.out, Hp.out, List.append_nil]; exact Hown.out.alloc _, Hb.out.alloc hsz _⟩
          case measure => simp [intOf]; omega
    · obtain rfl : k = ss.length := by omega
      rw [List.take_length] at hown
      have Hown := Lib.hid hown
      have Hb := Lib.hid hb
      clear hown hb
      go_wp2
      go_ret
      exact RetC.mk (f := id) (by have := partL_length ss f t; omega) Hown.out Hb.out

end Go.Proofs.Ytndpdoiomoefpaa
