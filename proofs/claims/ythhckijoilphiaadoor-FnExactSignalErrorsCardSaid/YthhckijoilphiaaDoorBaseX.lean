/-
  Contracts of the laws' own small functions over lists of texts: eqStringS, markText, markStringS, heldStringS.
-/
import Derived.Test.YthhckijoilphiaaDoorMemX
import Derived.Test.YthhckijoilphiaaDoorBase0
import Derived.Test.YthhckijoilphiaaDoorCnv
import Derived.Laws.Concat
import Derived.Deep.RegionHeld3
namespace Go.Proofs.YthhckijoilphiaaDoor
open Go.RowKit

/-- the first k texts are equal -/
def eqToX (xs ys : List (List UInt8)) (k : Nat) : Prop := ∀ j, j < k → xs[j]?.getD [] = ys[j]?.getD []
theorem eqToX_zero (xs ys : List (List UInt8)) : eqToX xs ys 0 := fun j hj => absurd hj (by omega)
theorem eqToX_succ {xs ys : List (List UInt8)} {k : Nat} (h : eqToX xs ys k) (hk : xs[k]?.getD [] = ys[k]?.getD []) : eqToX xs ys (k + 1) := fun j hj => by
  rcases Nat.lt_or_ge j k with h1 | h1
  · exact h j h1
  · obtain rfl : j = k := by omega
    exact hk
theorem eq_of_toX {xs ys : List (List UInt8)} (hl : xs.length = ys.length) (h : eqToX xs ys xs.length) : xs = ys := by
  apply List.ext_getElem hl
  intro i h1 h2
  have := h i h1
  simpa [h1, h2] using this

set_option maxHeartbeats 1000000 in
theorem eqStringS_c (A B : Option Addr) (c d : Nat) (xs ys : List (List UInt8)) (w : World) (ha1 : ArgX w A c xs) (ha2 : ArgX w B d ys) :
    Calls Tryd.prog 44 #[.slice A xs.length c, .slice B ys.length d] w (RetQ (.bool (decide (xs = ys))) w) := by
  obtain ⟨hx, _, _, r1⟩ := ha1
  obtain ⟨hy, _, _, r2⟩ := ha2
  by_cases hl : xs.length = ys.length
  · have hl1 : ((xs.length : Int) != (ys.length : Int)) = false := by simp [hl]
    have HL := Lib.hid hl
    clear hl
    go_enter Tryd.func44, Tryd.ntmps44
    go_wp2
    go_loopw [5] (fun i wr => ∃ k n : Nat, k ≤ xs.length ∧ eqToX xs ys k ∧ i = .int .i64 k ∧ wr = w.drewN n) (fun i _ => xs.length - (intOf i).toNat)
    case atStart => exact ⟨0, 0, Nat.zero_le _, eqToX_zero _ _, rfl, rfl⟩
    case round =>
      obtain ⟨k, n, hk, ha, rfl, rfl⟩ := hrel
      have Ha := Lib.hid ha
      clear ha
      by_cases hlt : k < xs.length
      · have hlt2 : k < ys.length := by have := HL.out; omega
        obtain ⟨b, off, rfl, _, _, hc⟩ := r1.at_ hlt
        obtain ⟨b', off', rfl, _, _, hc'⟩ := r2.at_ hlt2
        have R1 := Lib.hid r1
        have R2 := Lib.hid r2
        clear r1 r2
        obtain ⟨p, hp⟩ : ∃ p, xs[k]?.getD [] = p := ⟨_, rfl⟩
        obtain ⟨q, hq⟩ : ∃ q, ys[k]?.getD [] = q := ⟨_, rfl⟩
        rw [hp] at hc
        rw [hq] at hc'
        have E0 := Lib.hid hp
        have E1 := Lib.hid hq
        clear hp hq
        have g1 : (k : Int) < (xs.length : Int) := by omega
        have g2 : (k : Int) < (ys.length : Int) := by omega
        by_cases hne : p = q
        · have hb : ((str p).toList == (str q).toList) = true := by rw [hne]; exact beq_self_eq_true _
          have hb2 : ((str p).toList != (str q).toList) = false := by rw [hne]; exact bne_self_eq_false _
          obtain ⟨X, hX⟩ : ∃ X, str p = X := ⟨_, rfl⟩
          obtain ⟨Y, hY⟩ : ∃ Y, str q = Y := ⟨_, rfl⟩
          rw [hX] at hc hb hb2
          rw [hY] at hc' hb hb2
          have Hne := Lib.hid hne
          clear hne hX hY
          go_wp2
          go_quiet (fail)
          go_wp2
          go_roundw
          case rel => exact ⟨k + 1, _, by omega, eqToX_succ Ha.out (by rw [E0.out, E1.out]; exact Hne.out), by go_num, by first | exact World.drewN_drewN _ _ _ | rfl⟩
          case measure => simp [intOf]; omega
        · have hn2 : (str p).toList ≠ (str q).toList := by rw [str_list, str_list]; exact hne
          have hb : ((str p).toList == (str q).toList) = false := beq_eq_false_iff_ne.2 hn2
          have hb2 : ((str p).toList != (str q).toList) = true := bne_iff_ne.2 hn2
          obtain ⟨X, hX⟩ : ∃ X, str p = X := ⟨_, rfl⟩
          obtain ⟨Y, hY⟩ : ∃ Y, str q = Y := ⟨_, rfl⟩
          rw [hX] at hc hb hb2
          rw [hY] at hc' hb hb2
          have Hne := Lib.hid hne
          clear hne hX hY hn2
          go_wp2
          go_quiet (fail)
          go_wp2
          go_ret
          refine ⟨?_, _, by first | exact World.drewN_drewN _ _ _ | rfl⟩
          have hn : xs ≠ ys := by
            intro e
            subst e
            exact Hne.out (E0.out.symm.trans E1.out)
          simp [hn]
      · obtain rfl : k = xs.length := by omega
        go_wp2
        go_ret
        refine ⟨?_, n, rfl⟩
        have := eq_of_toX HL.out Ha.out
        simp [this]
  · have hl1 : ((xs.length : Int) != (ys.length : Int)) = true := by simp; omega
    have hn : xs ≠ ys := fun e => hl (by rw [e])
    have HN := Lib.hid hn
    clear hl hn
    go_enter Tryd.func44, Tryd.ntmps44
    go_wp2
    go_ret
    exact ⟨by simp [HN.out], 0, rfl⟩

/-! ### marks -/

def dgs : Nat → Nat → List UInt8
  | 0, _ => []
  | f + 1, n => if n = 0 then [] else dgs f (n / 10) ++ [UInt8.ofNat (48 + n % 10)]
theorem dgs_len : ∀ f n, (dgs f n).length ≤ f
  | 0, _ => Nat.le_refl _
  | f + 1, n => by
    unfold dgs
    split
    · simp
    · have := dgs_len f (n / 10)
      simp; omega
theorem dgs_step {f n : Nat} (h : n ≠ 0) : dgs (f + 1) n = dgs f (n / 10) ++ [UInt8.ofNat (48 + n % 10)] := by
  conv => lhs; unfold dgs
  rw [if_neg h]
theorem dgs_zero (f : Nat) : dgs f 0 = [] := by cases f <;> simp [dgs]
/-- the mark of a number -/
def mkT (k : Int) : List UInt8 := if k ≤ 0 then [109, 48] else 109 :: dgs 20 k.toNat

set_option maxHeartbeats 1000000 in
theorem markText_b (k : Int) (w : World) (hk : k ≤ 1000000000000000) : Calls Tryd.prog 72 #[.int .i64 k] w (RetB (.string (str (mkT k))) w) := by
  by_cases h0 : k ≤ 0
  · have HV := Lib.hid (show mkT k = [109, 48] by unfold mkT; rw [if_pos h0])
    go_enter Tryd.func72, Tryd.ntmps72
    go_wp2
    go_ret
    exact ⟨by rw [HV.out]; rfl, Below.refl _ _⟩
  · obtain ⟨N, rfl⟩ := Int.eq_ofNat_of_zero_le (show 0 ≤ k by omega)
    have HV := Lib.hid (show mkT (N : Int) = 109 :: dgs 20 N by unfold mkT; rw [if_neg h0]; rfl)
    have hN : N ≤ 1000000000000000 := by omega
    have g0 : ¬ (N : Int) ≤ 0 := h0
    clear h0 hk
    go_enter Tryd.func72, Tryd.ntmps72
    go_wp2
    go_loopw [0, 3] (fun n o wr => ∃ (f m : Nat) (r : List UInt8), m < 10 ^ f ∧ m ≤ N ∧ n = .int .i64 m ∧ o = .string (str r) ∧ r.length + f ≤ 20 ∧ dgs f m ++ r = dgs 20 N ∧ Below w.heap.size w wr) (fun n _ _ => (intOf n).toNat)
    case atStart => exact ⟨20, N, [], by omega, Nat.le_refl _, rfl, rfl, by simp, by simp, Below.refl _ _⟩
    case round =>
      obtain ⟨f, m, r, hm, hmN, rfl, rfl, hrf, he, hbk⟩ := hrel
      have He := Lib.hid he
      have Hbk := Lib.hid hbk
      have hbs := hbk.size
      clear he hbk
      by_cases hlt : 0 < m
      · cases f with
        | zero => simp at hm; omega
        | succ f =>
        have hm2 : m / 10 < 10 ^ f := by rw [Nat.pow_succ] at hm; omega
        have hst := dgs_step (f := f) (n := m) (by omega)
        have g1 : (0 : Int) < (m : Int) := by omega
        have g2 : (m : Int) ≤ 1000000000000000 := by omega
        have u1 : IntKind.u8.wrap (48 + (m : Int) % 10) = 48 + (m : Int) % 10 := IntWalk.u8_in _ (by omega)
        have hcv := conv_new wr (48 + (m : Int) % 10) (by omega) (by omega)
        have e1 : (48 + (m : Int) % 10).toNat = 48 + m % 10 := by omega
        rw [e1] at hcv
        obtain ⟨l, hl⟩ : ∃ l, str [UInt8.ofNat (48 + m % 10)] = l := ⟨_, rfl⟩
        rw [hl] at hcv
        have zl : l.size = 1 := by rw [← hl, str_size]; rfl
        obtain ⟨R, hR⟩ : ∃ R, str r = R := ⟨_, rfl⟩
        have zR : R.size ≤ 20 := by rw [← hR, str_size]; omega
        rw [hR]
        have z1 : (9223372036854775807 < l.size + R.size) = False := by rw [eq_iff_iff, iff_false]; omega
        have Hst := Lib.hid hst
        have Hm2 := Lib.hid hm2
        have Hl := Lib.hid hl
        have HR := Lib.hid hR
        have Hrf := Lib.hid hrf
        clear hst hm2 hm hl hR e1 hrf
        go_wp2
        go_roundw
        case rel => exact ⟨f, m / 10, UInt8.ofNat (48 + m % 10) :: r, Hm2.out, by omega, by go_num, by rw [← Hl.out, ← HR.out, str_append]; rfl, by have := Hrf.out; simp; omega, by rw [← He.out, Hst.out]; simp, Hbk.out.alloc hbs _⟩
        case measure => simp [intOf]; omega
      · obtain rfl : m = 0 := by omega
        have hz := He.out
        rw [dgs_zero, List.nil_append] at hz
        have Hz := Lib.hid hz
        obtain ⟨R, hR⟩ : ∃ R, str r = R := ⟨_, rfl⟩
        have zR : R.size ≤ 20 := by rw [← hR, str_size]; omega
        rw [hR]
        have z1 : (9223372036854775807 < 1 + R.size) = False := by rw [eq_iff_iff, iff_false]; omega
        have HR := Lib.hid hR
        clear hz hR
        go_wp2
        go_ret
        exact ⟨by rw [HV.out, ← Hz.out, ← HR.out]; show Ending.returned (.string (⟨#[109]⟩ ++ str r)) = _; rw [show (⟨#[109]⟩ ++ str r : ByteArray) = str (109 :: r) from str_append [109] r], Hbk.out⟩

def marksX (k : Int) (n : Nat) : List (List UInt8) := (List.range n).map fun i : Nat => mkT (k + (i : Int))
def markToX (zs : List (List UInt8)) (k : Int) (i : Nat) : List (List UInt8) := marksX k i ++ zs.drop i
theorem marksX_length (k : Int) (n : Nat) : (marksX k n).length = n := by simp [marksX]
theorem marksX_at (k : Int) {n i : Nat} (h : i < n) : (marksX k n)[i]? = some (mkT (k + (i : Int))) := by simp [marksX, h]
theorem markToX_zero (zs : List (List UInt8)) (k : Int) : markToX zs k 0 = zs := by simp [markToX, marksX]
theorem markToX_all (zs : List (List UInt8)) (k : Int) : markToX zs k zs.length = marksX k zs.length := by simp [markToX]
theorem markToX_length (zs : List (List UInt8)) (k : Int) {i : Nat} (h : i ≤ zs.length) : (markToX zs k i).length = zs.length := by simp [markToX, marksX]; omega
theorem markToX_set (zs : List (List UInt8)) (k : Int) {i : Nat} (h : i < zs.length) : (markToX zs k i).set i (mkT (k + (i : Int))) = markToX zs k (i + 1) := by
  apply List.ext_getElem
  · simp [markToX, marksX]; omega
  · intro j h1 h2
    simp only [markToX, marksX, List.getElem_set, List.getElem_append, List.length_map, List.length_range, List.getElem_map, List.getElem_range, List.getElem_drop]
    have hj : j < zs.length := by simp [markToX, marksX] at h1; omega
    by_cases e : i = j
    · subst e; simp
    · by_cases e2 : j < i
      · simp only [if_neg e]; rw [dif_pos e2, dif_pos (by omega)]
      · simp only [if_neg e]
        rw [dif_neg e2, dif_neg (by omega)]
        congr 1
        omega

/-- WHAT markStringS LEAVES: it has written into the slice's own block alone. -/
def RetMarkX (t : TypeId) (lo hi : Nat) (sv : Value) (k : Int) (n : Nat) (w : World) (e : Ending) (w' : World) : Prop :=
  e = .returned (.int .i64 (k + (n : Int))) ∧ w.grownBy w' sv.ownBlock ∧ OwX t lo hi w' sv (marksX k n)

set_option maxHeartbeats 1000000 in
theorem markStringS_c (A : Option Addr) (c : Nat) (zs : List (List UInt8)) (k : Int) (lo hi : Nat) (w : World) (hl : zs.length ≤ 2097152) (hk0 : 0 ≤ k) (hk1 : k ≤ 1099511627776) (ho : OwX 9 lo hi w (.slice A zs.length c) zs) :
    Calls Tryd.prog 45 #[.slice A zs.length c, .int .i64 k] w (RetMarkX 9 lo hi (.slice A zs.length c) k zs.length w) := by
  have Ho := Lib.hid ho
  have hlt2 := ho.2
  have Hlt2 := Lib.hid hlt2
  have hown := ho.1
  clear ho hlt2
  go_enter Tryd.func45, Tryd.ntmps45
  go_wp2
  go_loopw [1, 5] (fun q i wr => ∃ j : Nat, j ≤ zs.length ∧ i = .int .i64 j ∧ q = .int .i64 (k + (j : Int)) ∧ wr.ownsRow lo 9 1 (.slice A zs.length c) zs.length (txCells (markToX zs k j)) ∧ w.grownBy wr (Value.slice A zs.length c).ownBlock) (fun _ i _ => zs.length - (intOf i).toNat)
  case atStart => exact ⟨0, Nat.zero_le _, rfl, by simp, by rw [markToX_zero]; exact hown, World.grownBy.refl w _⟩
  case round =>
    obtain ⟨j, hj, rfl, rfl, hok, hgk⟩ := hrel
    by_cases hlt : j < zs.length
    · obtain ⟨g, cap, hv⟩ : ∃ g cap, Value.slice A zs.length c = .slice (some ⟨g, 0, none⟩) zs.length cap := by
        rcases hown.2 with ⟨h1, h2⟩ | ⟨g, cap, cur, h1, _⟩
        · omega
        · exact ⟨g, cap, h1⟩
      have hA : A = some ⟨g, 0, none⟩ := by injection hv
      have Hown := Lib.hid hown
      clear hown hv
      subst hA
      have Hok := Lib.hid hok
      have Hgk := Lib.hid hgk
      have HM := Lib.hid (fun w => markText_b (k + (j : Int)) w (by omega))
      clear hok hgk
      go_wp2_with fail
      refine (HM.out _).mono ?_
      rintro e w2 ⟨rfl, hb2⟩
      have hok := own_below Hok.out hb2
      have hgk := grown_then Hgk.out (grown_of_below hb2 _)
      have hst := hok.stored j (.string (str (mkT (k + (j : Int)))))
      rw [show (txCells (markToX zs k j)).set j (.string (str (mkT (k + (j : Int))))) = txCells (markToX zs k (j + 1)) by rw [← markToX_set zs k hlt]; simp [txCells]] at hst
      have hck := hok.cellAt j (by omega)
      have hfk := hok.frozenAt j
      rw [txCells_at, List.getElem?_eq_getElem (by rw [markToX_length zs k hj]; exact hlt)] at hck
      simp only [Option.map_some] at hck
      have Hst := Lib.hid hst
      have Hgk2 := Lib.hid hgk
      clear hst hok hgk hb2
      go_wp2
      go_roundw
      case rel => exact ⟨j + 1, by omega, by go_num, by simp; omega, Hst.out.1, grown_then Hgk2.out Hst.out.2⟩
      case measure => simp [intOf]; omega
    · obtain rfl : j = zs.length := by omega
      rw [markToX_all] at hok
      go_wp2
      go_ret
      exact ⟨rfl, hgk, ⟨by rw [marksX_length]; exact hok, Hlt2.out⟩⟩

theorem owX_marks {t : TypeId} {lo hi : Nat} {w : World} {A : Option Addr} {c n : Nat} {k : Int} (h : OwX t lo hi w (.slice A n c) (marksX k n)) : OwX t lo hi w (.slice A (marksX k n).length c) (marksX k n) := by
  rw [marksX_length]
  exact h

set_option maxHeartbeats 1000000 in
/-- the slice holds the marks: heldStringS says so -/
theorem heldStringS_c (A : Option Addr) (c n : Nat) (k : Int) (w : World) (hk0 : 0 ≤ k) (hk1 : k ≤ 1099511627776) (ha : ArgX w A c (marksX k n)) :
    Calls Tryd.prog 46 #[.slice A n c, .int .i64 k] w (RetB (.int .i64 (k + (n : Int))) w) := by
  have hl : n ≤ 2097152 := by simpa [marksX_length] using ha.len
  have hr := ha.rd
  have hr' : ∀ wr, Below w.heap.size w wr → ∀ j, j < n → ∃ b off, A = some ⟨b, off, none⟩ ∧ b < w.heap.size ∧ wr.cell? ⟨b, off + j, none⟩ = some (.string (str (mkT (k + (j : Int))))) := fun wr hb j hj => by
    obtain ⟨b, off, h1, _, h2, h3⟩ := (hr.below hb).at_ (k := j) (by rw [marksX_length]; exact hj)
    rw [marksX_at k hj] at h3
    exact ⟨b, off, h1, h2, h3⟩
  clear hr
  have Hr := Lib.hid hr'
  clear hr'
  go_enter Tryd.func46, Tryd.ntmps46
  go_wp2
  go_loopw [1, 5] (fun q i wr => ∃ j : Nat, j ≤ n ∧ i = .int .i64 j ∧ q = .int .i64 (k + (j : Int)) ∧ Below w.heap.size w wr) (fun _ i _ => n - (intOf i).toNat)
  case atStart => exact ⟨0, Nat.zero_le _, rfl, by simp, Below.refl _ _⟩
  case round =>
    obtain ⟨j, hj, rfl, rfl, hbk⟩ := hrel
    have Hbk := Lib.hid hbk
    have hbs := hbk.size
    by_cases hlt : j < n
    · obtain ⟨b, off, rfl, hbl, hc⟩ := Hr.out wr hbk j hlt
      have HM := Lib.hid (fun w => markText_b (k + (j : Int)) w (by omega))
      obtain ⟨M, hM⟩ : ∃ M, str (mkT (k + (j : Int))) = M := ⟨_, rfl⟩
      simp only [hM] at hc HM
      have hb : (M.toList == M.toList) = true := beq_self_eq_true _
      have hcd : wr.drew.cell? ⟨b, off + j, none⟩ = some (.string M) := hc
      have Hk := Lib.hid (fun (w5 : World) (h5 : Below wr.heap.size wr w5) => show w5.cell? ⟨b, off + j, none⟩ = some (.string M) ∧ Hid (Below w.heap.size w w5) from ⟨(h5.cell (p := ⟨b, off + j, none⟩) (Nat.lt_of_lt_of_le hbl hbs)).trans hc, Lib.hid (below_step Hbk.out h5)⟩)
      have u1 : IntKind.i64.wrap (k + (j : Int)) = k + (j : Int) := IntWalk.i64_in _ (by omega)
      clear hM hbk
      go_wp2
      go_region_held3 (fun w' => w'.cell? ⟨b, off + j, none⟩ = some (.string M) ∧ Hid (Below w.heap.size w w')) (first | exact ⟨hcd, Lib.hid (Hbk.out.drew)⟩ | exact pk5 | go_keep)
        (first | (go_at_call 72; refine (HM.out _).mono ?_; rintro e w5 ⟨rfl, hb5⟩; have pk5 := Hk.out w5 ((Below.refl _ _).drew.trans hb5); clear hb5))
      all_goals
        go_wp2
        go_roundw
        case rel => exact ⟨j + 1, by omega, by go_num, by simp; omega, (And.right (by assumption : _ ∧ Hid (Below w.heap.size w w5))).out⟩
        case measure => simp [intOf]; omega
    · obtain rfl : j = n := by omega
      go_wp2
      go_ret
      exact ⟨rfl, Hbk.out⟩

end Go.Proofs.YthhckijoilphiaaDoor
