/-
  eachRow of the program: it calls a function value with each row of indexes, in order; all rows share one block.
-/
import Derived.Test.YtmbdggakahbciaaKeep
import Derived.Test.YtmbdggakahbciaaSpV
import Derived.Deep.RegionWith
import Derived.Shelf.Abstract
import Derived.RangeFuncBox
import Derived.OwnWalk
namespace Go.Proofs.Ytmbdggakahbciaa
open Go.RowKit

theorem intInfo : (Try.prog.info? 3).map (fun i => (i.zero, i.size, i.bytes)) = some (some (.int .i64 0), 1, 8) := by kernel_rfl

/-- the three boxes of one call -/
structure Bx (W : World) (b : Nat) (lv fv tv : Value) : Prop where
  l : Boxed W b 23 lv
  f : Boxed W (b + 1) 67 fv
  t : Boxed W (b + 2) 70 tv
theorem Bx.keep {p : Nat → Prop} {W W' : World} {b : Nat} {lv fv tv : Value} (h : Bx W b lv fv tv) (hk : KeepBut p W W') (hp : ∀ x, b ≤ x → x < b + 3 → ¬ p x) : Bx W' b lv fv tv :=
  ⟨(hk.block _ h.l.lt (hp _ (by omega) (by omega))).trans h.l, (hk.block _ h.f.lt (hp _ (by omega) (by omega))).trans h.f, (hk.block _ h.t.lt (hp _ (by omega) (by omega))).trans h.t⟩
theorem Bx.below {W W' : World} {b B : Nat} {lv fv tv : Value} (h : Bx W b lv fv tv) (hk : Below B W W') (hB : b + 3 ≤ B) : Bx W' b lv fv tv :=
  ⟨(hk.block _ (by omega)).trans h.l, (hk.block _ (by omega)).trans h.f, (hk.block _ (by omega)).trans h.t⟩
theorem Bx.new (w : World) (lv fv tv : Value) : Bx (((w.alloc (.cells #[lv] 23)).alloc (.cells #[fv] 67)).alloc (.cells #[tv] 70)) w.heap.size lv fv tv := by
  refine ⟨((Boxed.new w _ _).alloc _).alloc _, ?_, ?_⟩
  · have h := (Boxed.new (w.alloc (.cells #[lv] 23)) 67 fv).alloc (.cells #[tv] 70)
    rwa [World.size_alloc] at h
  · have h := Boxed.new ((w.alloc (.cells #[lv] 23)).alloc (.cells #[fv] 67)) 70 tv
    rwa [World.size_alloc, World.size_alloc] at h

/-- entries are indexes -/
def idx (n : Nat) (r : List Int) : Prop := ∀ i ∈ r, 0 ≤ i ∧ i < (n : Int)
theorem idx_snoc {n : Nat} {r : List Int} {i : Nat} (h : idx n r) (hi : i < n) : idx n (r ++ [(i : Int)]) := fun j hj => by
  rcases List.mem_append.1 hj with h1 | h1
  · exact h j h1
  · simp at h1; omega
theorem idx_nil (n : Nat) : idx n [] := fun j hj => by simp at hj

/-- WHAT IS ASKED OF THE TEST: at rows shorter than k; all rows lie in the block rb -/
def Fits (f : List Int → Int → Bool) (n k rb : Nat) (I : List (List Int) → World → Prop) (gf : Nat) (capsf : Array Value) : Prop :=
  ∀ d r W (i : Nat), r.length < k → idx n r → i < n → I d W → RowAt 3 rb rb W r →
    Calls Try.prog gf (#[.slice (some ⟨rb, 0, none⟩) r.length 10, .int .i64 i] ++ capsf) W (RetB (.bool (f r i)) W)
/-- WHAT IS ASKED OF THE FUNCTION: at rows of k -/
def Tells (n k rb : Nat) (P : Nat → Prop) (I : List (List Int) → World → Prop) (gt : Nat) (capst : Array Value) : Prop :=
  ∀ d r W, r.length = k → idx n r → I d W → RowAt 3 rb rb W r →
    Calls Try.prog gt (#[.slice (some ⟨rb, 0, none⟩) r.length 10] ++ capst) W fun e W' => (∃ v, e = .returned v) ∧ I (d ++ [r]) W' ∧ RowAt 3 rb rb W' r ∧ KeepBut (fun x => P x ∨ x = rb) W W'
/-- what stays if only the rows' block turns -/
def Stays (rb : Nat) (I : List (List Int) → World → Prop) : Prop := ∀ d W W', I d W → KeepBut (fun x => x = rb) W W' → I d W'
theorem Tells.and {n k rb : Nat} {P : Nat → Prop} {I : List (List Int) → World → Prop} {gt : Nat} {capst : Array Value} (h : Tells n k rb P I gt capst) (J : World → Prop) (hJ : ∀ W W', J W → KeepBut (fun x => P x ∨ x = rb) W W' → J W') : Tells n k rb P (fun d W => I d W ∧ J W) gt capst := by
  intro d r W h1 h2 h3 h4
  refine (h d r W h1 h2 h3.1 h4).mono ?_
  rintro e W' ⟨g1, g2, g3, g4⟩
  exact ⟨g1, ⟨g2, hJ _ _ h3.2 g4⟩, g3, g4⟩

/-- room behind the row -/
theorem RowAt.room {t : TypeId} {B rb : Nat} {W : World} {r : List Int} (h : RowAt t B rb W r) (hl : r.length < 10) : (∃ v, W.cell? ⟨rb, r.length, none⟩ = some v) ∧ W.frozen? ⟨rb, r.length, none⟩ = false := by
  rcases h.2 with ⟨h3, _⟩ | ⟨g, cap, cur, e, hg, hgg, hn, hm, hs, ht⟩
  · cases h3
  · injection e with e1 e2 e3
    injection e1 with e1
    injection e1 with e1
    subst e1; subst e3
    refine ⟨⟨cur[r.length]'(by omega), ?_⟩, ?_⟩
    · rw [cell_of_row W rb r.length cur _ _ hgg]; simp
    · simp [World.frozen?, hgg]
theorem RowAt.push {t : TypeId} {B rb : Nat} {W : World} {r : List Int} (i : Int) (h : RowAt t B rb W r) (hl : r.length < 10) : RowAt t B rb (W.setCell ⟨rb, r.length, none⟩ (.int .i64 i)) (r ++ [i]) ∧ W.grownBy (W.setCell ⟨rb, r.length, none⟩ (.int .i64 i)) (some rb) := by
  obtain ⟨⟨v, hv⟩, _⟩ := h.room hl
  rcases h.2 with ⟨h3, _⟩ | ⟨g, cap, cur, e, hg, hgg, hn, hm, hs, ht⟩
  · cases h3
  · injection e with e1 e2 e3
    injection e1 with e1
    injection e1 with e1
    subst e1; subst e3
    have hb : (W.setCell ⟨rb, r.length, none⟩ (.int .i64 i)).heap[rb]? = some (.cells (cur.setIfInBounds r.length (.int .i64 i)) t (0, 0)) := by
      obtain ⟨hlt, hk⟩ := Array.getElem?_eq_some_iff.1 hgg
      show (W.heap.modify rb _)[rb]? = _
      rw [Array.getElem?_eq_getElem (by rw [Array.size_modify]; exact hlt), Array.getElem_modify_self, hk]
      rfl
    refine ⟨⟨by simp, .inr ⟨rb, 10, cur.setIfInBounds r.length (.int .i64 i), rfl, hg, hb, by simp; omega, hm, by simpa using hs, ?_⟩⟩, ?_⟩
    · rw [Array.toList_setIfInBounds, List.length_append, List.map_append, ← ht, Nat.mul_one, Nat.mul_one]
      have hlt : r.length < cur.toList.length := by simp; omega
      rw [show [i].length = 1 from rfl, List.take_succ_eq_append_getElem (by simpa using hlt), List.take_set_of_le (by omega)]
      simp
    · exact ⟨rfl, rfl, rfl, by show W.heap.size ≤ (W.heap.modify rb _).size; simp, fun k _ hk => Below.heap_setCell _ _ _ k (fun e => hk (by rw [e]))⟩

set_option maxRecDepth 100000 in
set_option maxHeartbeats 2000000 in
theorem tell1_c (f : List Int → Int → Bool) (L : List Spr) (A : Option Addr) (c k : Nat) (P : Nat → Prop) (I : List (List Int) → World → Prop) (gf gt : Nat) (capsf capst : Array Value) (rb b : Nat)
    (henf : ∀ (args : Array Value) (w : World), (callFunc gf args).run Try.prog w = .ok (.enter gf args) w) (hent : ∀ (args : Array Value) (w : World), (callFunc gt args).run Try.prog w = .ok (.enter gt args) w)
    (hk : k + 1 ≤ 10) (hL : L.length ≤ 10) (hst : Stays rb I) (hP : ∀ x, P x → x < b) (hB : b + 3 ≤ rb)
    (hfits : Fits f L.length (k + 1) rb I gf capsf) (htell : Tells L.length (k + 1) rb P I gt capst)
    (d' : List (List Int)) (r : List Int) (W : World) (hr : r.length = k) (hx : idx L.length r) (hI : I (d'.flatMap (ext f L.length)) W)
    (hbx : Bx W b (.slice A L.length c) (.func (.func gf) #[] capsf) (.func (.func gt) #[] capst)) (hrow : RowAt 3 rb rb W r) :
    Calls Try.prog 87 #[.slice (some ⟨rb, 0, none⟩) r.length 10, .pointer (some ⟨b, 0, none⟩), .pointer (some ⟨b + 1, 0, none⟩), .pointer (some ⟨b + 2, 0, none⟩)] W
      fun e W' => (∃ v, e = .returned v) ∧ (I ((d' ++ [r]).flatMap (ext f L.length)) W' ∧ Bx W' b (.slice A L.length c) (.func (.func gf) #[] capsf) (.func (.func gt) #[] capst)) ∧ RowAt 3 rb rb W' r ∧ KeepBut (fun x => P x ∨ x = rb) W W' := by
  subst hr
  obtain ⟨i0, hi, hz0, hz1, hz2⟩ := info_parts intInfo
  have hrb := hrow.lt
  have hPb : ∀ x, b ≤ x → x < b + 3 → ¬ (P x ∨ x = rb) := fun x h1 h2 h3 => by
    rcases h3 with h3 | h3
    · have := hP x h3; omega
    · omega
  have c0 := hbx.l.cell
  have Hst := Lib.hid hst
  have HP := Lib.hid hP
  have HF := Lib.hid hfits
  have HT := Lib.hid htell
  have HPb := Lib.hid hPb
  have Hx := Lib.hid hx
  have HI := Lib.hid hI
  have Hbx := Lib.hid hbx
  have Hrow := Lib.hid hrow
  clear hst hP hfits htell hPb hx hI hbx hrow
  go_enter Try.func87, Try.ntmps87
  go_wp2
  go_loopw [8] (fun i wr => ∃ j : Nat, j ≤ L.length ∧ i = .int .i64 j ∧ I (d'.flatMap (ext f L.length) ++ ext f j r) wr ∧ Bx wr b (.slice A L.length c) (.func (.func gf) #[] capsf) (.func (.func gt) #[] capst) ∧ RowAt 3 rb rb wr r ∧ KeepBut (fun x => P x ∨ x = rb) W wr) (fun i _ => L.length - (intOf i).toNat)
  case atStart => exact ⟨0, Nat.zero_le _, rfl, by rw [ext_zero, List.append_nil]; exact HI.out, Hbx.out, Hrow.out, KeepBut.refl _ _⟩
  case round =>
    obtain ⟨j, hj, rfl, hi1, hbx, hrow, hkb⟩ := hrel
    have Hi1 := Lib.hid hi1
    have Hbx1 := Lib.hid hbx
    have Hrow1 := Lib.hid hrow
    have Hkb := Lib.hid hkb
    have c1 := hbx.f.cell
    have s1 := hrow.lt
    clear hi1 hrow hkb
    by_cases hlt : j < L.length
    · have g1 : (j : Int) < (L.length : Int) := by omega
      have hf1 := HF.out _ r wr j (by omega) Hx.out hlt Hi1.out Hrow1.out
      have HF1 := Lib.hid hf1
      clear hf1 hbx
      have he := ext_succ f j r
      cases hfr : f r (j : Int)
      · rw [hfr, if_neg (by simp), List.append_nil] at he
        have He := Lib.hid he
        rw [hfr] at HF1
        clear he hfr
        go_wp2_with fail
        refine HF1.out.mono ?_
        rintro e w1 ⟨rfl, hb1⟩
        have Hb1 := Lib.hid hb1
        clear hb1
        go_wp2
        go_roundw
        case rel => exact ⟨j + 1, by omega, by go_num, by rw [He.out]; exact Hst.out _ _ _ Hi1.out (KeepBut.of_below Hb1.out), Hbx1.out.below Hb1.out (by omega), Hrow1.out.below Hb1.out, Hkb.out.trans (KeepBut.of_below Hb1.out)⟩
        case measure => simp [intOf]; omega
      · rw [hfr, if_pos rfl] at he
        have He := Lib.hid he
        rw [hfr] at HF1
        clear he hfr
        go_wp2_with fail
        refine HF1.out.mono ?_
        rintro e w1 ⟨rfl, hb1⟩
        have sz1 := hb1.size
        have hi2 := Hst.out _ _ _ Hi1.out (KeepBut.of_below hb1)
        have hbx2 := Hbx1.out.below hb1 (by omega)
        have hrow2 := Hrow1.out.below hb1
        have c2 := hbx2.t.cell
        have hown := hrow2.alloc (.cells #[.int .i64 j] 3)
        have hnews : ∀ q u, ([.int .i64 (j : Int)] : List Value)[q]? = some u → (w1.alloc (.cells #[.int .i64 j] 3)).cell? ((⟨w1.heap.size, 0, none⟩ : Addr).add q) = some u := by
          intro q u hu
          have h9 := cell_of_row (w1.alloc (.cells #[.int .i64 j] 3)) w1.heap.size q _ _ _ (heap_alloc_new w1 _)
          rw [show (⟨w1.heap.size, 0, none⟩ : Addr).add q = ⟨w1.heap.size, q, none⟩ by unfold Addr.add; split <;> simp_all, h9, ← hu]
          simp
        have htl := fun (W9 : World) (h8 : I (d'.flatMap (ext f L.length) ++ ext f j r) W9) (h9 : RowAt 3 rb rb W9 (r ++ [(j : Int)])) => HT.out _ (r ++ [(j : Int)]) W9 (by simp) (idx_snoc Hx.out hlt) h8 h9
        rw [List.length_append, show [(j : Int)].length = 1 from rfl] at htl
        have hrm := RowAt.room (hrow2.alloc (.cells #[.int .i64 j] 3)) (by omega)
        obtain ⟨⟨v0, hc0⟩, hf0⟩ := hrm
        obtain ⟨hrow3, hg3⟩ := RowAt.push (j : Int) (hrow2.alloc (.cells #[.int .i64 j] 3)) (by omega)
        have hkr : KeepBut (fun x => P x ∨ x = rb) wr (((w1.alloc (.cells #[.int .i64 j] 3)).setCell ⟨rb, r.length, none⟩ (.int .i64 j)).drew) := 
          ((KeepBut.of_below (hb1.alloc hb1.size _)).trans (KeepBut.of_grown hg3 (.inr rfl))).trans (KeepBut.of_below (below_drewN (Below.refl _ _) 1))
        have hbx3 := Hbx1.out.keep hkr HPb.out
        have hc3 : ((w1.alloc (.cells #[.int .i64 j] 3)).setCell ⟨rb, r.length, none⟩ (.int .i64 j)).cell? ⟨b + 2, 0, none⟩ = some (.func (.func gt) #[] capst) := hbx3.t.cell
        have c2a := (hbx2.t.alloc (.cells #[.int .i64 j] 3)).cell
        have Hrow3 := Lib.hid (show RowAt 3 rb rb (((w1.alloc (.cells #[.int .i64 j] 3)).setCell ⟨rb, r.length, none⟩ (.int .i64 j)).drew) (r ++ [(j : Int)]) from RowAt.more hrow3 (by omega))
        have hkr0 : KeepBut (fun x => x = rb) wr (((w1.alloc (.cells #[.int .i64 j] 3)).setCell ⟨rb, r.length, none⟩ (.int .i64 j)).drew) := 
          ((KeepBut.of_below (p := fun x => x = rb) (hb1.alloc hb1.size _)).trans (KeepBut.of_grown (p := fun x => x = rb) hg3 rfl)).trans (KeepBut.of_below (p := fun x => x = rb) (below_drewN (Below.refl _ _) 1))
        have Hi3 := Lib.hid (Hst.out _ _ _ Hi1.out hkr0)
        have Hbx3 := Lib.hid hbx3
        have Hkr := Lib.hid hkr
        have HTl := Lib.hid htl
        have Hi2 := Lib.hid hi2
        have Hbx2 := Lib.hid hbx2
        have Hown := Lib.hid hown
        have Hnews := Lib.hid hnews
        have Hb1 := Lib.hid hb1
        clear htl hi2 hbx2 hown hnews hb1 hrow2 hrow3 hg3 hkr hbx3 hkr0
        go_wp2
        go_region_with (first
          | (refine (HTl.out _ Hi3.out Hrow3.out).mono ?_; rintro e w4 ⟨⟨v4, rfl⟩, hi4, hr4, hk4⟩; have H4 := Lib.hid (And.intro hi4 (And.intro hr4 hk4)); clear hi4 hr4 hk4)
          | fail)
        all_goals
          go_wp2
          go_roundw
          case rel => exact ⟨j + 1, by omega, by go_num, by rw [He.out, ← List.append_assoc]; exact H4.out.1, Hbx3.out.keep H4.out.2.2 HPb.out, H4.out.2.1.pre, (Hkb.out.trans Hkr.out).trans H4.out.2.2⟩
          case measure => simp [intOf]; omega
    · obtain rfl : j = L.length := by omega
      have Hi2 := Lib.hid (show I ((d' ++ [r]).flatMap (ext f L.length)) wr by rw [List.flatMap_append, List.flatMap_cons, List.flatMap_nil, List.append_nil]; exact Hi1.out)
      clear hbx
      go_wp2
      go_end0
      exact ⟨⟨_, rfl⟩, ⟨Hi2.out, Hbx1.out⟩, Hrow1.out, Hkb.out⟩

set_option maxRecDepth 100000 in
set_option maxHeartbeats 2000000 in
theorem eachRow_c (f : List Int → Int → Bool) (L : List Spr) (A : Option Addr) (c : Nat) (gf : Nat) (capsf : Array Value) (hL : L.length ≤ 10)
    (henf : ∀ (args : Array Value) (w : World), (callFunc gf args).run Try.prog w = .ok (.enter gf args) w) :
    ∀ (k : Nat) (P : Nat → Prop) (I : List (List Int) → World → Prop) (gt : Nat) (capst : Array Value) (w : World), k ≤ 10 →
    (∀ (args : Array Value) (w : World), (callFunc gt args).run Try.prog w = .ok (.enter gt args) w) →
    Stays (w.heap.size + 3 * (k + 1)) I → (∀ x, P x → x < w.heap.size) →
    Fits f L.length k (w.heap.size + 3 * (k + 1)) I gf capsf → Tells L.length k (w.heap.size + 3 * (k + 1)) P I gt capst → I [] w →
    Calls Try.prog 70 #[.slice A L.length c, .int .i64 (k : Int), .func (.func gf) #[] capsf, .func (.func gt) #[] capst] w
      fun e w' => (∃ v, e = .returned v) ∧ I (rows f L.length k) w' ∧ KeepBut P w w'
  | 0, P, I, gt, capst, w, _, hent, hst, hP, _, htell, h0 => by
    obtain ⟨i0, hi, hz0, hz1, hz2⟩ := info_parts intInfo
    have hb3 : Below w.heap.size w (((w.alloc (.cells #[.slice A L.length c] 23)).alloc (.cells #[.func (.func gf) #[] capsf] 67)).alloc (.cells #[.func (.func gt) #[] capst] 70)) :=
      (((Below.refl _ _).alloc (Nat.le_refl _) _).alloc (by simp) _).alloc (by simp; omega) _
    obtain ⟨w3, hw3⟩ : ∃ w3, w3 = (((w.alloc (.cells #[.slice A L.length c] 23)).alloc (.cells #[.func (.func gf) #[] capsf] 67)).alloc (.cells #[.func (.func gt) #[] capst] 70)) := ⟨_, rfl⟩
    rw [← hw3] at hb3
    have hbx : Bx w3 w.heap.size (.slice A L.length c) (.func (.func gf) #[] capsf) (.func (.func gt) #[] capst) := by rw [hw3]; exact Bx.new w _ _ _
    have hsz : w3.heap.size = w.heap.size + 3 := by rw [hw3]; simp
    obtain ⟨w5, hrun, hown, hg5⟩ := run_make_own (P := Try.prog) w3.drew w.heap.size 36 3 i0 (.int .i64 0) 1 Try.underlying36 hi hz0 hz1 .i64 .i64 10 (by omega) (by unfold maxLen; omega) (by show w.heap.size ≤ w3.heap.size; omega)
    have hz3 : w3.drew.heap.size = w.heap.size + 1 + 1 + 1 := hsz
    rw [hz3] at hrun hown
    have hb5 : Below w3.heap.size w3 w5 := (below_drewN (Below.refl w3.heap.size w3) 1).grown hg5 (by show w3.heap.size ≤ w3.heap.size; omega) (by simp)
    have c2 := hbx.t.cell
    have c5 := (hbx.below hb5 (by omega)).t.cell
    have hbw5 := hb3.trans (hb5.mono (by omega))
    have hown' : RowAt 3 (w.heap.size + 1 + 1 + 1) (w.heap.size + 1 + 1 + 1) w5 [] := RowAt.from_ (B := w.heap.size) hown (Nat.le_refl _)
    have ht := htell [] [] w5 rfl (idx_nil _) (hst _ _ _ h0 (KeepBut.of_below hbw5)) hown'
    have HT := Lib.hid (show Calls Try.prog gt (#[.slice (some ⟨w.heap.size + 1 + 1 + 1, 0, none⟩) 0 10] ++ capst) w5 fun e W' => (∃ v, e = .returned v) ∧ I ([] ++ [[]]) W' ∧ RowAt 3 (w.heap.size + 1 + 1 + 1) (w.heap.size + 1 + 1 + 1) W' [] ∧ KeepBut (fun x => P x ∨ x = w.heap.size + 1 + 1 + 1) w5 W' from ht)
    have Hb5 := Lib.hid hbw5
    have Hg5 := Lib.hid hg5
    replace hrun : (Instr.makeSlice 36 (.int .i64 0) (.int .i64 10)).run Try.prog w3.drew = .ok (.slice (some ⟨w.heap.size + 1 + 1 + 1, 0, none⟩) 0 10) w5 := hrun
    rw [hw3] at hrun c2
    have c2b : w5.cell? ⟨w.heap.size + 1 + 1, 0, none⟩ = some (.func (.func gt) #[] capst) := c5
    clear hst hP htell hb3 hbx h0 ht hown hown' c5 hbw5 hb5 hg5 hz3
    go_enter Try.func70, Try.ntmps70
    go_wp2
    go_region_with (first
      | (refine HT.out.mono ?_; rintro e w6 ⟨⟨v6, rfl⟩, hi6, hr6, hk6⟩; have H6 := Lib.hid (And.intro hi6 hk6); clear hi6 hr6 hk6)
      | fail)
    all_goals
      go_wp2
      refine bodyPost_ret (results_none rfl _ _ _) rfl ?_
      exact ⟨⟨_, rfl⟩, H6.out.1, ((KeepBut.of_below Hb5.out).trans H6.out.2).weak (fun x hx hp => by rcases hp with hp | hp; exact hp; omega)⟩
  | k + 1, P, I, gt, capst, w, hk, hent, hst, hP, hfits, htell, h0 => by
    obtain ⟨w3, hw3⟩ : ∃ w3, w3 = (((w.alloc (.cells #[.slice A L.length c] 23)).alloc (.cells #[.func (.func gf) #[] capsf] 67)).alloc (.cells #[.func (.func gt) #[] capst] 70)) := ⟨_, rfl⟩
    have hb3 : Below w.heap.size w w3 := by rw [hw3]; exact (((Below.refl _ _).alloc (Nat.le_refl _) _).alloc (by simp) _).alloc (by simp; omega) _
    have hbx : Bx w3 w.heap.size (.slice A L.length c) (.func (.func gf) #[] capsf) (.func (.func gt) #[] capst) := by rw [hw3]; exact Bx.new w _ _ _
    have hsz : w3.heap.size = w.heap.size + 3 := by rw [hw3]; simp
    have hrbe : w3.heap.size + 3 * (k + 1) = w.heap.size + 3 * (k + 1 + 1) := by omega
    have ih := eachRow_c f L A c gf capsf hL henf k P (fun d W => I (d.flatMap (ext f L.length)) W ∧ Bx W w.heap.size (.slice A L.length c) (.func (.func gf) #[] capsf) (.func (.func gt) #[] capst)) 87 #[.pointer (some ⟨w.heap.size, 0, none⟩), .pointer (some ⟨w.heap.size + 1, 0, none⟩), .pointer (some ⟨w.heap.size + 2, 0, none⟩)] w3 (by omega)
      (fun args w => enters_of Try.func87 (by kernel_rfl) rfl args w)
      (by rw [hrbe]; exact fun d W W' h1 h2 => ⟨hst _ _ _ h1.1 h2, h1.2.keep h2 (fun x h3 h4 h5 => by omega)⟩)
      (fun x hx => by have := hP x hx; omega)
      (by rw [hrbe]; exact fun d r W i h1 h2 h3 h4 h5 => hfits _ r W i (by omega) h2 h3 h4.1 h5)
      (by rw [hrbe]; exact fun d r W h1 h2 h3 h4 => tell1_c f L A c k P I gf gt capsf capst _ w.heap.size henf hent (by omega) hL hst hP (by omega) hfits htell d r W h1 h2 h3.1 h3.2 h4)
      ⟨hst _ _ _ (by simpa using h0) (KeepBut.of_below hb3), hbx⟩
    have c0 := hbx.l.cell
    have c1 := hbx.f.cell
    have Ih := Lib.hid ih
    have Hb3 := Lib.hid hb3
    have g1 : ¬ (((k + 1 : Nat) : Int) = 0) := by omega
    have Q1 := Lib.hid (show ((k + 1 : Nat) : Int) - 1 = (k : Int) by omega)
    clear ih hb3 hst hP hfits htell h0 hbx
    rw [hw3] at Ih Hb3
    clear hw3 c0 c1 hsz
    go_enter Try.func70, Try.ntmps70
    go_wp2_with fail
    refine Ih.out.mono ?_
    rintro e w4 ⟨⟨v4, rfl⟩, hi4, hk4⟩
    have Hi4 := Lib.hid hi4
    have Hk4 := Lib.hid ((KeepBut.of_below (p := P) Hb3.out).trans hk4)
    clear hi4 hk4
    go_wp2
    go_end0
    exact ⟨⟨_, rfl⟩, Hi4.out.1, Hk4.out⟩

end Go.Proofs.Ytmbdggakahbciaa
