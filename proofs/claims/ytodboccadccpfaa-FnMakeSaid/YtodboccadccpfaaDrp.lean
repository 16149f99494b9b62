/-
  OrdersDrop of both.
-/
import Derived.Test.YtodboccadccpfaaDelI
import Derived.Test.YtodboccadccpfaaTkO
import Derived.Test.YtodboccadccpfaaStwS
import Derived.Test.YtodboccadccpfaaOutI
namespace Go.Proofs.Ytodboccadccpfaa
open Go.RowKit

/-- a number of paying out without the one p -/
def lessN (p x : Int) : Int := if p < x then x - 1 else x
def dropB (L : List Int) (i : Int) : Bool := ordB L && inB i 0 ((L.length : Int) - 1)
/-- ORDERS WITHOUT THE COIL i -/
def dropL (L : List Int) (i : Nat) : List Int := (L.take i ++ L.drop (i + 1)).map (lessN (L[i]?.getD 0))
def drpR (L : List Int) (i : Int) : List Int := if dropB L i then dropL L i.toNat else []
theorem drp_no1 {L : List Int} {i : Int} (h : ordB L = false) : dropB L i = false ∧ drpR L i = [] := by unfold drpR dropB; rw [h]; exact ⟨rfl, rfl⟩
theorem drp_no2 {L : List Int} {i : Int} (h : inB i 0 ((L.length : Int) - 1) = false) : dropB L i = false ∧ drpR L i = [] := by unfold drpR dropB; rw [h]; simp
theorem drp_yes {L : List Int} {i : Nat} (h : ordB L = true) (h2 : inB (i : Int) 0 ((L.length : Int) - 1) = true) : dropB L i = true ∧ drpR L i = dropL L i := by unfold drpR dropB; rw [h, h2]; exact ⟨rfl, rfl⟩
theorem dropL_len {L : List Int} {i : Nat} (h : i < L.length) : (dropL L i).length = L.length - 1 := by simp [dropL]; omega
/-- the first k numbers are done -/
def mapTo (f : Int → Int) (E : List Int) (k : Nat) : List Int := (E.take k).map f ++ E.drop k
theorem mapTo_len (f : Int → Int) (E : List Int) {k : Nat} (h : k ≤ E.length) : (mapTo f E k).length = E.length := by simp [mapTo]; omega
theorem mapTo_zero (f : Int → Int) (E : List Int) : mapTo f E 0 = E := by simp [mapTo]
theorem mapTo_all (f : Int → Int) (E : List Int) : mapTo f E E.length = E.map f := by simp [mapTo]
theorem mapTo_at (f : Int → Int) (E : List Int) {k : Nat} (h : k < E.length) : (mapTo f E k)[k]? = some (E[k]?.getD 0) := by
  unfold mapTo
  have hl : ((E.take k).map f).length = k := by simp; omega
  rw [List.getElem?_append_right (by omega), hl, Nat.sub_self, List.getElem?_drop, Nat.add_zero, List.getElem?_eq_getElem h]
  rfl
theorem mapTo_succ (f : Int → Int) (E : List Int) {k : Nat} (h : k < E.length) : mapTo f E (k + 1) = (mapTo f E k).set k (f (E[k]?.getD 0)) := by
  unfold mapTo
  have hl : ((E.take k).map f).length = k := by simp; omega
  rw [List.set_append_right _ _ (by omega), hl, Nat.sub_self, List.drop_eq_getElem_cons h, List.set_cons_zero, List.take_succ_eq_append_getElem h, List.map_append, List.getElem?_eq_getElem h]
  simp
theorem mapTo_same (f : Int → Int) (E : List Int) {k : Nat} (h : k < E.length) (e : f (E[k]?.getD 0) = E[k]?.getD 0) : mapTo f E (k + 1) = mapTo f E k := by
  rw [mapTo_succ f E h, e]
  apply List.ext_getElem?
  intro j
  rw [List.getElem?_set]
  split
  · rename_i h1
    subst h1
    rw [mapTo_at f E h, if_pos (by rw [mapTo_len f E (by omega)]; exact h)]
  · rfl
theorem drop_bd {L : List Int} (h : ordB L = true) {i k : Nat} (hk : k < (L.take i ++ L.drop (i + 1)).length) : 0 ≤ (L.take i ++ L.drop (i + 1))[k]?.getD 0 ∧ (L.take i ++ L.drop (i + 1))[k]?.getD 0 < L.length := by
  refine (ordB_true.1 h).2.2 _ ?_
  rcases List.mem_append.1 (getD_mem hk) with h1 | h1
  · exact List.mem_of_mem_take h1
  · exact List.mem_of_mem_drop h1
/-- the model: of the first k coils -/
def drpTo (L : List Int) (i : Nat) : Nat → List Int
  | 0 => []
  | k + 1 => if k = i then drpTo L i k else drpTo L i k ++ [lessN (L[i]?.getD 0) (L[k]?.getD 0)]
theorem drpTo_len (L : List Int) (i : Nat) : ∀ k, (drpTo L i k).length ≤ k
  | 0 => Nat.le_refl _
  | k + 1 => by
    have := drpTo_len L i k
    rw [drpTo]
    split
    · omega
    · simp; omega
theorem drpTo_low (L : List Int) (i : Nat) : ∀ k, k ≤ i → k ≤ L.length → drpTo L i k = (L.take k).map (lessN (L[i]?.getD 0))
  | 0, _, _ => by simp [drpTo]
  | k + 1, h, hk => by
    rw [drpTo, if_neg (by omega), drpTo_low L i k (by omega) (by omega), List.take_succ_eq_append_getElem (by omega), List.map_append, getD_at (k := k) (by omega)]
    simp
theorem drpTo_high (L : List Int) {i : Nat} (hi : i < L.length) : ∀ d, i + 1 + d ≤ L.length → drpTo L i (i + 1 + d) = (L.take i ++ (L.drop (i + 1)).take d).map (lessN (L[i]?.getD 0))
  | 0, _ => by
    rw [Nat.add_zero, drpTo, if_pos rfl, drpTo_low L i i (Nat.le_refl _) (by omega)]
    simp
  | d + 1, h => by
    have hd : d < (L.drop (i + 1)).length := by simp; omega
    rw [show i + 1 + (d + 1) = (i + 1 + d) + 1 by omega, drpTo, if_neg (by omega), drpTo_high L hi d (by omega), List.take_succ_eq_append_getElem hd, ← List.append_assoc, List.map_append (l₂ := [_]), getD_at (k := i + 1 + d) (by omega)]
    simp
theorem drpTo_all (L : List Int) {i : Nat} (hi : i < L.length) : drpTo L i L.length = dropL L i := by
  have := drpTo_high L hi (L.length - (i + 1)) (by omega)
  rw [show i + 1 + (L.length - (i + 1)) = L.length by omega] at this
  rw [this]
  unfold dropL
  rw [List.take_of_length_le (l := L.drop (i + 1)) (by simp)]

set_option maxRecDepth 100000 in
set_option maxHeartbeats 2000000 in
theorem implOrdersDrop_b (A0 : Option Addr) (c0 : Nat) (z0 : List Int) (n1 : Int) (w : World) (h0 : Arg w A0 c0 z0) :
    Calls Try.prog 44 #[.slice A0 z0.length c0, .int .i64 n1] w (RetS 3 (fun v => .tuple #[v, .bool (dropB z0 n1)]) (drpR z0 n1) w) := by
  have hl0 := h0.len
  have H0 := Lib.hid h0
  clear h0
  go_enter Try.func44, Try.ntmps44
  go_wp2_with fail
  refine (implOrdersValid_b A0 c0 z0 _ H0.out).mono ?_
  rintro e w1 ⟨rfl, hb1⟩
  have Hb1 := Lib.hid hb1
  replace H0 := Lib.hid (H0.out.go hb1)
  clear hb1
  cases hs : ordB z0
  · have Hn := Lib.hid (drp_no1 (i := n1) hs)
    clear hs
    go_wp2
    go_ret2
    rw [Hn.out.1, Hn.out.2]
    exact RetS.nil (f := fun v => .tuple #[v, .bool false]) Hb1.out
  have Hord := Lib.hid hs
  have h10 := ord_len hs
  clear hs
  go_wp2_with fail
  refine (inRange_c _ _ _ _).mono ?_
  rintro e w' ⟨rfl, rfl⟩
  cases h1 : inB n1 0 ((z0.length : Int) - 1)
  · have Hn := Lib.hid (drp_no2 h1)
    clear h1
    go_wp2
    go_ret2
    rw [Hn.out.1, Hn.out.2]
    exact RetS.nil (f := fun v => .tuple #[v, .bool false]) Hb1.out
  have hin := inB_true.1 h1
  obtain ⟨i, rfl⟩ := Int.eq_ofNat_of_zero_le hin.1
  have Hy := Lib.hid (drp_yes Hord.out h1)
  have hi : i < z0.length := by omega
  obtain ⟨b, off, rfl, _, hbw, hc0⟩ := H0.out.rd.at_ hi
  clear h1 hin
  go_wp2_with fail
  refine (cloneI_c b off c0 z0 _ H0.out).mono ?_
  rintro e w2 ⟨B, d, rfl, ha2, ho2, hb2⟩
  dsimp only [id]
  obtain ⟨g, rfl⟩ : ∃ g, B = some ⟨g, 0, none⟩ := by
    rcases ho2.own.2 with ⟨_, h9⟩ | ⟨g, cap, cur, e, _⟩
    · omega
    · injection e with e
      exact ⟨g, e⟩
  have Ho2 := Lib.hid ho2.own
  have Hb2 := Lib.hid hb2
  have g1 : (0 : Int) ≤ (i : Int) := by omega
  clear ha2 ho2 hb2
  go_wp2_with fail
  refine (deleteI_c _ g d i z0 _ Ho2.out hi hl0).mono ?_
  rintro e w3 ⟨rfl, ho3, hg3⟩
  have hE : (z0.take i ++ z0.drop (i + 1)).length = z0.length - 1 := by simp; omega
  have hDl := dropL_len hi
  have hbd := fun k => drop_bd Hord.out (i := i) (k := k)
  have hDe : dropL z0 i = (z0.take i ++ z0.drop (i + 1)).map (lessN (z0[i]?.getD 0)) := rfl
  obtain ⟨E, hEE⟩ : ∃ E, z0.take i ++ z0.drop (i + 1) = E := ⟨_, rfl⟩
  obtain ⟨p, hp⟩ : ∃ p, z0[i]?.getD 0 = p := ⟨_, rfl⟩
  rw [hEE] at ho3 hE hDe hbd
  have Hbd := Lib.hid hbd
  rw [hp] at hc0 hDe
  have Ho3 := Lib.hid ho3
  have hlo := (Ho2.out.lt g rfl).1
  have Hb3 := Lib.hid ((below_step Hb1.out Hb2.out).grown hg3 (below_step Hb1.out Hb2.out).size (fun r e => by cases e; have := Hb1.out.size; omega))
  have hbg : b ≠ g := fun e => by omega
  have hc3 := (hg3.block b (by have := Hb2.out.size; omega) (fun e => hbg (by injection e)))
  have Hc3 := Lib.hid ((World.cell?_of_block (a := ⟨b, off + i, none⟩) hc3).trans ((Hb2.out.cell (p := ⟨b, off + i, none⟩) hbw).trans hc0))
  have HDe := Lib.hid hDe
  have HDl := Lib.hid hDl
  have Hlo := Lib.hid (show w.heap.size ≤ g by have := Hb1.out.size; omega)
  rw [← hE] at Ho3 ⊢
  have HE := Lib.hid hE
  have gE : E.length ≤ 10 := by omega
  clear ho3 hg3 hEE hp hbd hDl hDe hc0 hc3 hE hlo
  go_wp2
  go_loopw [28] (fun i9 wr => ∃ k : Nat, k ≤ E.length ∧ i9 = .int .i64 k ∧ wr.ownsRow w1.heap.size 3 1 (.slice (some ⟨g, 0, none⟩) E.length d) E.length ((mapTo (lessN p) E k).map (Value.int .i64)) ∧ Below w.heap.size w wr ∧ wr.cell? ⟨b, off + i, none⟩ = some (.int .i64 p)) (fun i9 _ => E.length - (intOf i9).toNat)
  case atStart => exact ⟨0, Nat.zero_le _, rfl, by rw [mapTo_zero]; exact Ho3.out, Hb3.out, Hc3.out⟩
  case round =>
    obtain ⟨k, hk, rfl, hok, hb, hc⟩ := hrel
    by_cases hlt : k < E.length
    · have hck := hok.cellAt k (by omega)
      have hfk := hok.frozenAt k
      rw [List.getElem?_map, mapTo_at _ _ hlt] at hck
      simp only [Option.map_some] at hck
      have Hsucc := Lib.hid (mapTo_succ (lessN p) E hlt)
      have Hsame := Lib.hid (mapTo_same (lessN p) E hlt)
      obtain ⟨x, hx⟩ : ∃ x, E[k]?.getD 0 = x := ⟨_, rfl⟩
      have hxb := Hbd.out k hlt
      rw [hx] at hck Hsucc Hsame hxb
      have qx : IntKind.i64.wrap (x - 1) = x - 1 := IntWalk.i64_in _ (by omega)
      have g2 : (k : Int) < (E.length : Int) := by omega
      have g3 : (0 : Int) ≤ (k : Int) := by omega
      have g4 : (i : Int) < (z0.length : Int) := by omega
      have Hok := Lib.hid hok
      have Hb := Lib.hid hb
      have Hc := Lib.hid hc
      clear hok hb hx
      by_cases hpx : p < x
      · have hst := Hok.out.stored k (.int .i64 (x - 1))
        have hc' : (wr.setCell ⟨g, k, none⟩ (.int .i64 (x - 1))).cell? ⟨b, off + i, none⟩ = some (.int .i64 p) := (World.cell?_of_block (Below.heap_setCell wr ⟨g, k, none⟩ (.int .i64 (x - 1)) b hbg)).trans hc
        rw [← List.map_set, show x - 1 = lessN p x by unfold lessN; rw [if_pos hpx], ← Hsucc.out] at hst
        rw [show lessN p x = x - 1 by unfold lessN; rw [if_pos hpx]] at hst
        have Hst := Lib.hid hst
        have Hc' := Lib.hid hc'
        clear hst hc'
        go_wp2
        go_roundw
        case rel => exact ⟨k + 1, by omega, by go_num, Hst.out.1, Hb.out.setCell (p := ⟨g, k, none⟩) Hlo.out _, Hc'.out⟩
        case measure => simp [intOf]; omega
      · have Hn := Lib.hid (Hsame.out (by unfold lessN; rw [if_neg hpx]))
        go_wp2
        go_roundw
        case rel => exact ⟨k + 1, by omega, by go_num, by rw [Hn.out]; exact Hok.out, Hb.out, Hc.out⟩
        case measure => simp [intOf]; omega
    · obtain rfl : k = E.length := by omega
      rw [mapTo_all, ← HDe.out] at hok
      have HK := Lib.hid hok
      have Hb := Lib.hid hb
      clear hok hb
      go_wp2
      go_ret2
      rw [Hy.out.1, Hy.out.2]
      exact RetS.mk (f := fun v => .tuple #[v, .bool true]) (by rw [HDl.out]; omega) (by rw [HDl.out, ← HE.out]; exact OwnsRow.more HK.out Hb1.out.size) Hb.out

end Go.Proofs.Ytodboccadccpfaa
