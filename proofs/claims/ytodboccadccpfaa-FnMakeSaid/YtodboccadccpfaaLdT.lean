/-
  loadTanks of the program: all tanks with their coils.
-/
import Derived.Test.YtodboccadccpfaaStwI
import Derived.Test.YtodboccadccpfaaTkH
namespace Go.Proofs.Ytodboccadccpfaa
open Go.RowKit

/-- the coils of the first five tanks, of the first k coils -/
def pilesTo (L T : List Int) (k : Nat) : List (List Int) := (List.range 5).map fun (t : Nat) => pileTo L T t k
theorem pilesTo_len (L T : List Int) (k : Nat) : (pilesTo L T k).length = 5 := by simp [pilesTo]
theorem pilesTo_at (L T : List Int) (k : Nat) {t : Nat} (ht : t < 5) : (pilesTo L T k)[t]? = some (pileTo L T t k) := by
  unfold pilesTo
  rw [List.getElem?_map, List.getElem?_range ht]
  rfl
theorem pilesTo_zero (L T : List Int) : pilesTo L T 0 = [[], [], [], [], []] := rfl
theorem pilesTo_succ (L T : List Int) (k : Nat) {t : Nat} (ht : t < 5) (e : T[k]?.getD 0 = t) : pilesTo L T (k + 1) = (pilesTo L T k).set t (pileTo L T t k ++ [L[k]?.getD 0]) := by
  apply List.ext_getElem? 
  intro j
  rcases Nat.lt_or_ge j 5 with hj | hj
  · rw [pilesTo_at _ _ _ hj, List.getElem?_set, pilesTo_len, pileTo]
    by_cases h : t = j
    · subst h
      rw [if_pos e, if_pos rfl, if_pos ht]
    · rw [if_neg h, if_neg (by rw [e]; omega), pilesTo_at _ _ _ hj]
  · rw [List.getElem?_eq_none (by rw [pilesTo_len]; exact hj), List.getElem?_eq_none (by rw [List.length_set, pilesTo_len]; exact hj)]
theorem base_no1 {L T : List Int} (h : ordB L = false) : baseB L T = false := by unfold baseB; rw [h]; rfl
theorem base_no2 {L T : List Int} (h : ¬ T.length = L.length) : baseB L T = false := by unfold baseB; rw [decide_eq_false h]; simp
theorem base_no3 {L T : List Int} (h : allB T 0 4 = false) : baseB L T = false := by
  have h2 : (T.all fun x => inB x 0 4) = false := h
  unfold baseB; rw [h2]; simp
theorem base_yes {L T : List Int} (h : ordB L = true) (h2 : T.length = L.length) (h3 : allB T 0 4 = true) : baseB L T = true := by
  have h4 : (T.all fun x => inB x 0 4) = true := h3
  unfold baseB; rw [h, decide_eq_true h2, h4]; rfl

theorem made_stacks : (madeCells (Value.cells (.agg #[.slice none 0 0])) (5 * 1)).toList = [.slice none 0 0, .slice none 0 0, .slice none 0 0, .slice none 0 0, .slice none 0 0] := by
  simp [madeCells, Value.cells, Nat.mod_one, List.range_succ]
/-- five empty stacks -/
theorem Hold.five {t u : TypeId} {lo : Nat} {W : World} {g : Nat} {ow : Nat → Nat} (h0 : ow g = 0) (ho : W.ownsRow lo u 1 (.slice (some ⟨g, 0, none⟩) 5 5) 5 [.slice none 0 0, .slice none 0 0, .slice none 0 0, .slice none 0 0, .slice none 0 0]) :
    Hold t u lo ow W (.slice (some ⟨g, 0, none⟩) 5 5) [[], [], [], [], []] := by
  refine ⟨_, rfl, ho, fun g2 h2 => by simp [Value.ownBlock] at h2; rw [← h2]; exact h0, fun k z hz => ?_⟩
  have hk : k < 5 := (List.getElem?_eq_some_iff.1 hz).1
  refine ⟨.slice none 0 0, ?_, ?_, Lab.nil _ _⟩
  · match k, hk with
    | 0, _ => rfl
    | 1, _ => rfl
    | 2, _ => rfl
    | 3, _ => rfl
    | 4, _ => rfl
  · have : z = [] := by
      match k, hk, hz with
      | 0, _, hz => simpa using hz.symm
      | 1, _, hz => simpa using hz.symm
      | 2, _, hz => simpa using hz.symm
      | 3, _, hz => simpa using hz.symm
      | 4, _, hz => simpa using hz.symm
    subst this
    exact W.ownsRow_nil _ _ _

/-- WHAT loadTanks LEAVES -/
def RetHold (L T : List Int) (w : World) (e : Ending) (w' : World) : Prop :=
  Below w.heap.size w w' ∧ ((baseB L T = false ∧ e = .returned (.tuple #[.slice none 0 0, .bool false])) ∨
    (baseB L T = true ∧ ∃ g ow, e = .returned (.tuple #[.slice (some ⟨g, 0, none⟩) 5 5, .bool true]) ∧ Hold 3 157 w.heap.size ow w' (.slice (some ⟨g, 0, none⟩) 5 5) (pilesTo L T L.length)))

set_option maxRecDepth 100000 in
set_option maxHeartbeats 2000000 in
theorem loadTanks_b (A0 : Option Addr) (c0 : Nat) (z0 : List Int) (A1 : Option Addr) (c1 : Nat) (z1 : List Int) (w : World) (h0 : Arg w A0 c0 z0) (h1 : Arg w A1 c1 z1) :
    Calls Try.prog 124 #[.slice A0 z0.length c0, .slice A1 z1.length c1] w (RetHold z0 z1 w) := by
  have hl0 := h0.len
  have hl1 := h1.len
  have H0 := Lib.hid h0
  have H1 := Lib.hid h1
  have H00 := Lib.hid h0
  have H11 := Lib.hid h1
  obtain ⟨j0, hj, hj0, hj1, hj2⟩ := info_parts stk_info
  clear h0 h1
  go_enter Try.func124, Try.ntmps124
  go_wp2_with fail
  refine (implOrdersValid_b A0 c0 z0 _ H0.out).mono ?_
  rintro e w1 ⟨rfl, hb1⟩
  have Hb1 := Lib.hid hb1
  replace H0 := Lib.hid (H0.out.go hb1)
  replace H1 := Lib.hid (H1.out.go hb1)
  clear hb1
  cases hv : ordB z0
  · have Hn := Lib.hid (base_no1 (T := z1) hv)
    clear hv
    go_wp2
    go_ret2
    exact ⟨Hb1.out, .inl ⟨Hn.out, rfl⟩⟩
  have Hv := Lib.hid hv
  have h10 := ord_len hv
  clear hv
  by_cases hlen : z1.length = z0.length
  · have g0 : (z1.length : Int) = (z0.length : Int) := by omega
    have Hlen := Lib.hid hlen
    clear hlen
    go_wp2_with fail
    refine (allInRange_c A1 c1 z1 0 4 _ H1.out).mono ?_
    rintro e w' ⟨rfl, rfl⟩
    cases ha : allB z1 0 4
    · have Hn := Lib.hid (base_no3 (L := z0) ha)
      clear ha
      go_wp2
      go_ret2
      exact ⟨Hb1.out, .inl ⟨Hn.out, rfl⟩⟩
    have Hy := Lib.hid (base_yes Hv.out Hlen.out ha)
    have Hall := Lib.hid ha
    have Hs1 := Lib.hid Hb1.out.size
    clear ha
    go_wp2_with (at_make; refine wpList_make_full _ rfl (.const (.int .i64 5)) (.const (.int .i64 5)) 151 rfl w.heap.size 157 j0 (.agg #[.slice none 0 0]) 1 Try.underlying151 hj hj0 hj1 .i64 .i64 _ _ 5 rfl rfl rfl rfl (by rw [hj2]; omega) (by unfold maxLen; omega) Hs1.out ?_; intro w2 hown hg2)
    rw [made_stacks] at hown
    have HB2 := Lib.hid (Hb1.out.grown hg2 Hs1.out (by simp))
    have HH := Lib.hid (Hold.five (t := 3) (ow := fun _ => 0) rfl hown)
    have hlB : w.heap.size ≤ w1.heap.size := Hs1.out
    obtain ⟨B, hB⟩ : ∃ B, w1.heap.size = B := ⟨_, rfl⟩
    rw [hB] at HH hlB ⊢
    clear hown hg2 hB
    go_loopw [27] (fun i wr => ∃ (k : Nat) (ow : Nat → Nat), k ≤ z0.length ∧ i = .int .i64 k ∧ Hold 3 157 w.heap.size ow wr (.slice (some ⟨B, 0, none⟩) 5 5) (pilesTo z0 z1 k) ∧ Below w.heap.size w wr ) (fun i _ => z0.length - (intOf i).toNat)
    case atStart => exact ⟨0, _, Nat.zero_le _, rfl, HH.out, HB2.out⟩
    case round =>
      obtain ⟨k, ow, hk, rfl, hH, hb⟩ := hrel
      have HK := Lib.hid hH
      have Hb := Lib.hid hb
      clear hH hb
      by_cases hlt : k < z0.length
      · obtain ⟨b, off, rfl, _, hbw, hc0⟩ := (H00.out.go Hb.out).rd.at_ hlt
        obtain ⟨b1, off1, rfl, _, hbw1, hd0⟩ := (H11.out.go Hb.out).rd.at_ (show k < z1.length by rw [Hlen.out]; exact hlt)
        have hin := allB_true.1 Hall.out k (by rw [Hlen.out]; exact hlt)
        have Hsucc := Lib.hid (fun t => pilesTo_succ z0 z1 k (t := t))
        have Hat := Lib.hid (fun t => pilesTo_at z0 z1 k (t := t))
        have hlen10 := Lib.hid (fun t : Nat => pileTo_len z0 z1 t k)
        obtain ⟨x, hx⟩ : ∃ x, z0[k]?.getD 0 = x := ⟨_, rfl⟩
        obtain ⟨y, hy⟩ : ∃ y, z1[k]?.getD 0 = y := ⟨_, rfl⟩
        rw [hx] at hc0 Hsucc
        rw [hy] at hd0 hin Hsucc
        obtain ⟨t, rfl⟩ := Int.eq_ofNat_of_zero_le hin.1
        have ht5 : t < 5 := by omega
        have Hnext := Lib.hid (Hsucc.out t ht5 rfl)
        have Hz := Lib.hid (Hat.out t ht5)
        have hz10 := hlen10.out t
        obtain ⟨z, hz⟩ : ∃ z, pileTo z0 z1 t k = z := ⟨_, rfl⟩
        rw [hz] at Hnext Hz hz10
        obtain ⟨Q, hQ⟩ : ∃ Q, pilesTo z0 z1 k = Q := ⟨_, rfl⟩
        rw [hQ] at HK Hnext Hz
        have g1 : (k : Int) < (z0.length : Int) := by omega
        have g2 : (0 : Int) ≤ (t : Int) := by omega
        have g3 : (t : Int) < 5 := by omega
        have g4 : (k : Int) < (z1.length : Int) := by have := Hlen.out; omega
        obtain ⟨g, v, hA, hc2, hf2, ho2, hne2, hlg, hgw, hvl⟩ := HK.out.at_ Hz.out
        obtain rfl : g = B := by injection hA with e; injection e with e; exact e.symm
        have Hpush := Lib.hid (push_c g t v z x w.heap.size wr hc2 hf2 ho2 hne2 (by omega) Hb.out.size hgw)
        have Ho2 := Lib.hid ho2
        have Hvl := Lib.hid hvl
        clear hx hy hz hQ hin hA hc2 hf2 ho2 hne2 hgw hvl
        go_wp2_with fail
        refine Hpush.out.mono ?_
        rintro e w4 ⟨⟨r, rfl⟩, w5, v', rfl, hgr, hown', hnew⟩
        have H3 := Lib.hid (HK.out.pushed Hz.out Hvl.out hgr hown' hnew)
        have B3 := Lib.hid ((Hb.out.grown hgr Hb.out.size (fun r e => (Ho2.out.lt r e).1)).setCell (p := ⟨g, t, none⟩) hlg v')
        rw [← Hnext.out] at H3
        clear hgr hown' hnew
        obtain ⟨W6, hW6⟩ : ∃ W6, w5.setCell ⟨g, t, none⟩ v' = W6 := ⟨_, rfl⟩
        rw [hW6] at H3 B3 ⊢
        clear hW6
        go_wp2
        go_roundw
        case rel => exact ⟨k + 1, _, by omega, by go_num, H3.out, B3.out⟩
        case measure => simp [intOf]; omega
      · obtain rfl : k = z0.length := by omega
        go_wp2
        go_ret2
        exact ⟨Hb.out, .inr ⟨Hy.out, B, ow, rfl, HK.out⟩⟩
  · have g0 : ¬ (z1.length : Int) = (z0.length : Int) := by omega
    have Hn := Lib.hid (base_no2 (L := z0) (T := z1) hlen)
    go_wp2
    go_ret2
    exact ⟨Hb1.out, .inl ⟨Hn.out, rfl⟩⟩

end Go.Proofs.Ytodboccadccpfaa
