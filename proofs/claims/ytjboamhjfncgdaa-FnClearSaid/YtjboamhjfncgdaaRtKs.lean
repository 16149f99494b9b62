/-
  RouteClear of the model.
-/
import Derived.Test.YtjboamhjfncgdaaRtGs
import Derived.Deep.AppendLies
namespace Go.Proofs.Ytjboamhjfncgdaa
open Go.RowKit

theorem int_news' (w : World) (x : Int) (t : TypeId) : ∀ j u, (([x] : List Int).map (Value.int .i64))[j]? = some u → (w.alloc (.cells #[.int .i64 x] t)).cell? ((⟨w.heap.size, 0, none⟩ : Addr).add j) = some u := argI_cells (arg_one w x t)
theorem own_oneI (w : World) (x : Int) (t : TypeId) : (w.alloc (.cells #[.int .i64 x] t)).ownsRow w.heap.size t 1 (.slice (some ⟨w.heap.size, 0, none⟩) 1 1) ([x] : List Int).length (([x] : List Int).map (Value.int .i64)) :=
  ⟨by simp, .inr ⟨w.heap.size, 1, #[.int .i64 x], rfl, Nat.le_refl _, heap_alloc_new w _, by simp, by simp [maxLen], by simp, by simp⟩⟩

set_option maxRecDepth 100000 in
set_option maxHeartbeats 4000000 in
theorem specRouteClear_b (A : Option Addr) (c : Nat) (ss : List Rot) (kk : Int) (w : World) (ha : ArgK w A c ss) :
    Calls Try.prog 49 #[.slice A ss.length c, .int .i64 kk] w (RetB (.int .i64 (clrV ss kk)) w) := by
  obtain ⟨i0, hi, hz0, hz1, hz2⟩ := info_parts intInf
  have HA := Lib.hid ha
  clear ha
  go_enter Try.func49, Try.ntmps49
  go_wp2_with fail
  refine (l9Has_c _ _ _ _ _ HA.out).mono ?_
  rintro e w1 ⟨rfl, hb⟩
  have Hb := Lib.hid hb
  clear hb
  cases e1 : hasR ss kk
  · have Hv := Lib.hid (clrV_no e1)
    clear e1
    go_wp2
    go_ret
    exact ⟨by rw [Hv.out] <;> rfl, Hb.out⟩
  obtain ⟨k1, k2, k3⟩ := hasR_true.1 e1
  obtain ⟨k, rfl⟩ : ∃ k : Nat, kk = (k : Int) := ⟨kk.toNat, by omega⟩
  have hlt : k < ss.length := by omega
  have h8 := chart_len k1
  have Hv := Lib.hid (clrV_yes e1)
  have Hch := Lib.hid k1
  have HO := Lib.hid (show OnI w (w1.alloc (.cells #[.int .i64 (k : Int)] 3)) (.slice (some ⟨w1.heap.size, 0, none⟩) 1 1) [k] from ⟨OwnsRow.more (own_oneI w1 (k : Int) _) Hb.out.size, Hb.out.alloc Hb.out.size _⟩)
  clear e1 k1 k2 k3
  go_wp2
  go_loopw [5, 6] (fun o i wr => ∃ (n : Nat) (L : List Nat) (v : Value), v = o ∧ i = .int .i64 n ∧ ClrInv ss k L n 0 ∧ OnI w wr v L) (fun _ i _ => ss.length - (intOf i).toNat)
  case atStart => exact ⟨0, [k], _, rfl, rfl, ClrInv.start ss k, HO.out⟩
  case round =>
    obtain ⟨n, L, v, rfl, rfl, hci, ho⟩ := hrel
    have hfew := hci.few hlt
    have hle := hci.le
    have hil := ints_length L
    obtain ⟨B, d, rfl, hab⟩ := ho.form (by omega)
    obtain ⟨wo, hwo⟩ : ∃ wo, wo = wr := ⟨_, rfl⟩
    subst hwo
    by_cases hin : n < L.length
    · have hat := ints_at (l := L) hin
      have hxl := hci.lt hlt hin
      obtain ⟨b, off, rfl, hcell⟩ := argI_at' hab (k := n) (by omega)
      have hc0 := hcell _ (Below.refl _ _)
      rw [hat] at hc0
      obtain ⟨x, hx⟩ : ∃ x, L[n]?.getD 0 = x := ⟨_, rfl⟩
      rw [hx] at hc0 hxl
      have Hx := Lib.hid hx
      have HR := Lib.hid (show abvV ss (x : Int) = ints (abvN ss x) from abvV_yes (hasR_nat Hch.out hxl))
      obtain ⟨p, hp⟩ : ∃ p, (ints L).length = p := ⟨_, rfl⟩
      have Hp := Lib.hid hp
      have Hci := Lib.hid hci
      have Ho := Lib.hid ho
      have g1 : (n : Int) < (p : Int) := by omega
      have hp8 : p ≤ 8 := by omega
      have hn8 : n < ss.length := by omega
      rw [hp]
      clear hat hcell hx hci ho hil hp hab hfew
      go_wp2_with fail
      refine (specRouteAbove_b A c ss (x : Int) _ (HA.out.go Ho.out.2)).mono ?_
      rintro e w2 ⟨A2, c2, rfl, ra, ro, rb⟩
      dsimp only [id]
      rw [HR.out] at ra ro ⊢
      have hal := ints_length (abvN ss x)
      have hal8 := abvN_len ss x
      have Hfit := Lib.hid (fun r e => (Ho.out.1.lt r e).2)
      have Ho2 := Lib.hid (Ho.out.go rb)
      have HatA := Lib.hid (fun m (hm : m < (abvN ss x).length) => ints_at (l := abvN ss x) hm)
      obtain ⟨q, hq⟩ : ∃ q, (ints (abvN ss x)).length = q := ⟨_, rfl⟩
      have Hq := Lib.hid (show (abvN ss x).length = q by omega)
      have Hq2 := Lib.hid hq
      have HH := Lib.hid (ro.held (Nat.le_refl _) ra.len : Held wo.heap.size w2.heap.size w2 A2 c2 (ints (abvN ss x)))
      rw [hq]
      have hq8 : q ≤ 8 := by omega
      have hss : wo.heap.size ≤ w2.heap.size := rb.size
      clear ra rb ro hc0 HR hq hal hal8
      go_wp2
      go_loopw [5, 8] (fun o i w3 => ∃ (m : Nat) (M : List Nat) (v : Value), m ≤ q ∧ v = o ∧ i = .int .i64 m ∧ M[n]?.getD 0 = x ∧ n < M.length ∧ ClrInv ss k M n m ∧ OnI w w3 v M ∧ Held wo.heap.size w2.heap.size w3 A2 c2 (ints (abvN ss x)) ∧ (∀ r, v.ownBlock = some r → r < wo.heap.size ∨ w2.heap.size ≤ r) ∧ w2.heap.size ≤ w3.heap.size) (fun _ i _ => q - (intOf i).toNat)
      case atStart => exact ⟨0, L, _, Nat.zero_le _, rfl, rfl, Hx.out, hin, Hci.out, by have := Ho2.out; rw [Hp.out] at this; exact this, HH.out, fun r e => .inl (Hfit.out r (by rw [Hp.out]; exact e)), Nat.le_refl _⟩
      case round =>
        obtain ⟨m, M, v, hm, rfl, rfl, hMn, hnM, hci, ho, hh, hfit, hs3⟩ := hrel
        have hfew := hci.few hlt
        have hil := ints_length M
        obtain ⟨B3, d3, rfl, hab⟩ := ho.form (by omega)
        by_cases hmq : m < q
        · have hmA : m < (abvN ss x).length := by have := Hq.out; omega
          obtain ⟨b, off, rfl, hcell⟩ := argI_at' hh.arg (k := m) (by rw [Hq2.out]; exact hmq)
          have hc0 := hcell _ (Below.refl _ _)
          rw [HatA.out m hmA] at hc0
          have hold := fun hy => hci.old (by rw [hMn]; exact hmA) hy
          have hnew := fun hy => hci.new hnM (by rw [hMn]; exact hmA) hy
          rw [hMn] at hold hnew
          obtain ⟨y, hy⟩ : ∃ y, (abvN ss x)[m]?.getD 0 = y := ⟨_, rfl⟩
          rw [hy] at hc0 hold hnew
          have hdec : decide ((y : Int) ∈ ints M) = decide (y ∈ M) := decide_eq_decide.2 ints_mem
          have Hold := Lib.hid hold
          have Hnew := Lib.hid hnew
          have Ho3 := Lib.hid ho
          have Hh := Lib.hid hh
          have Hfit3 := Lib.hid hfit
          have Hdec := Lib.hid hdec
          have HMn := Lib.hid hMn
          have g9 : (m : Int) < (q : Int) := by omega
          obtain ⟨p3, hp3⟩ : ∃ p, (ints M).length = p := ⟨_, rfl⟩
          have hl4 := l4Has_c B3 d3 (ints M) (y : Int) wr hab
          rw [hp3] at hl4 ⊢
          have Hl4 := Lib.hid hl4
          have Hp3 := Lib.hid hp3
          have hp38 : p3 ≤ 8 := by omega
          clear hcell hold hnew ho hh hfit hdec hMn hci hab hy hil hl4 hp3 hfew hmA
          go_wp2_with fail
          refine Hl4.out.mono ?_
          rintro e w5 ⟨rfl, rfl⟩
          rw [Hdec.out]
          by_cases hyM : y ∈ M
          · have hz := Hold.out hyM
            rw [decide_eq_true hyM]
            clear hyM
            go_wp2
            go_roundw
            case rel => exact ⟨m + 1, M, .slice B3 p3 d3, by omega, rfl, by go_num, HMn.out, hnM, hz, by have := Ho3.out; rw [Hp3.out] at this; exact this, Hh.out, fun r e => Hfit3.out r (by rw [Hp3.out]; exact e), hs3⟩
            case measure => simp [intOf]; omega
          · have hz := Hnew.out hyM
            rw [decide_eq_false hyM]
            clear hyM
            have Hown := Lib.hid (show wr.ownsRow w.heap.size 3 1 (.slice B3 p3 d3) p3 ((ints M).map (Value.int .i64)) by have := Ho3.out.1; rw [Hp3.out] at this; exact this)
            go_wp2_with (at_builtin; refine wpList_append_lies _ rfl (.tmp 40) (.tmp 45) 25 rfl w.heap.size 3 i0 (.int .i64 0) 1 8 Try.underlying25 hi hz0 hz1 hz2 rfl (by decide) (.slice B3 p3 d3) p3 ((ints M).map (Value.int .i64)) rfl (Hown.out.alloc _) ⟨wr.heap.size, 0, none⟩ 1 1 (([(y : Int)] : List Int).map (Value.int .i64)) rfl rfl (int_news' wr (y : Int) _) (intsOne [(y : Int)]) (by omega) (by unfold maxLen; omega) (by omega) (by have := Ho3.out.2.size; simp; omega) (wr.heap.size + 1) (by simp) ?_; intro g9' cap9 w9 hown9 hg9 hor9 hlt9; have H9 := Lib.hid hown9; have HG9 := Lib.hid hg9; have HOr := Lib.hid hor9; clear hown9 hg9 hor9)
            have hbel : Below w.heap.size w w9 := (Ho3.out.2.alloc Ho3.out.2.size (.cells #[.int .i64 (y : Int)] 3)).grown HG9.out (by have := Ho3.out.2.size; simp; omega) (fun r e => (Hown.out.lt r e).1)
            have hson : OnI w w9 (.slice (some ⟨g9', 0, none⟩) (p3 + 1) cap9) (M ++ [y]) := ⟨by rw [ints_snoc, List.length_append, List.length_singleton, Hp3.out, List.map_append]; exact H9.out, hbel⟩
            have hheld : Held wo.heap.size w2.heap.size w9 (some ⟨b, off, none⟩) c2 (ints (abvN ss x)) := (Hh.out.go ((Below.refl _ _).alloc (Nat.le_refl _) (.cells #[.int .i64 (y : Int)] 3))).grown HG9.out (fun r e => Hfit3.out r (by rw [Hp3.out]; exact e))
            have hfit9 : ∀ r, (Value.slice (some ⟨g9', 0, none⟩) (p3 + 1) cap9).ownBlock = some r → r < wo.heap.size ∨ w2.heap.size ≤ r := fun r e => by
              have e2 : some g9' = some r := e
              injection e2 with e2
              subst e2
              rcases HOr.out with h | h
              · exact Hfit3.out _ (by rw [Hp3.out]; exact h)
              · exact .inr (by omega)
            have hsz9 : w2.heap.size ≤ w9.heap.size := by have := HG9.out.size; simp at this; omega
            have hx9 : (M ++ [y])[n]?.getD 0 = x := by rw [List.getElem?_append_left hnM]; exact HMn.out
            go_roundw
            case rel => exact ⟨m + 1, M ++ [y], _, by omega, rfl, by go_num, hx9, by simp; omega, hz, hson, hheld, hfit9, hsz9⟩
            case measure => simp [intOf]; omega
        · obtain rfl : m = q := by omega
          have hnext := ClrInv.next (R := ss) (k := k) (L := M) (i := n) (by rw [hMn, Hq.out]; exact hci) hnM
          have Hnext := Lib.hid hnext
          have Ho3 := Lib.hid ho
          clear hnext ho hab hh hfit hci hil hfew hMn
          obtain ⟨p3, hp3⟩ : ∃ p, (ints M).length = p := ⟨_, rfl⟩
          rw [hp3]
          have Hp3 := Lib.hid hp3
          clear hp3
          go_wp2
          go_roundw
          case rel => exact ⟨n + 1, M, _, rfl, by go_num, Hnext.out, by have := Ho3.out; rw [Hp3.out] at this; exact this⟩
          case measure => simp [intOf]; omega
    · obtain rfl : n = L.length := by omega
      have hall := hci.all hlt
      have Ho := Lib.hid ho
      have Hz := Lib.hid (show clrV ss (k : Int) = (L.length : Int) - 1 by rw [Hv.out]; omega)
      have h1 : 1 ≤ L.length := by omega
      have h9 : L.length ≤ 8 := by omega
      clear hall ho hab hci hle hfew
      rw [hil]
      clear hil
      obtain ⟨p, hp⟩ : ∃ p, L.length = p := ⟨_, rfl⟩
      rw [hp] at Hz h1 h9 ⊢
      have q1 : IntKind.i64.wrap ((p : Int) - 1) = (p : Int) - 1 := IntWalk.i64_in _ (by omega)
      clear hp
      go_wp2
      go_ret
      exact ⟨by rw [Hz.out]; rfl, Ho.out.2⟩

end Go.Proofs.Ytjboamhjfncgdaa
