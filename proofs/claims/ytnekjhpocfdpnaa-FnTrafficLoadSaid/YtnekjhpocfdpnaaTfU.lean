/-
  Words for a usage: a map that has the number of each line. usageOf of the program.
-/
import Derived.Test.YtnekjhpocfdpnaaTfO
import Derived.Maps.Own
import Derived.Maps.OwnOps
import Derived.Maps.OwnSet
import Derived.Maps.RangeWalk
namespace Go.Proofs.Ytnekjhpocfdpnaa
open Go.RowKit Go.Maps

theorem keyI : Keyed Try.prog 3 := int_keyed Try.underlying3
theorem zeroI (w : World) : (zeroValue 3).run Try.prog w = .ok (.int .i64 0) w := by kernel_rfl
theorem wf_of {x : Int} (h : -9223372036854775808 ≤ x ∧ x ≤ 9223372036854775807) : (Lit.int .i64 x).wf = true := WalkArith.wf_i64 h
/-- THE KEYS ARE THE LINES' INDEXES, the elements their numbers -/
def UsD (D : DataW Unit) (L : List Int) : Prop := (∀ i : Nat, i < L.length → ∀ z, D.atKey (.int .i64 (i : Int)) z = .lit (.int .i64 (ldAt L i))) ∧ ∀ kl, has D kl = true ↔ ∃ i : Nat, i < L.length ∧ kl = .int .i64 (i : Int)
/-- BLOCK b IS A USAGE -/
def Usg (W : World) (b : Nat) (L : List Int) : Prop := ∃ D : DataW Unit, W.ownsMap Try.prog 3 (plainElem Try.prog 3) b L.length D ∧ UsD D L ∧ Maps.size D = L.length
theorem Usg.lt {W : World} {b : Nat} {L : List Int} (h : Usg W b L) : b < W.heap.size := by
  obtain ⟨D, h, _⟩ := h
  exact h.lt
theorem Usg.kept {W W' : World} {b : Nat} {L : List Int} {row : Option Nat} (h : Usg W b L) (hg : W.grownBy W' row) (hne : some b ≠ row) : Usg W' b L := by
  obtain ⟨D, h, h2⟩ := h
  exact ⟨D, h.kept hg hne, h2⟩
theorem Usg.go {W W' : World} {b : Nat} {L : List Int} (h : Usg W b L) (hb : Below W.heap.size W W') : Usg W' b L := h.kept (grown_of_below hb none) (by simp)
theorem usd_nil : UsD (.map []) [] := ⟨fun i h => by simp at h, fun kl => ⟨fun h => (by simp [has] at h), fun ⟨i, h, _⟩ => (by simp at h)⟩⟩
theorem lit_inj {i j : Nat} (h : i ≠ j) : (Lit.int .i64 (i : Int)) ≠ .int .i64 (j : Int) := by
  intro e
  injection e with _ e
  omega
theorem keyLit {x : Int} (h : (Lit.int .i64 x).wf = true) : WideAt.IsKeyLit (.int .i64 x) := keyI.key (keyOf_int_mk Try.underlying3 h)
/-- one line more -/
theorem usd_more {D : DataW Unit} {L : List Int} (hD : UsD D L) (hm : IsMap D) (h : (Lit.int .i64 (L.length : Int)).wf = true) (v : Int) : UsD (D.put (.int .i64 (L.length : Int)) (.lit (.int .i64 v))) (L ++ [v]) := by
  have hk := keyLit h
  constructor
  · intro i hi z
    by_cases e : i = L.length
    · subst e
      rw [atKey_put_same hm hk]
      simp [ldAt]
    · have hi2 : i < L.length := by simp at hi; omega
      rw [atKey_put_other (lit_inj e), hD.1 i hi2]
      unfold ldAt
      rw [List.getElem?_append_left hi2]
  · intro kl
    by_cases e : kl = .int .i64 (L.length : Int)
    · subst e
      rw [has_put_same hm hk]
      exact ⟨fun _ => ⟨L.length, by simp, rfl⟩, fun _ => rfl⟩
    · rw [has_put_other e, hD.2]
      constructor
      · rintro ⟨i, hi, rfl⟩; exact ⟨i, by simp; omega, rfl⟩
      · rintro ⟨i, hi, rfl⟩
        refine ⟨i, ?_, rfl⟩
        have : i ≠ L.length := fun h => e (by rw [h])
        simp at hi; omega
/-- another number for a line that is there -/
theorem usd_set {D : DataW Unit} {L : List Int} (hD : UsD D L) (hm : IsMap D) {k : Nat} (hk : k < L.length) (h : (Lit.int .i64 (k : Int)).wf = true) (v : Int) : UsD (D.put (.int .i64 (k : Int)) (.lit (.int .i64 v))) (L.set k v) := by
  have hkl := keyLit h
  constructor
  · intro i hi z
    rw [ldAt_set hk]
    by_cases e : i = k
    · subst e
      rw [atKey_put_same hm hkl, if_pos rfl]
    · rw [atKey_put_other (lit_inj e), hD.1 i (by simpa using hi), if_neg e]
  · intro kl
    rw [List.length_set]
    by_cases e : kl = .int .i64 (k : Int)
    · subst e
      rw [has_put_same hm hkl]
      exact ⟨fun _ => ⟨k, hk, rfl⟩, fun _ => rfl⟩
    · rw [has_put_other e]; exact hD.2 kl
theorem owns_size {W : World} {b n : Nat} {D : DataW Unit} (h : W.ownsMap Try.prog 3 (plainElem Try.prog 3) b n D) : W.ownsMap Try.prog 3 (plainElem Try.prog 3) b (Maps.size D) D := by
  obtain ⟨es, clock, hb, F, hs, rfl⟩ := h
  exact ⟨es, clock, hb, F, by simp [Maps.size, length_sorted], rfl⟩
theorem Usg.more {W W' : World} {b m k : Nat} {L : List Int} {D : DataW Unit} {v : Int} (hD : UsD D L) (hs : Maps.size D = L.length) (hk : L.length = k) (h : (Lit.int .i64 (k : Int)).wf = true) (ho : W.ownsMap Try.prog 3 (plainElem Try.prog 3) b m D)
    (hw : W'.ownsMap Try.prog 3 (plainElem Try.prog 3) b (m + 1) (D.put (.int .i64 (k : Int)) (.lit (.int .i64 v)))) : Usg W' b (L ++ [v]) := by
  subst hk
  have hn : has D (.int .i64 (L.length : Int)) = false := by
    apply eq_false_of_ne_true
    intro e
    obtain ⟨i, hi, e2⟩ := (hD.2 _).1 e
    exact lit_inj (by omega : L.length ≠ i) e2
  have hsz : Maps.size (D.put (.int .i64 (L.length : Int)) (.lit (.int .i64 v))) = (L ++ [v]).length := by rw [size_put (ho.tidy keyI), hn]; simp [hs]
  have h1 := owns_size hw
  rw [hsz] at h1
  exact ⟨_, h1, usd_more hD ho.isMap h v, hsz⟩
theorem Usg.set {W W' : World} {b m k : Nat} {L : List Int} {D : DataW Unit} {v : Int} (hD : UsD D L) (hs : Maps.size D = L.length) (hk : k < L.length) (h : (Lit.int .i64 (k : Int)).wf = true) (ho : W.ownsMap Try.prog 3 (plainElem Try.prog 3) b m D)
    (hw : W'.ownsMap Try.prog 3 (plainElem Try.prog 3) b (m + 1) (D.put (.int .i64 (k : Int)) (.lit (.int .i64 v)))) : Usg W' b (L.set k v) := by
  have hn : has D (.int .i64 (k : Int)) = true := (hD.2 _).2 ⟨k, hk, rfl⟩
  have hsz : Maps.size (D.put (.int .i64 (k : Int)) (.lit (.int .i64 v))) = (L.set k v).length := by rw [size_put (ho.tidy keyI), hn]; simp [hs]
  have h1 := owns_size hw
  rw [hsz] at h1
  exact ⟨_, h1, usd_set hD ho.isMap hk h v, hsz⟩
/-- a usage that has just been made -/
def RetU (L : List Int) (w : World) (e : Ending) (w' : World) : Prop := ∃ b, e = .returned (.map (some b)) ∧ w.heap.size ≤ b ∧ Usg w' b L ∧ Below w.heap.size w w'

theorem ch9 {n : Int} {ss : List Lin} {L : List Int} (hn : netB n ss = true) (hc : chB ss L = true) : ∀ k, k < L.length → -9 ≤ ldAt L k ∧ ldAt L k ≤ 9 := fun k hk => by
  obtain ⟨hl, h⟩ := chB_true.1 hc
  have h1 := h k (by omega)
  have h2 := netB_at hn (k := k) (by omega)
  omega
set_option maxRecDepth 100000 in
set_option maxHeartbeats 1000000 in
theorem usageOf_c (A : Option Addr) (c : Nat) (L : List Int) (w : World) (ha : Arg w A c L) (hbd : ∀ k, k < L.length → -1000 ≤ ldAt L k ∧ ldAt L k ≤ 1000) :
    Calls Try.prog 30 #[.slice A L.length c] w (RetU L w) := by
  have hl := ha.len
  have HA := Lib.hid ha
  have Hbd := Lib.hid hbd
  clear ha hbd
  have hmm := @run_makeMap Try.prog
  go_enter Try.func30, Try.ntmps30
  go_wp2
  obtain ⟨B, hB⟩ : ∃ B, B = w.heap.size := ⟨_, rfl⟩
  have hmade : Usg (w.alloc (.map #[] 0)) B [] := ⟨.map [], by rw [hB]; exact World.ownsMap_made _ _ _ _, usd_nil, rfl⟩
  have Hmade := Lib.hid hmade
  have HB := Lib.hid hB
  rw [← hB]
  clear hB hmade hmm
  go_loopw [9] (fun i wr => ∃ k : Nat, k ≤ L.length ∧ i = .int .i64 k ∧ Usg wr B (L.take k) ∧ Below B w wr) (fun i _ => L.length - (intOf i).toNat)
  case atStart => exact ⟨0, Nat.zero_le _, rfl, Hmade.out, by have h := HB.out; exact ((Below.refl _ _).alloc (by omega) _)⟩
  case round =>
    obtain ⟨k, hk, rfl, hu, hb⟩ := hrel
    have Hb := Lib.hid hb
    clear hb
    obtain ⟨D, ho, hD, hs⟩ := hu
    have hlk : (L.take k).length = k := by simp; omega
    have HD := Lib.hid hD
    have HS := Lib.hid hs
    have HO := Lib.hid ho
    have HLK := Lib.hid hlk
    clear hD hs ho hlk
    by_cases hlt : k < L.length
    · obtain ⟨b1, off1, rfl, _, hb1, hd⟩ := (HA.out.go (Hb.out.mono (by have := HB.out; omega))).rd.at_ hlt
      have h1 := Hbd.out k hlt
      rw [show L[k]?.getD 0 = ldAt L k from rfl] at hd
      obtain ⟨l, hlk⟩ : ∃ l, ldAt L k = l := ⟨_, rfl⟩
      have hnx : L.take (k + 1) = L.take k ++ [l] := by
        rw [List.take_succ_eq_append_getElem hlt, ← hlk]
        simp [ldAt, hlt]
      rw [hlk] at hd h1
      have Hnx := Lib.hid hnx
      clear hlk hnx
      have g4 : (k : Int) < (L.length : Int) := by omega
      have hw0 : (Lit.int .i64 (k : Int)).wf = true := wf_of (by omega)
      have hw1 : (Lit.int .i64 l).wf = true := wf_of (by omega)
      have Hw0 := Lib.hid hw0
      have Hw1 := Lib.hid hw1
      clear hw0 hw1 h1
      go_wp2_with (first
        | (at_mapUpdate; refine wpList_mapUpdate_own _ rfl _ _ _ 51 rfl 3 3 keyI Try.underlying51 _ B _ _ rfl HO.out (by have := HLK.out; unfold maxLen; omega) _ _ _ rfl rfl (keyOf_int_mk Try.underlying3 Hw0.out) _ [] (plainElem_int Try.underlying3 Hw1.out) ?_; intro w1 hown1 hgrow1)
        | go_in)
      have Hown1 := Lib.hid hown1
      have Hgrow1 := Lib.hid hgrow1
      clear hown1 hgrow1
      go_roundw
      case rel =>
        have hB1 := Hb.out.size
        have hB2 := HB.out
        have hrow : ∀ r, some B = some r → B ≤ r := fun r e => by
          injection e with e
          omega
        refine ⟨k + 1, by omega, by go_num, ?_, Hb.out.grown Hgrow1.out (by omega) hrow⟩
        rw [Hnx.out]
        exact Usg.more HD.out HS.out HLK.out Hw0.out HO.out Hown1.out
      case measure => simp [intOf]; omega
    · obtain rfl : k = L.length := by omega
      have hu : Usg wr B L := by
        have h := (⟨D, HO.out, HD.out, HS.out⟩ : Usg wr B (L.take L.length))
        rwa [List.take_length] at h
      have Hu := Lib.hid hu
      clear hu
      go_wp2
      go_ret
      exact ⟨B, rfl, by have := HB.out; omega, Hu.out, Hb.out.mono (by have := HB.out; omega)⟩

end Go.Proofs.Ytnekjhpocfdpnaa
