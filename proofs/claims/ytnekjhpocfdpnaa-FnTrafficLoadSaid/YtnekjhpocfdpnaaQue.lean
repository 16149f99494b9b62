/-
  A queue: a slice of cells that the call itself has made, from whatever place of its block on: the first cell is taken, another one is appended.
-/
import Derived.Test.YtnekjhpocfdpnaaMem
import Derived.Test.YtnekjhpocfdpnaaStkA
import Derived.Deep.AppendSrc
import Derived.ArgAppend
import Derived.Laws.IdiomCopy
namespace Go.Proofs.Ytnekjhpocfdpnaa
open Go.RowKit

/-- THE VALUE IS A SLICE OF THE CELLS ks; its block is one of 'own'; all that it has room for is there and is not frozen -/
def QAt (own : Nat → Prop) (W : World) (v : Value) (ks : List Value) : Prop :=
  ∃ A c, v = .slice A ks.length c ∧ ks.length ≤ c ∧ c ≤ maxLen ∧ (0 < c → ∃ g o, A = some ⟨g, o, none⟩ ∧ own g ∧ g < W.heap.size ∧ (∀ j, j < c → (W.cell? ⟨g, o + j, none⟩).isSome = true ∧ W.frozen? ⟨g, o + j, none⟩ = false) ∧ ∀ j u, ks[j]? = some u → W.cell? ⟨g, o + j, none⟩ = some u)
section
variable {own own' : Nat → Prop} {W W' : World} {v : Value} {ks : List Value}
theorem QAt.kept (h : QAt own W v ks) {row : Option Nat} (hg : W.grownBy W' row) (hr : ∀ r, row = some r → ¬ own r) : QAt own W' v ks := by
  obtain ⟨A, c, e, h1, h2, h3⟩ := h
  refine ⟨A, c, e, h1, h2, fun hc => ?_⟩
  obtain ⟨g, o, ea, ho, hl, hs, hk⟩ := h3 hc
  have hb : W'.heap[g]? = W.heap[g]? := hg.block g hl (fun e2 => hr g e2.symm ho)
  refine ⟨g, o, ea, ho, Nat.lt_of_lt_of_le hl hg.size, fun j hj => ?_, fun j u hu => ?_⟩
  · rw [World.cell?_of_block (a := ⟨g, o + j, none⟩) hb, World.frozen?_of_block (a := ⟨g, o + j, none⟩) hb]
    exact hs j hj
  · rw [World.cell?_of_block (a := ⟨g, o + j, none⟩) hb]
    exact hk j u hu
theorem QAt.below (h : QAt own W v ks) (hb : Below W.heap.size W W') : QAt own W' v ks := h.kept (grown_of_below hb none) (by simp)
theorem QAt.relabel (h : QAt own W v ks) (ho : ∀ g, g < W.heap.size → own g → own' g) : QAt own' W v ks := by
  obtain ⟨A, c, e, h1, h2, h3⟩ := h
  refine ⟨A, c, e, h1, h2, fun hc => ?_⟩
  obtain ⟨g, o, ea, hg, hl, hs, hk⟩ := h3 hc
  exact ⟨g, o, ea, ho g hl hg, hl, hs, hk⟩
theorem QAt.of_own {base : Nat} {e : TypeId} {n : Nat} (h : W.ownsRow base e 1 v n ks) (ho : ∀ g, base ≤ g → own g) : QAt own W v ks := by
  have hfull := h
  have hl : ks.length = n := by have := h.1; omega
  subst hl
  rcases h.2 with ⟨rfl, h0⟩ | ⟨g, cap, cur, rfl, hg, hgg, hn, hm, hs, ht⟩
  · exact ⟨none, 0, by rw [h0], by omega, by simp [maxLen], fun hp => by omega⟩
  · refine ⟨some ⟨g, 0, none⟩, cap, rfl, hn, hm, fun _ => ⟨g, 0, rfl, ho g hg, (Array.getElem?_eq_some_iff.1 hgg).1, fun j hj => ?_, fun j u hu => ?_⟩⟩
    · rw [Nat.zero_add]
      refine ⟨?_, by simp [World.frozen?, hgg]⟩
      rw [cell_of_row W g j _ _ _ hgg]
      have : j < cur.size := by omega
      simp [this]
    · rw [Nat.zero_add]
      have := hfull.cells (g := g) rfl j u hu
      rwa [show (⟨g, 0, none⟩ : Addr).add j = ⟨g, j, none⟩ by unfold Addr.add; split <;> simp_all] at this
theorem QAt.form (h : QAt own W v ks) (hp : 0 < ks.length) : ∃ g o c, v = .slice (some ⟨g, o, none⟩) ks.length c ∧ ks.length ≤ c ∧ c ≤ maxLen ∧ own g ∧ g < W.heap.size ∧ ∀ j u, ks[j]? = some u → W.cell? ⟨g, o + j, none⟩ = some u := by
  obtain ⟨A, c, e, h1, h2, h3⟩ := h
  obtain ⟨g, o, rfl, ho, hl, hs, hk⟩ := h3 (by omega)
  exact ⟨g, o, c, e, h1, h2, ho, hl, hk⟩
/-- the first cell is taken -/
theorem QAt.drop {g o c n : Nat} {k : Value} (h : QAt own W (.slice (some ⟨g, o, none⟩) n c) (k :: ks)) : QAt own W (.slice (some ⟨g, o + (if c = 1 then 0 else 1), none⟩) ks.length (c - 1)) ks := by
  obtain ⟨A, c', e, h1, h2, h3⟩ := h
  injection e with e1 e2 e3
  subst e1; subst e3
  simp only [List.length_cons] at h1
  refine ⟨_, _, rfl, by omega, by omega, fun hc => ?_⟩
  obtain ⟨g', o', e, ho, hl, hs, hk⟩ := h3 (by omega)
  injection e with e
  injection e with e4 e5 _
  subst e4; subst e5
  rw [if_neg (by omega)]
  refine ⟨g, o + 1, rfl, ho, hl, fun j hj => ?_, fun j u hu => ?_⟩
  · rw [Nat.add_assoc, Nat.add_comm 1 j]
    exact hs (j + 1) (by omega)
  · rw [Nat.add_assoc, Nat.add_comm 1 j]
    exact hk (j + 1) u (by simpa using hu)
end

section
variable {P : Program} {own : Nat → Prop} {w : World}
theorem run_append_queue (t ty e : TypeId) (i : TypeInfo) (z : Value) (bytes : Nat) (ht : P.underlying t = some (.slice e)) (hi : P.info? e = some i) (hz : i.zero = some z)
    (hsize : i.size = 1) (hby : i.bytes = bytes) (hzs : z.cells.size = 1)
    {v : Value} {ks : List Value} (h : QAt own w v ks) (a : Addr) (c : Nat) (x : Value) (hx : w.cell? a = some x) (ha : a.spot = none) (h1 : x.oneCell' = true)
    (h63 : ks.length + 1 ≤ maxLen) (hbytes : (ks.length + 1) * bytes ≤ 140737488355328) :
    ∃ v' w', (Builtin.append_ #[t, t] ty #[v, .slice (some a) 1 c]).run P w = .ok v' w' ∧ QAt (fun g => own g ∨ w.heap.size ≤ g) w' v' (ks ++ [x]) ∧ ∃ row, w.grownBy w' row ∧ ∀ r, row = some r → own r := by
  have hnews : ∀ j u, [x][j]? = some u → w.cell? (a.add j) = some u := by
    intro j u hu
    cases j with
    | zero =>
      simp at hu
      subst hu
      rw [show a.add 0 = a by obtain ⟨b, o, s⟩ := a; subst ha; rfl]
      exact hx
    | succ j => simp at hu
  have hone : ∀ u ∈ [x], u.oneCell' = true := by intro u hu; simp at hu; rw [hu]; exact h1
  have hnew : ∀ {w' : World} {v' : Value}, w'.ownsRow w.heap.size e 1 v' (ks.length + 1) (ks ++ [x]) → QAt (fun g => own g ∨ w.heap.size ≤ g) w' v' (ks ++ [x]) := fun ho => QAt.of_own ho (fun g hg => .inr hg)
  obtain ⟨A, cap, rfl, hle, hcm, hin⟩ := h
  rcases Nat.eq_zero_or_pos cap with h0 | hp
  · subst h0
    obtain rfl : ks = [] := List.eq_nil_of_length_eq_zero (by omega)
    cases A with
    | none =>
      obtain ⟨v', w', hrun, r1, r2, _⟩ := run_append_own (P := P) w w.heap.size t ty e i z 1 bytes ht hi hz hsize hby hzs (by omega) (.slice none 0 0) 0 [] (World.ownsRow_nil w _ e 1) a 1 c [x] rfl hnews hone (by simpa using h63) (by simpa using hbytes) (Nat.le_refl _)
      exact ⟨v', w', hrun, hnew (by simpa using r1), none, r2, by simp⟩
    | some a' =>
      obtain ⟨v', w', hrun, r1, r2⟩ := run_append_arg_grows (P := P) w t ty e i z 1 bytes ht hi hz hsize hby hzs (by omega) a' 0 0 [] (by simp) (by intro _ _ h'; simp at h') a 1 c [x] rfl hnews (by omega) (by simpa using h63) (by simpa using hbytes)
      exact ⟨v', w', hrun, hnew (by simpa using r1), none, r2, by simp⟩
  · obtain ⟨g, o, rfl, ho, hl, hs, hk⟩ := hin hp
    by_cases hroom : ks.length + 1 ≤ cap
    · have hrun := run_append_room_cells (P := P) w t ty e i ht hi g o ks.length cap a 1 c [x] (by rw [hsize]; rfl) hnews hone hroom (fun j hj => by
          have hj0 : j = 0 := by simpa using hj
          subst hj0
          rw [hsize, Nat.mul_one]
          exact (hs ks.length (by omega)).1) (fun j hj => by
          have hj0 : j = 0 := by simpa using hj
          subst hj0
          rw [hsize, Nat.mul_one]
          exact (hs ks.length (by omega)).2)
      rw [hsize, Nat.mul_one] at hrun
      have hsets : w.setCells g (o + ks.length) [x] = w.setCell ⟨g, o + ks.length, none⟩ x := rfl
      rw [hsets] at hrun
      have hgr : w.grownBy (w.setCell ⟨g, o + ks.length, none⟩ x) (some g) :=
        ⟨rfl, rfl, rfl, by show w.heap.size ≤ (w.heap.modify g _).size; simp, fun k _ hk => Below.heap_setCell _ _ _ k (fun e => hk (by rw [e]))⟩
      have hout : ∀ j, j ≠ ks.length → (w.setCell ⟨g, o + ks.length, none⟩ x).cell? ⟨g, o + j, none⟩ = w.cell? ⟨g, o + j, none⟩ := fun j hj => by
        rw [← hsets]
        exact World.cell?_setCells_out g [x] (o + ks.length) w ⟨g, o + j, none⟩ (fun _ _ => by
          show o + j < o + ks.length ∨ o + ks.length + [x].length ≤ o + j
          simp only [List.length_cons, List.length_nil]; omega)
      have hinn : (w.setCell ⟨g, o + ks.length, none⟩ x).cell? ⟨g, o + ks.length, none⟩ = some x := by
        have := World.cell?_setCells_in g [x] (o + ks.length) w (fun j hj => by
          have hj0 : j = 0 := by simpa using hj
          subst hj0
          exact (hs ks.length (by omega)).1) 0 (by simp)
        rw [hsets] at this
        exact this
      refine ⟨_, _, hrun, ⟨_, cap, by rw [List.length_append]; rfl, by simpa using hroom, hcm, fun _ => ⟨g, o, rfl, .inl ho, Nat.lt_of_lt_of_le hl hgr.size, fun j hj => ?_, fun j u hu => ?_⟩⟩, some g, hgr, fun r e => by injection e with e; rw [← e]; exact ho⟩
      · constructor
        · by_cases hj2 : j = ks.length
          · rw [hj2, hinn]; rfl
          · rw [hout j hj2]; exact (hs j hj).1
        · have := World.frozen?_setCells g [x] (o + ks.length) w ⟨g, o + j, none⟩
          rw [hsets] at this
          rw [this]; exact (hs j hj).2
      · by_cases hj2 : j = ks.length
        · subst hj2
          rw [List.getElem?_append_right (by omega), Nat.sub_self] at hu
          simp at hu
          rw [hinn, hu]
        · have hjl : j < ks.length := by
            have := (List.getElem?_eq_some_iff.1 hu).1
            simp at this; omega
          rw [List.getElem?_append_left hjl] at hu
          rw [hout j hj2]
          exact hk j u hu
    · obtain ⟨v', w', hrun, r1, r2⟩ := run_append_arg_grows (P := P) w t ty e i z 1 bytes ht hi hz hsize hby hzs (by omega) ⟨g, o, none⟩ ks.length cap ks (by omega) (fun j u hu => by
          rw [show (⟨g, o, none⟩ : Addr).add j = ⟨g, o + j, none⟩ by unfold Addr.add; split <;> simp_all]
          exact hk j u hu) a 1 c [x] rfl hnews (by omega) (by simpa using h63) (by simpa using hbytes)
      exact ⟨v', w', hrun, hnew r1, none, r2, by simp⟩

theorem wpList_append_queue {ops : Array Oper} {rest : List Oper} {o : Oper} {a : Act} {Q : Exit → Act → World → Prop} (hgd : o.guard = none) (s x : Operand) (t : TypeId)
    (hop : o.op = .call { callee := .builtin .append, args := #[s, x], argTypes := #[t, t] })
    (e : TypeId) (i : TypeInfo) (z : Value) (bytes : Nat) (ht : P.underlying t = some (.slice e)) (hi : P.info? e = some i) (hz : i.zero = some z)
    (hsize : i.size = 1) (hby : i.bytes = bytes) (hzs : z.cells.size = 1)
    {v : Value} {ks : List Value} (hs : a.eval s = v) (h : QAt own w v ks) (ad : Addr) (c : Nat) (y : Value) (hxa : a.eval x = .slice (some ad) 1 c) (hx : w.cell? ad = some y) (ha : ad.spot = none) (h1 : y.oneCell' = true)
    (h63 : ks.length + 1 ≤ maxLen) (hbytes : (ks.length + 1) * bytes ≤ 140737488355328)
    (hK : ∀ v' w', QAt (fun g => own g ∨ w.heap.size ≤ g) w' v' (ks ++ [y]) → (∃ row, w.grownBy w' row ∧ ∀ r, row = some r → own r) → wpList P ops Q rest (a.put o.dst v') w') : wpList P ops Q (o :: rest) a w := by
  refine wpList_plain hgd fun K hK' => ?_
  obtain ⟨v', w', hr, h2, h3⟩ := run_append_queue (P := P) t o.type e i z bytes ht hi hz hsize hby hzs h ad c y hx ha h1 h63 hbytes
  unfold Oper.wp execOp
  simp only [hop, resolve, invoke, builtin, Sem.run_bind, Sem.run_pure, Result.andThen_ok, List.map_toArray, List.map_cons, List.map_nil, hs, hxa, hr]
  exact hK' _ _ (hK v' w' h2 h3)
end

end Go.Proofs.Ytnekjhpocfdpnaa
