/-
  append to an own slice: the answer lies where it lay, or in a new block. And a slice of own slices: each in blocks of its own.
-/
import Derived.Test.YtgnolhikphoagaaDoorBase0
import Derived.Laws.AppendOwn
import Derived.Laws.OwnMore
namespace Go.Proofs.YtgnolhikphoagaaDoor
open Go.RowKit

section
variable {P : Program} (w : World)
theorem run_append_new (base : Nat) (t ty e : TypeId) (i : TypeInfo) (z : Value) (size bytes : Nat) (ht : P.underlying t = some (.slice e)) (hi : P.info? e = some i) (hz : i.zero = some z)
    (hsize : i.size = size) (hby : i.bytes = bytes) (hzs : z.cells.size = size) (hsz : 0 < size)
    (v : Value) (n : Nat) (xs : List Value) (hown : w.ownsRow base e size v n xs)
    (a : Addr) (m c : Nat) (news : List Value) (hl : news.length = m * size) (hnews : ∀ j u, news[j]? = some u → w.cell? (a.add j) = some u) (h1 : ∀ u ∈ news, u.oneCell' = true)
    (h63 : n + m ≤ maxLen) (hbytes : (n + m) * bytes ≤ 140737488355328) :
    ∀ v' w', (Builtin.append_ #[t, t] ty #[v, .slice (some a) m c]).run P w = .ok v' w' → ∀ g, v'.ownBlock = some g → v.ownBlock = some g ∨ w.heap.size ≤ g := by
  intro v' w' hrun g hg
  rcases hown.2 with ⟨rfl, rfl⟩ | ⟨g0, cap, cur, rfl, hbg, hgg, hnc, hcm, hcs, htake⟩
  · have hx : xs = [] := List.eq_nil_of_length_eq_zero (by simpa using hown.1)
    subst hx
    obtain ⟨v2, w2, hr, h2, _, _⟩ := run_append_own (P := P) w w.heap.size t ty e i z size bytes ht hi hz hsize hby hzs hsz (.slice none 0 0) 0 [] (World.ownsRow_nil _ _ _ _) a m c news hl hnews h1 h63 hbytes (Nat.le_refl _)
    rw [hrun] at hr
    injection hr with e1 e2
    subst e1
    exact .inr (h2.lt g hg).1
  · subst hsize
    subst hby
    have hsmall : n + m ≤ 9223372036854775807 := by simp only [maxLen] at h63; omega
    by_cases hroom : n + m ≤ cap
    · have hfit : n * i.size + news.length ≤ cur.size := by rw [hl, hcs, ← Nat.add_mul]; exact Nat.mul_le_mul_right _ hroom
      have hr := run_append_room (P := P) w t ty e i ht hi g0 n cap cur hgg a m c news hl hnews h1 hroom hfit
      rw [hrun] at hr
      injection hr with e1 e2
      subst e1
      exact .inl hg
    · have holds : ∀ j u, xs[j]? = some u → w.cell? ((⟨g0, 0, none⟩ : Addr).add j) = some u := hown.cells (g := g0) rfl
      have hr := run_append_grow (P := P) w t ty e i z ht hi hz ⟨g0, 0, none⟩ n cap xs hown.1 holds a m c news hl hnews (by omega) (by omega) (growslice_fits (by omega) hbytes)
      rw [hrun] at hr
      injection hr with e1 e2
      subst e1
      simp [Value.ownBlock] at hg
      exact .inr (by omega)
theorem wpList_append_new {ops : Array Oper} {rest : List Oper} {o : Oper} {a : Act} {Q : Exit → Act → World → Prop} (hgd : o.guard = none) (s x : Operand) (t : TypeId)
    (ho : o.op = .call { callee := .builtin .append, args := #[s, x], argTypes := #[t, t] })
    (base : Nat) (e : TypeId) (i : TypeInfo) (z : Value) (size bytes : Nat) (ht : P.underlying t = some (.slice e)) (hi : P.info? e = some i) (hz : i.zero = some z)
    (hsize : i.size = size) (hby : i.bytes = bytes) (hzs : z.cells.size = size) (hsz : 0 < size)
    (v : Value) (n : Nat) (xs : List Value) (hs : a.eval s = v) (hown : w.ownsRow base e size v n xs)
    (ad : Addr) (m c : Nat) (news : List Value) (hx : a.eval x = .slice (some ad) m c) (hl : news.length = m * size) (hnews : ∀ j u, news[j]? = some u → w.cell? (ad.add j) = some u) (h1 : ∀ u ∈ news, u.oneCell' = true)
    (h63 : n + m ≤ maxLen) (hbytes : (n + m) * bytes ≤ 140737488355328) (hbase : base ≤ w.heap.size)
    (h : ∀ v' w', w'.ownsRow base e size v' (n + m) (xs ++ news) → w.grownBy w' v.ownBlock → (∀ g, v'.ownBlock = some g → v.ownBlock = some g ∨ w.heap.size ≤ g) → wpList P ops Q rest (a.put o.dst v') w') : wpList P ops Q (o :: rest) a w := by
  refine wpList_plain hgd fun K hK => ?_
  obtain ⟨v', w', hr, h2, h3, _⟩ := run_append_own (P := P) w base t o.type e i z size bytes ht hi hz hsize hby hzs hsz v n xs hown ad m c news hl hnews h1 h63 hbytes hbase
  have h4 := run_append_new (P := P) w base t o.type e i z size bytes ht hi hz hsize hby hzs hsz v n xs hown ad m c news hl hnews h1 h63 hbytes v' w' hr
  unfold Oper.wp execOp
  simp only [ho, resolve, invoke, builtin, Sem.run_bind, Sem.run_pure, Result.andThen_ok, List.map_toArray, List.map_cons, List.map_nil, hs, hx, hr]
  exact hK _ _ (h v' w' h2 h3 h4)
end

theorem one_new (w : World) (t : TypeId) (x : Value) : ∀ j u, [x][j]? = some u → (w.alloc (.cells #[x] t)).cell? ((⟨w.heap.size, 0, none⟩ : Addr).add j) = some u := by
  intro j u hu
  cases j with
  | zero =>
    simp at hu
    subst hu
    have h : (w.alloc (.cells #[x] t)).heap[w.heap.size]? = some (.cells #[x] t) := heap_alloc_new w _
    rw [show (⟨w.heap.size, 0, none⟩ : Addr).add 0 = ⟨w.heap.size, 0, none⟩ from rfl]
    exact cell_of_row _ _ 0 #[x] t (0, 0) h
  | succ j => simp at hu

theorem own_succ {W : World} {base : Nat} {e : TypeId} {size : Nat} {v : Value} {k : Nat} {xs : List Value} (h : W.ownsRow base e size v (k + 1) xs) : ∃ g cap, v = .slice (some ⟨g, 0, none⟩) (k + 1) cap := by
  rcases h.2 with ⟨_, h0⟩ | ⟨g, cap, cur, e, _⟩
  · omega
  · exact ⟨g, cap, e⟩

theorem own_put {w : World} {base : Nat} {t : TypeId} {v : Value} {y : List Int} (h : w.ownsRow base t 1 v y.length (y.map (Value.int .i64))) {i : Nat} (hlt : i < y.length) (k : Int) :
    ∃ g cap, v = .slice (some ⟨g, 0, none⟩) y.length cap ∧ w.cell? ⟨g, i, none⟩ = some (.int .i64 y[i]) ∧ w.frozen? ⟨g, i, none⟩ = false ∧ base ≤ g ∧
      (w.setCell ⟨g, i, none⟩ (.int .i64 k)).ownsRow base t 1 (.slice (some ⟨g, 0, none⟩) (y.set i k).length cap) (y.set i k).length ((y.set i k).map (Value.int .i64)) ∧ w.grownBy (w.setCell ⟨g, i, none⟩ (.int .i64 k)) (some g) := by
  obtain ⟨g, cap, hvg⟩ : ∃ g cap, v = .slice (some ⟨g, 0, none⟩) y.length cap := by
    rcases h.2 with ⟨h1, h2⟩ | ⟨g, cap, cur, h1, _⟩
    · omega
    · exact ⟨g, cap, h1⟩
  subst hvg
  have hst := h.stored i (.int .i64 k)
  rw [← List.map_set] at hst
  have hck := h.cellAt i (by omega)
  rw [List.getElem?_map, List.getElem?_eq_getElem hlt] at hck
  simp only [Option.map_some] at hck
  have hsl : (y.set i k).length = y.length := List.length_set
  exact ⟨g, cap, rfl, hck, h.frozenAt i, (h.lt g rfl).1, by rw [hsl]; exact hst.1, hst.2⟩

/-! ### blocks that belong to somebody -/

/-- THE VALUE's BLOCK, if it has one, BELONGS TO k -/
def Lab (ow : Nat → Nat) (k : Nat) (v : Value) : Prop := ∀ g, v.ownBlock = some g → ow g = k
/-- from B on, all blocks belong to k -/
def owAt (ow : Nat → Nat) (B k : Nat) : Nat → Nat := fun g => if B ≤ g then k else ow g
theorem Lab.at_old {ow : Nat → Nat} {k j B : Nat} {v : Value} (h : Lab ow k v) (hb : ∀ g, v.ownBlock = some g → g < B) : Lab (owAt ow B j) k v := fun g hg => by
  unfold owAt
  rw [if_neg (by have := hb g hg; omega)]
  exact h g hg
theorem Lab.at_new {ow : Nat → Nat} {k B : Nat} {v v' : Value} (h : Lab ow k v) (hn : ∀ g, v'.ownBlock = some g → v.ownBlock = some g ∨ B ≤ g) : Lab (owAt ow B k) k v' := fun g hg => by
  unfold owAt
  split
  · rfl
  · rcases hn g hg with h1 | h1
    · exact h g h1
    · omega
theorem Lab.nil (ow : Nat → Nat) (k : Nat) : Lab ow k (.slice none 0 0) := fun g h => by simp [Value.ownBlock] at h
theorem Lab.far {ow : Nat → Nat} {j k : Nat} {v v' : Value} (h : Lab ow j v) (h' : Lab ow k v') (hne : j ≠ k) : v.ownBlock = none ∨ v.ownBlock ≠ v'.ownBlock := by
  cases e : v.ownBlock with
  | none => exact .inl rfl
  | some g => exact .inr fun e2 => hne (by rw [← h g e, h' g e2.symm])

/-- PILES: a slice value that the call itself has made, each of its cells a slice of ints of its own. t: ints; u: the element's type. -/
def Hold (t u : TypeId) (lo : Nat) (ow : Nat → Nat) (W : World) (sv : Value) (Q : List (List Int)) : Prop :=
  ∃ svs : List Value, svs.length = Q.length ∧ W.ownsRow lo u 1 sv Q.length svs ∧ Lab ow 0 sv ∧
    ∀ k z, Q[k]? = some z → ∃ v, svs[k]? = some v ∧ W.ownsRow lo t 1 v z.length (z.map (Value.int .i64)) ∧ Lab ow (k + 2) v
/-- .. as they are read -/
def HRd (W : World) (A : Option Addr) (Q : List (List Int)) : Prop :=
  ∀ k z, Q[k]? = some z → ∃ b off B c, A = some ⟨b, off, none⟩ ∧ b < W.heap.size ∧ W.cell? ⟨b, off + k, none⟩ = some (.slice B z.length c) ∧ Rd 0 W.heap.size W B z

section
variable {t u : TypeId} {lo : Nat} {ow : Nat → Nat} {W W' : World} {sv : Value} {Q : List (List Int)}
theorem HRd.go {A : Option Addr} (h : HRd W A Q) (hb : Below W.heap.size W W') : HRd W' A Q := fun k z hz => by
  obtain ⟨b, off, B, c, e, h1, h2, h3⟩ := h k z hz
  exact ⟨b, off, B, c, e, Nat.lt_of_lt_of_le h1 hb.size, (hb.cell (p := ⟨b, off + k, none⟩) h1).trans h2, (h3.below hb).more (Nat.le_refl _) hb.size⟩
theorem Hold.form (h : Hold t u lo ow W sv Q) : ∃ A c, sv = .slice A Q.length c ∧ Q.length ≤ c ∧ c ≤ maxLen := by
  obtain ⟨svs, _, ho, _⟩ := h
  rcases ho.2 with ⟨rfl, h0⟩ | ⟨g, cap, cur, rfl, _, _, hn, hm, _⟩
  · exact ⟨none, 0, by rw [h0], by omega, by simp [maxLen]⟩
  · exact ⟨_, cap, rfl, hn, hm⟩
theorem Hold.nil (t u : TypeId) (lo : Nat) (ow : Nat → Nat) (W : World) : Hold t u lo ow W (.slice none 0 0) [] :=
  ⟨[], rfl, W.ownsRow_nil _ _ _, Lab.nil _ _, fun k z h => by simp at h⟩
theorem Hold.rd {A : Option Addr} {n c : Nat} (h : Hold t u lo ow W (.slice A n c) Q) : HRd W A Q := fun k z hz => by
  obtain ⟨svs, hl, ho, _, hp⟩ := h
  obtain ⟨v, hv, hvo, _⟩ := hp k z hz
  have hk : k < Q.length := (List.getElem?_eq_some_iff.1 hz).1
  rcases ho.2 with ⟨_, h0⟩ | ⟨g, cap, cur, e, hg, hgg, hn, hm, _⟩
  · omega
  · injection e with e1 e2 e3
    subst e1; subst e2; subst e3
    have hc := ho.cellAt k (by omega)
    rw [hv] at hc
    have ho2 := Ow.of_own hvo
    obtain ⟨B, c2, e4, _, _, hr⟩ := ho2.form
    subst e4
    exact ⟨g, 0, B, c2, rfl, (Array.getElem?_eq_some_iff.1 hgg).1, by rw [Nat.zero_add]; exact hc, hr.more (Nat.zero_le _) (Nat.le_refl _)⟩
/-- nothing of theirs is written -/
theorem Hold.go (h : Hold t u lo ow W sv Q) (hb : Below W.heap.size W W') : Hold t u lo ow W' sv Q := by
  obtain ⟨svs, hl, ho, h0, hp⟩ := h
  refine ⟨svs, hl, own_below ho hb, h0, fun k z hz => ?_⟩
  obtain ⟨v, hv, hvo, hvl⟩ := hp k z hz
  exact ⟨v, hv, own_below hvo hb, hvl⟩
/-- another one's block is written, or new ones are made -/
theorem Hold.kept {v : Value} {j : Nat} (h : Hold t u lo ow W sv Q) (hl : Lab ow j v) (hj : j = 1 ∨ Q.length + 2 ≤ j) (hg : W.grownBy W' v.ownBlock) : Hold t u lo ow W' sv Q := by
  obtain ⟨svs, hls, ho, h0, hp⟩ := h
  refine ⟨svs, hls, ho.kept hg (h0.far hl (by omega)), h0, fun k z hz => ?_⟩
  obtain ⟨x, hx, hxo, hxl⟩ := hp k z hz
  have hk : k < Q.length := (List.getElem?_eq_some_iff.1 hz).1
  exact ⟨x, hx, hxo.kept hg (hxl.far hl (by omega)), hxl⟩
theorem Hold.label {j : Nat} (h : Hold t u lo ow W sv Q) : Hold t u lo (owAt ow W.heap.size j) W sv Q := by
  obtain ⟨svs, hls, ho, h0, hp⟩ := h
  refine ⟨svs, hls, ho, h0.at_old fun g hg => (ho.lt g hg).2, fun k z hz => ?_⟩
  obtain ⟨x, hx, hxo, hxl⟩ := hp k z hz
  exact ⟨x, hx, hxo, hxl.at_old fun g hg => (hxo.lt g hg).2⟩

/-- WHAT push AT THE PILE k FINDS -/
theorem Hold.at_ {A : Option Addr} {n c : Nat} (h : Hold t u lo ow W (.slice A n c) Q) {k : Nat} {z : List Int} (hz : Q[k]? = some z) :
    ∃ g v, A = some ⟨g, 0, none⟩ ∧ W.cell? ⟨g, k, none⟩ = some v ∧ W.frozen? ⟨g, k, none⟩ = false ∧ W.ownsRow lo t 1 v z.length (z.map (Value.int .i64)) ∧ v.ownBlock ≠ some g ∧ lo ≤ g ∧ g < W.heap.size ∧ Lab ow (k + 2) v := by
  obtain ⟨svs, hl, ho, h0, hp⟩ := h
  obtain ⟨v, hv, hvo, hvl⟩ := hp k z hz
  have hk : k < Q.length := (List.getElem?_eq_some_iff.1 hz).1
  rcases ho.2 with ⟨_, h0⟩ | ⟨g, cap, cur, e, hg, hgg, hn, hm, _⟩
  · omega
  · injection e with e1 e2 e3
    subst e1; subst e2; subst e3
    have hc := ho.cellAt k (by omega)
    rw [hv] at hc
    refine ⟨g, v, rfl, hc, ho.frozenAt k, hvo, fun e => ?_, hg, (Array.getElem?_eq_some_iff.1 hgg).1, hvl⟩
    have h1 := hvl g e
    have h2 := h0 g rfl
    omega
/-- .. AND LEAVES -/
theorem Hold.pushed {g n c : Nat} {v v' : Value} {W1 : World} {z z' : List Int} {k : Nat} (h : Hold t u lo ow W (.slice (some ⟨g, 0, none⟩) n c) Q) (hz : Q[k]? = some z) (hvl : Lab ow (k + 2) v)
    (hg : W.grownBy W1 v.ownBlock) (ho' : W1.ownsRow lo t 1 v' z'.length (z'.map (Value.int .i64))) (hn : ∀ g, v'.ownBlock = some g → v.ownBlock = some g ∨ W.heap.size ≤ g) :
    Hold t u lo (owAt ow W.heap.size (k + 2)) (W1.setCell ⟨g, k, none⟩ v') (.slice (some ⟨g, 0, none⟩) n c) (Q.set k z') := by
  have hfull := h
  obtain ⟨svs, hls, ho, h0, hp⟩ := h
  have hk : k < Q.length := (List.getElem?_eq_some_iff.1 hz).1
  have hnl : n = Q.length := by
    rcases ho.2 with ⟨e, _⟩ | ⟨_, _, _, e, _⟩
    · cases e
    · injection e
  subst hnl
  have ho1 : W1.ownsRow lo u 1 (.slice (some ⟨g, 0, none⟩) Q.length c) Q.length svs := ho.kept hg (h0.far hvl (by omega))
  have hst := ho1.stored k v'
  have hgs : W1.grownBy (W1.setCell ⟨g, k, none⟩ v') (some g) := hst.2
  have hlt := (ho.lt g rfl).2
  have hsz := hg.size
  refine ⟨svs.set k v', by simp [hls], by rw [List.length_set]; exact hst.1, ?_, fun j y hy => ?_⟩
  · exact h0.at_old fun g2 hg2 => by
      simp [Value.ownBlock] at hg2
      omega
  · rw [List.getElem?_set] at hy
    by_cases hkj : k = j
    · subst hkj
      rw [if_pos rfl, if_pos hk] at hy
      injection hy with hy
      subst hy
      refine ⟨v', by rw [List.getElem?_set_self (by omega)], ho'.kept hgs ?_, hvl.at_new hn⟩
      cases e : v'.ownBlock with
      | none => exact .inl rfl
      | some g2 =>
        refine .inr fun e2 => ?_
        have e3 : g2 = g := by simpa using e2
        rcases hn g2 e with h3 | h3
        · have h4 := hvl g2 h3
          have h5 : ow g = 0 := h0 g rfl
          rw [e3] at h4
          omega
        · omega
    · rw [if_neg hkj] at hy
      obtain ⟨x, hx, hxo, hxl⟩ := hp j y hy
      refine ⟨x, by rw [List.getElem?_set_ne hkj]; exact hx, (hxo.kept hg (hxl.far hvl (by omega))).kept hgs ?_, hxl.at_old fun g2 hg2 => (hxo.lt g2 hg2).2⟩
      exact (hxl.far h0 (by omega)).imp id fun h3 e => h3 (by rw [e]; rfl)
/-- another own slice stays -/
theorem push_far {g k j m : Nat} {v v' x : Value} {W1 : World} {e : TypeId} {xs : List Value} {s : Value} (hs : s.ownBlock = some g) (h0 : Lab ow 0 s) (hvl : Lab ow (k + 2) v) (hg : W.grownBy W1 v.ownBlock)
    (hxo : W.ownsRow lo e 1 x m xs) (hxl : Lab ow j x) (hj : j = 1) : (W1.setCell ⟨g, k, none⟩ v').ownsRow lo e 1 x m xs ∧ Lab (owAt ow W.heap.size (k + 2)) j x := by
  refine ⟨(hxo.kept hg (hxl.far hvl (by omega))).kept (row := some g) ⟨rfl, rfl, rfl, by simp [World.setCell], fun i _ hne => Below.heap_setCell _ ⟨g, k, none⟩ v' i fun e => hne (by rw [e])⟩ ?_, hxl.at_old fun g2 hg2 => (hxo.lt g2 hg2).2⟩
  rw [← hs]
  exact hxl.far h0 (by omega)
end

end Go.Proofs.YtgnolhikphoagaaDoor
