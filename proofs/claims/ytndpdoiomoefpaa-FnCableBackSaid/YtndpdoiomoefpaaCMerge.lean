/-
  The chain's method merge.
-/
import Derived.Test.YtndpdoiomoefpaaCSplice
namespace Go.Proofs.Ytndpdoiomoefpaa
open Go.RowKit

/-- what is still to be made of the sections -/
def MInv (ss : List Sec) (D : List (Nat × Sec)) : List (Nat × Sec) → Prop
  | [] => secs D = plainL ss
  | y :: r => (secs r).foldl plainStep (secs D ++ [y.2]) = plainL ss
theorem MInv.start (ns : List (Nat × Sec)) : MInv (secs ns) [] ns := by
  cases ns with
  | nil => rfl
  | cons y r => rfl
theorem MInv.same {ss : List Sec} {D r : List (Nat × Sec)} {b : Nat} {s : Sec} {y : Nat × Sec} (h : MInv ss D ((b, s) :: y :: r)) (h1 : s.k = y.2.k) (h2 : s.o = y.2.o) : MInv ss D ((b, ⟨s.m + y.2.m, s.k, s.o⟩) :: r) := by
  have h' : (secs (y :: r)).foldl plainStep (secs D ++ [s]) = plainL ss := h
  rw [secs_cons, List.foldl_cons, plainStep_same _ h1 h2] at h'
  exact h'
theorem MInv.stop {ss : List Sec} {D r : List (Nat × Sec)} {b : Nat} {s : Sec} {y : Nat × Sec} (h : MInv ss D ((b, s) :: y :: r)) (hn : ¬ (s.k = y.2.k ∧ s.o = y.2.o)) : MInv ss (D ++ [(b, s)]) (y :: r) := by
  have h' : (secs (y :: r)).foldl plainStep (secs D ++ [s]) = plainL ss := h
  rw [secs_cons, List.foldl_cons, plainStep_other _ hn] at h'
  show (secs r).foldl plainStep (secs (D ++ [(b, s)]) ++ [y.2]) = plainL ss
  rw [secs_snoc]
  exact h'
theorem MInv.fin {ss : List Sec} {D : List (Nat × Sec)} {b : Nat} {s : Sec} (h : MInv ss D [(b, s)]) : MInv ss (D ++ [(b, s)]) [] := by
  show secs (D ++ [(b, s)]) = plainL ss
  rw [secs_snoc]
  exact h

/-- miles that stay small -/
def Good (L : List Sec) : Prop := (∀ s ∈ L, 0 ≤ s.m) ∧ milesL L ≤ 400
theorem nonneg_sum {L : List Sec} (h : ∀ s ∈ L, 0 ≤ s.m) : 0 ≤ milesL L := by
  induction L with
  | nil => simp [milesL_nil]
  | cons s r ih =>
    have := ih (fun x hx => h x (by simp [hx]))
    have := h s (by simp)
    rw [milesL_cons]
    omega
theorem Good.two {P r : List Sec} {s y : Sec} (h : Good (P ++ s :: y :: r)) : 0 ≤ s.m ∧ 0 ≤ y.m ∧ s.m + y.m ≤ 400 := by
  have h1 := nonneg_sum (L := P) (fun x hx => h.1 x (by simp [hx]))
  have h2 := nonneg_sum (L := r) (fun x hx => h.1 x (by simp [hx]))
  have h3 := h.1 s (by simp)
  have h4 := h.1 y (by simp)
  have h5 := h.2
  rw [milesL_append, milesL_cons, milesL_cons] at h5
  omega
theorem Good.join {P r : List Sec} {s y : Sec} (h : Good (P ++ s :: y :: r)) : Good (P ++ ⟨s.m + y.m, s.k, s.o⟩ :: r) := by
  have h3 := h.1 s (by simp)
  have h4 := h.1 y (by simp)
  have h5 := h.2
  rw [milesL_append, milesL_cons, milesL_cons] at h5
  refine ⟨fun x hx => ?_, ?_⟩
  · rcases List.mem_append.1 hx with hx | hx
    · exact h.1 x (by simp [hx])
    · rcases List.mem_cons.1 hx with rfl | hx
      · dsimp only
        omega
      · exact h.1 x (by simp [hx])
  · rw [milesL_append, milesL_cons]
    dsimp only
    omega

/-- THE WORLD IN THE MIDDLE OF merge: D is done, Y is ahead. -/
structure Mrg (P : Nat → Prop) (w wr : World) (C : Nat) (ns D Y : List (Nat × Sec)) : Prop where
  seg : Seg wr (D ++ Y)
  sub : List.Sublist ((D ++ Y).map (·.1)) (ns.map (·.1))
  first : nxt (D ++ Y) = nxt ns
  chain : ∃ a, wr.heap[C]? = some (.cells #[nxt ns, .pointer a] 89 (0, 0)) ∧ (D = [] → .pointer a = lst ns) ∧ (D ≠ [] → .pointer a = lst D)
  good : Good (secs (D ++ Y))
  frm : Frm P w wr

section
variable {P : Nat → Prop} {w wr : World} {C : Nat} {ns D r : List (Nat × Sec)} {b : Nat} {s : Sec} {y : Nat × Sec}
theorem Mrg.drewN {Y : List (Nat × Sec)} (h : Mrg P w wr C ns D Y) (n : Nat) : Mrg P w (wr.drewN n) C ns D Y :=
  ⟨h.seg.kept (fun _ _ => rfl), h.sub, h.first, h.chain, h.good, h.frm.drewN n⟩
theorem Mrg.mem {Y : List (Nat × Sec)} (h : Mrg P w wr C ns D Y) {x : Nat × Sec} (hx : x ∈ D ++ Y) : x.1 ∈ ns.map (·.1) := h.sub.subset (List.mem_map.2 ⟨x, hx, rfl⟩)
theorem Mrg.pOf {Y : List (Nat × Sec)} (h0 : Chain P w C ns) (h : Mrg P w wr C ns D Y) {x : Nat × Sec} (hx : x ∈ D ++ Y) : P x.1 := by
  obtain ⟨z, hz, e⟩ := List.mem_map.1 (h.mem hx)
  rw [← e]
  exact h0.2.2.2.2 z hz
theorem Mrg.neC {Y : List (Nat × Sec)} (h0 : Chain P w C ns) (h : Mrg P w wr C ns D Y) {x : Nat × Sec} (hx : x ∈ D ++ Y) : x.1 ≠ C := by
  obtain ⟨z, hz, e⟩ := List.mem_map.1 (h.mem hx)
  rw [← e]
  exact h0.ne z hz
theorem Mrg.nodup {Y : List (Nat × Sec)} (h0 : Chain P w C ns) (h : Mrg P w wr C ns D Y) : ((D ++ Y).map (·.1)).Nodup := h.sub.nodup h0.2.2.1

theorem Seg.set_mid {W : World} {s' : Sec} {nx' : Value} {r : List (Nat × Sec)} {b : Nat} : ∀ {D : List (Nat × Sec)}, (W' : World) → Seg W (D ++ (b, s) :: y :: r) → LinkAt W' b s' (nxt r) → (∀ x ∈ D, W'.heap[x.1]? = W.heap[x.1]?) → (∀ x ∈ r, W'.heap[x.1]? = W.heap[x.1]?) → Seg W' (D ++ (b, s') :: r)
  | [], W', h, hl, _, hr => ⟨hl, h.2.2.kept hr⟩
  | z :: D, W', h, hl, hD, hr => by
    refine ⟨?_, Seg.set_mid (nx' := nx') W' h.2 hl (fun x hx => hD x (by simp [hx])) hr⟩
    have h1 := h.1.kept (hD z (by simp))
    cases D <;> exact h1

/-- one link takes the next one in -/
theorem Mrg.take (h0 : Chain P w C ns) (h : Mrg P w wr C ns D ((b, s) :: y :: r)) :
    Mrg P w ((wr.setCell ⟨b, 0, none⟩ (.int .i64 (s.m + y.2.m))).setCell ⟨b, 3, none⟩ (nxt r)) C ns D ((b, ⟨s.m + y.2.m, s.k, s.o⟩) :: r) := by
  have hnd := h.nodup h0
  rw [List.map_append, List.map_cons, List.map_cons, List.nodup_append, List.nodup_cons, List.nodup_cons] at hnd
  have hD : ∀ x ∈ D, x.1 ≠ b := fun x hx => hnd.2.2 x.1 (List.mem_map.2 ⟨x, hx, rfl⟩) b (by simp)
  have hr : ∀ x ∈ r, x.1 ≠ b := fun x hx e => hnd.2.1.1 (by
    rw [List.mem_cons]
    exact .inr (by rw [← e]; exact List.mem_map.2 ⟨x, hx, rfl⟩))
  have hb : P b := h.pOf h0 (x := (b, s)) (by simp)
  have hbC : b ≠ C := h.neC h0 (x := (b, s)) (by simp)
  have hl := ((h.seg.mid.set0 (s.m + y.2.m)).set3 (nxt r))
  have hk : ∀ k, k ≠ b → ((wr.setCell ⟨b, 0, none⟩ (.int .i64 (s.m + y.2.m))).setCell ⟨b, 3, none⟩ (nxt r)).heap[k]? = wr.heap[k]? := fun k hkb =>
    (Below.heap_setCell _ ⟨b, 3, none⟩ _ k hkb).trans (Below.heap_setCell _ ⟨b, 0, none⟩ _ k hkb)
  obtain ⟨a, hc, ha1, ha2⟩ := h.chain
  refine ⟨Seg.set_mid (nx' := nxt r) _ h.seg hl (fun x hx => hk _ (hD x hx)) (fun x hx => hk _ (hr x hx)), ?_, ?_, ⟨a, (hk C (fun e => hbC e.symm)).trans hc, ha1, ha2⟩, ?_, (h.frm.setCell (p := ⟨b, 0, none⟩) hb _).setCell (p := ⟨b, 3, none⟩) hb _⟩
  · refine List.Sublist.trans ?_ h.sub
    rw [List.map_append, List.map_append, List.map_cons, List.map_cons, List.map_cons]
    exact (List.Sublist.refl _).append ((List.sublist_cons_self _ _).cons_cons _)
  · rw [← h.first]
    cases D <;> rfl
  · have := h.good
    rw [secs_append, secs_cons, secs_cons] at this
    rw [secs_append, secs_cons]
    exact this.join

/-- the link at hand is done -/
theorem Mrg.next (h0 : Chain P w C ns) (h : Mrg P w wr C ns D ((b, s) :: r)) :
    Mrg P w (wr.setCell ⟨C, 1, none⟩ (.pointer (some ⟨b, 0, none⟩))) C ns (D ++ [(b, s)]) r := by
  have e : D ++ [(b, s)] ++ r = D ++ (b, s) :: r := by simp
  obtain ⟨a, hc, _⟩ := h.chain
  refine ⟨?_, by rw [e]; exact h.sub, by rw [e]; exact h.first, ⟨some ⟨b, 0, none⟩, heap_set1 hc _, fun h => by simp at h, fun _ => by rw [lst_snoc]⟩, by rw [e]; exact h.good, h.frm.setCell (p := ⟨C, 1, none⟩) h0.2.2.2.1 _⟩
  rw [e]
  exact h.seg.far (p := ⟨C, 1, none⟩) (fun x hx => h.neC h0 hx) _

theorem Mrg.start (h0 : Chain P w C ns) (hg : Good (secs ns)) : Mrg P w w C ns [] ns := by
  obtain ⟨a, ha⟩ := lst_pointer ns
  exact ⟨h0.seg, List.Sublist.refl _, rfl, ⟨a, by rw [← ha]; exact h0.1, fun _ => ha.symm, fun h => absurd rfl h⟩, hg, Frm.refl _ _⟩
theorem Mrg.fin (h0 : Chain P w C ns) (h : Mrg P w wr C ns D []) : Chain P wr C D := by
  have hs := h.seg
  have hf := h.first
  have hnd := h.nodup h0
  rw [List.append_nil] at hs hf hnd
  obtain ⟨a, hc, ha1, ha2⟩ := h.chain
  refine ⟨?_, hs, hnd, h0.2.2.2.1, fun x hx => h.pOf h0 (by simp [hx])⟩
  rw [hc, ← hf]
  cases D with
  | nil =>
    have hns : ns = [] := by
      cases ns with
      | nil => rfl
      | cons z t => simp [nxt] at hf
    subst hns
    rw [ha1 rfl]
  | cons z t => rw [ha2 (by simp)]
end

end Go.Proofs.Ytndpdoiomoefpaa
