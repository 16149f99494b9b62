/-
  A range over a function whose iterator writes its own memory between the rounds: what a round asks and leaves is told of what is handed over. (Outermost loops; the body ends as it should.)
-/
import Derived.RangeFuncNested
import Derived.RangeFuncBound
import Derived.RangeFuncCalls
import Derived.RangeFuncLeaves
import Derived.RangeFuncBox
namespace Go.Proofs.YtbcgglkgdjafiaaDoor
open Go.RowKit

/-- the loop's own two blocks lie as they lay -/
def TwoLie (b : Nat) (W W' : World) : Prop := ∀ k, b ≤ k → k < b + 2 → W'.heap[k]? = W.heap[k]?
theorem TwoLie.trans {b : Nat} {A B C : World} (h : TwoLie b A B) (k : TwoLie b B C) : TwoLie b A C := fun i h1 h2 => (k i h1 h2).trans (h i h1 h2)

theorem wpIn_rangeFunc_rounds {X : Type} {P : Program} {F : Fence} {n : Nat} {g : Operand} {ps : Array Tmp} {assign body : Code} {Q : Exit → Act → World → Prop} {a : Act} {w : World}
    (hro : F.round = none) (h1 : 1 ≤ n) {gf : Nat} {lb : Array Value} (hg : a.eval g = .func (.func gf) #[] lb) (hFg : F.fn gf) (eg : ∀ args w, (callFunc gf args).run P w = .ok (.enter gf args) w)
    (val : X → Array Value) (A B : X → World → Prop) (E : World → Prop) (a₁ : X → Act)
    (hps : ∀ x, (val x).size = ps.size)
    (hbeg : ∀ x W o, A x W → A x (W.putObj (w.heap.size + 1) o)) (hend : ∀ x W o, B x W → B x (W.putObj (w.heap.size + 1) o)) (hfin : ∀ W o, E W → E (W.putObj (w.heap.size + 1) o))
    (hassign : ∀ (l : Nat) (x : X) (W : World) (K : Act → World → Prop), K (a₁ x) W →
      assign.wpIn (F.inRound l) (n - 1 - 1) P (Exit.then K (fun _ _ _ => False)) { tmps := ((ps.zip (val x)).foldl (fun t (p, v) => t.setIfInBounds p v) a.tmps), defers := [] } W)
    (hbody : ∀ (l : Nat) (x : X) (W : World), A x W → body.wpIn (F.inRound l) (n - 1 - 1) P (fun e _ W' => e = .normal ∧ TwoLie w.heap.size W W' ∧ B x W') (a₁ x) W)
    (hiter : ∀ (R : World → Prop) (W1 : World), Below w.heap.size w W1 → W1.heap.size = w.heap.size + 2 → (∀ W W', R W → TwoLie w.heap.size W W' → R W') → R W1 →
      (∀ x W, R W → A x W → YieldAt F (n - 1 - 1) P (w.heap.size + 1) (val x) W fun e W' => e = .returned (.bool true) ∧ R W' ∧ B x W') →
      CallsIn F (n - 1) P gf (#[.func (.yield (w.heap.size + 1)) #[] #[]] ++ lb) W1 fun e W' => (∃ v, e = .returned v) ∧ R W' ∧ E W')
    (hdone : ∀ W, E W → W.heap[w.heap.size]? = some (.deferred (some [])) → Q .normal { a with defers := { target := .collected w.heap.size, args := #[] } :: a.defers } W) :
    (Code.rangeFunc g ps assign body).wpIn F n P Q a w := by
  refine wpIn_rangeFunc fun fn hfn => ?_
  rw [hro]
  obtain ⟨mk, hmk⟩ : ∃ mk : LoopState → Option Code → Loop, mk = fun st pe => { state := st, pending := pe, fn, tmps := a.tmps, params := ps, assign, body, defers := w.heap.size } := ⟨_, rfl⟩
  obtain ⟨W1, hW1⟩ : ∃ W1, (w.alloc (.deferred (some []))).alloc (.loop (mk .ready none)) = W1 := ⟨_, rfl⟩
  have hl1 : W1.heap[w.heap.size + 1]? = some (.loop (mk .ready none)) := by
    have h := World.alloc_heap_new (w.alloc (.deferred (some []))) (.loop (mk .ready none))
    rw [World.size_alloc] at h
    rw [← hW1]; exact h
  have hd1 : W1.heap[w.heap.size]? = some (.deferred (some [])) := by
    rw [← hW1]; exact (Below.heap_alloc _ _ _ (by simp)).trans (World.alloc_heap_new w _)
  have hbl : Below w.heap.size w W1 := by rw [← hW1]; exact ((Below.refl _ w).alloc (Nat.le_refl _) _).alloc (by simp) _
  have hsz : W1.heap.size = w.heap.size + 2 := by rw [← hW1]; simp
  refine ⟨w.heap.size + 1, [{ target := .collected w.heap.size, args := #[] }], W1, { target := .fn (.func gf) lb, args := #[.func (.yield (w.heap.size + 1)) #[] #[]] }, W1, gf, #[.func (.yield (w.heap.size + 1)) #[] #[]] ++ lb, W1, ?_, ?_, ?_, ?_, fun _ => h1, ?_⟩
  · rw [← hW1, hmk]; exact run_enterLoop_outer _ _ _ _ _
  · simp only [resolve, hg]
    simp [go_sem]
  · intro f' hf'
    simp [Target.leads] at hf'
    subst hf'; exact hFg
  · simp [invoke, go_sem, eg]
  refine (hiter (fun W => W.heap[w.heap.size + 1]? = some (.loop (mk .ready none)) ∧ W.heap[w.heap.size]? = some (.deferred (some []))) W1 hbl hsz
    (fun W W' h ht => ⟨(ht _ (by omega) (by omega)).trans h.1, (ht _ (by omega) (by omega)).trans h.2⟩) ⟨hl1, hd1⟩ ?_).mono ?_
  · rintro x W ⟨hl, hd⟩ hA
    have hlt : w.heap.size + 1 < W.heap.size := (Array.getElem?_eq_some_iff.1 hl).1
    have hy := run_yield (P := P) (args := val x) hl (by rw [hmk]; exact hps x)
    rw [hmk] at hy
    refine ⟨fn, _, assign, body, hy, roundIn_of_wpIn hfn (hassign _ x W _ ⟨_, run_beginRound hl (by rw [hmk]), ?_⟩)⟩
    obtain ⟨W2, hW2⟩ : ∃ W2, W.putObj (w.heap.size + 1) (.loop { mk .ready none with state := .busy }) = W2 := ⟨_, rfl⟩
    have hl2 : W2.heap[w.heap.size + 1]? = some (.loop { mk .ready none with state := .busy }) := by rw [← hW2]; exact World.putObj_heap_same hlt
    have hd2 : W2.heap[w.heap.size]? = some (.deferred (some [])) := by rw [← hW2]; exact (World.putObj_heap_other (by omega)).trans hd
    have hA2 : A x W2 := by rw [← hW2]; exact hbeg x W _ hA
    rw [hW2]
    refine wpIn_mono (hbody _ x W2 hA2) ?_
    rintro e a3 W3 ⟨rfl, ht, hB⟩
    have hl3 := (ht _ (by omega) (by omega)).trans hl2
    have hd3 := (ht _ (by omega) (by omega)).trans hd2
    have hr := run_endRound (P := P) none hl3
    have hlt3 : w.heap.size + 1 < W3.heap.size := (Array.getElem?_eq_some_iff.1 hl3).1
    rw [hmk] at hr ⊢
    exact ⟨_, _, hr, rfl, ⟨World.putObj_heap_same hlt3, (World.putObj_heap_other (by omega)).trans hd3⟩, hend x W3 _ hB⟩
  · rintro e W2 ⟨⟨v, rfl⟩, ⟨hl, hd⟩, hE⟩
    have hr := run_endLoop (P := P) hl (by rw [hmk]; simp)
    rw [hmk] at hr
    exact ⟨none, _, hr, hdone _ (hfin _ _ hE) ((World.putObj_heap_other (by omega)).trans hd)⟩

end Go.Proofs.YtbcgglkgdjafiaaDoor
