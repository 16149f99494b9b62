/-
  offer of the program, of a plan in its own block. / A range over a function whose iterator writes its own memory between the rounds: what a round asks and leaves is told of what is handed over. (Outermost loops; the body ends as it should.) / PlanBest of the program.
-/
import Derived.Test.YtodboccadccpfaaDoorChpK
import Derived.Test.YtodboccadccpfaaDoorPlS
import Derived.RangeFuncNested
import Derived.RangeFuncBound
import Derived.RangeFuncCalls
import Derived.RangeFuncLeaves
import Derived.RangeFuncBox
import Derived.Test.YtodboccadccpfaaDoorPlI
import Derived.Test.YtodboccadccpfaaDoorPlL
namespace Go.Proofs.YtodboccadccpfaaDoor
open Go.RowKit

set_option maxRecDepth 100000 in
set_option maxHeartbeats 1000000 in
theorem offerP_c (c : List Int → Int) (lo s rb : Nat) (d : List (List Int)) (r : List Int) (W : World) (h : BestAt c lo s rb d W) (hrow : PlAt W rb r) (hs : s < rb) (hlo : lo ≤ rb) (hl : r.length ≤ 10) :
    Calls Tryd.prog 32 #[.pointer (some ⟨s, 0, none⟩), .slice (some ⟨rb, 0, none⟩) r.length r.length, .int .i64 (c r)] W
      fun e W' => (∃ v, e = .returned v) ∧ BestAt c lo s rb (d ++ [r]) W' ∧ PlAt W' rb r ∧ KeepBut (fun x => x = s) W W' := by
  obtain ⟨sv, cost, fd, hch, hkb⟩ := h
  have c1 := hch.c1
  have c2 := hch.c2
  have Hch := Lib.hid hch
  have Hkb := Lib.hid hkb
  have Hrow := Lib.hid hrow
  clear hch hkb hrow
  have key : (fd = true ∧ ¬ c r < cost) ∨ (fd = false ∨ (fd = true ∧ c r < cost)) := by
    cases fd
    · exact .inr (.inl rfl)
    · by_cases hc : c r < cost
      · exact .inr (.inr ⟨rfl, hc⟩)
      · exact .inl ⟨rfl, hc⟩
  obtain ⟨cr, hcr⟩ : ∃ cr, c r = cr := ⟨_, rfl⟩
  rw [hcr] at key ⊢
  have Hcr := Lib.hid hcr
  clear hcr
  rcases key with ⟨rfl, hc⟩ | key
  · go_enter Tryd.func32, Tryd.ntmps32
    go_wp2
    go_end0
    exact ⟨⟨_, rfl⟩, ⟨sv, cost, true, Hch.out, Hkb.out.stay rfl (by rw [Hcr.out]; omega)⟩, Hrow.out, KeepBut.refl _ _⟩
  · have Harg := Lib.hid (Hrow.out.arg (by omega))
    have Hrlt := Lib.hid Hrow.out.lt
    rcases key with rfl | ⟨rfl, hc⟩
    all_goals
      go_enter Tryd.func32, Tryd.ntmps32
      go_wp2_with fail
      refine (cloneI_c rb 0 r.length r W Harg.out).mono ?_
      rintro e w1 ⟨A1, d1, rfl, ra1, ro1, rb1⟩
      dsimp only [id]
      have hch1 := Hch.out.keep (KeepBut.of_below (p := fun _ => False) rb1) (by simp)
      have e0 := hch1.c0
      have e1 := hch1.c1
      have e2 := hch1.c2
      have f0 := hch1.frozen 0
      have f1 := hch1.frozen 1
      have f2 := hch1.frozen 2
      have Hch1 := Lib.hid hch1
      have Hro1 := Lib.hid ro1
      have Hrb1 := Lib.hid rb1
      clear hch1 ro1 rb1 ra1
      go_wp2
      refine bodyPost_end (results_none rfl _ _ _) rfl ?_
      obtain ⟨hc3, hk3⟩ := Hch1.out.set (.slice A1 r.length d1) cr true
      have hk13 := (KeepBut.of_below (p := fun x => x = s) Hrb1.out).trans hk3
      have hrng := Hro1.out.range
      have hlt := Hch.out.lt
      have hrl := Hrlt.out
      have hg : ∀ g, (Value.slice A1 r.length d1).ownBlock = some g → g ≠ s ∧ g ≠ rb := fun g e => by
        have h1 := hrng g e
        exact ⟨by omega, by omega⟩
      have ho3 := (Hro1.out.more (lo' := lo) (hi' := w1.heap.size) (by omega) (Nat.le_refl _)).but hk3 (Nat.le_refl _) (fun g e => (hg g e).1)
      have hnew := Hkb.out.new (by first | exact Or.inl rfl | exact Or.inr (by rw [Hcr.out]; exact hc)) hl ho3 hg
      rw [Hcr.out] at hnew
      exact ⟨⟨_, rfl⟩, ⟨_, _, _, hc3, hnew⟩, Hrow.out.keep hk13 (by omega), hk13⟩

theorem keep_put (W : World) (l : Nat) (o : Obj) : KeepBut (fun x => x = l) W (W.putObj l o) :=
  ⟨rfl, rfl, rfl, by simp [World.putObj], fun k _ hk => World.putObj_heap_other (fun e => hk (by omega))⟩
theorem KeptB.low {c : List Int → Int} {lo s rb : Nat} {d : List (List Int)} {W W' : World} {sv : Value} {cost : Int} {fd : Bool} {p : Nat → Prop} (h : KeptB c lo s rb d W sv cost fd) (hk : KeepBut p W W') (hp : ∀ x, p x → x < lo) : KeptB c lo s rb d W' sv cost fd := by
  unfold KeptB at *
  cases hb : bst c d with
  | none => rw [hb] at h; exact h
  | some x =>
    rw [hb] at h
    obtain ⟨h1, h2, h3, h4, h5⟩ := h
    exact ⟨h1, h2, h3, h4.but hk (Nat.le_refl _) (fun g e hpg => by have h6 := h4.range g e; have := hp g hpg; omega), h5⟩
theorem BestAt.low {c : List Int → Int} {lo s rb : Nat} {d : List (List Int)} {W W' : World} {p : Nat → Prop} (h : BestAt c lo s rb d W) (hk : KeepBut p W W') (hp : ∀ x, p x → x < lo ∧ x ≠ s) : BestAt c lo s rb d W' := by
  obtain ⟨sv, cost, fd, h1, h2⟩ := h
  exact ⟨sv, cost, fd, h1.keep hk (fun h => (hp s h).2 rfl), h2.low hk (fun x hx => (hp x hx).1)⟩
end Go.Proofs.YtodboccadccpfaaDoor

namespace Go.Proofs.YtodboccadccpfaaDoor
open Go.RowKit

/-- the loop's own two blocks lie as they lay -/
def TwoLie (b : Nat) (W W' : World) : Prop := ∀ k, b ≤ k → k < b + 2 → W'.heap[k]? = W.heap[k]?
theorem TwoLie.trans {b : Nat} {A B C : World} (h : TwoLie b A B) (k : TwoLie b B C) : TwoLie b A C := fun i h1 h2 => (k i h1 h2).trans (h i h1 h2)

theorem wpIn_rangeFunc_rounds {X : Type} {P : Program} {F : Fence} {n : Nat} {g : Operand} {ps : Array Tmp} {assign body : Code} {Q : Exit → Act → World → Prop} {a : Act} {w : World}
    (hro : F.round = none) (h1 : 1 ≤ n) {gf : Nat} {lb : Array Value} (hg : a.eval g = .func (.func gf) #[] lb) (hFg : F.fn gf) (eg : ∀ args w, (callFunc gf args).run P w = .ok (.enter gf args) w)
    (val : X → Array Value) (A B : X → World → Prop) (E : World → Prop) (a₁ : X → Act)
    (hps : ∀ x, (val x).size = ps.size)
    (hbeg : ∀ x W o, A x W → A x (W.putObj (w.heap.size + 1) o)) (hend : ∀ x W o, B x W → B x (W.putObj (w.heap.size + 1) o)) (hfin : ∀ W o, E W → E (W.putObj (w.heap.size + 1) o))
    (hassign : ∀ (l : Nat) (x : X) (W : World) (K : Act → World → Prop), K (a₁ x) W →
      assign.wpIn (F.inRound l) (n - 1 - 1) P (Exit.then K (fun _ _ _ => False)) { tmps := ((ps.zip (val x)).foldl (fun t (p, v) => t.setIfInBounds p v) a.tmps), defers := [] } W)
    (hbody : ∀ (l : Nat) (x : X) (W : World), A x W → body.wpIn (F.inRound l) (n - 1 - 1) P (fun e _ W' => e = .normal ∧ TwoLie w.heap.size W W' ∧ B x W') (a₁ x) W)
    (hiter : ∀ (R : World → Prop) (W1 : World), Below w.heap.size w W1 → W1.heap.size = w.heap.size + 2 → (∀ W W', R W → TwoLie w.heap.size W W' → R W') → R W1 →
      (∀ x W, R W → A x W → YieldAt F (n - 1 - 1) P (w.heap.size + 1) (val x) W fun e W' => e = .returned (.bool true) ∧ R W' ∧ B x W') →
      CallsIn F (n - 1) P gf (#[.func (.yield (w.heap.size + 1)) #[] #[]] ++ lb) W1 fun e W' => (∃ v, e = .returned v) ∧ R W' ∧ E W')
    (hdone : ∀ W, E W → W.heap[w.heap.size]? = some (.deferred (some [])) → Q .normal { a with defers := { target := .collected w.heap.size, args := #[] } :: a.defers } W) :
    (Code.rangeFunc g ps assign body).wpIn F n P Q a w := by
  refine wpIn_rangeFunc fun fn hfn => ?_
  rw [hro]
  obtain ⟨mk, hmk⟩ : ∃ mk : LoopState → Option Code → Loop, mk = fun st pe => { state := st, pending := pe, fn, tmps := a.tmps, params := ps, assign, body, defers := w.heap.size } := ⟨_, rfl⟩
  obtain ⟨W1, hW1⟩ : ∃ W1, (w.alloc (.deferred (some []))).alloc (.loop (mk .ready none)) = W1 := ⟨_, rfl⟩
  have hl1 : W1.heap[w.heap.size + 1]? = some (.loop (mk .ready none)) := by
    have h := World.alloc_heap_new (w.alloc (.deferred (some []))) (.loop (mk .ready none))
    rw [World.size_alloc] at h
    rw [← hW1]; exact h
  have hd1 : W1.heap[w.heap.size]? = some (.deferred (some [])) := by
    rw [← hW1]; exact (Below.heap_alloc _ _ _ (by simp)).trans (World.alloc_heap_new w _)
  have hbl : Below w.heap.size w W1 := by rw [← hW1]; exact ((Below.refl _ w).alloc (Nat.le_refl _) _).alloc (by simp) _
  have hsz : W1.heap.size = w.heap.size + 2 := by rw [← hW1]; simp
  refine ⟨w.heap.size + 1, [{ target := .collected w.heap.size, args := #[] }], W1, { target := .fn (.func gf) lb, args := #[.func (.yield (w.heap.size + 1)) #[] #[]] }, W1, gf, #[.func (.yield (w.heap.size + 1)) #[] #[]] ++ lb, W1, ?_, ?_, ?_, ?_, fun _ => h1, ?_⟩
  · rw [← hW1, hmk]; exact run_enterLoop_outer _ _ _ _ _
  · simp only [resolve, hg]
    simp [go_sem]
  · intro f' hf'
    simp [Target.leads] at hf'
    subst hf'; exact hFg
  · simp [invoke, go_sem, eg]
  refine (hiter (fun W => W.heap[w.heap.size + 1]? = some (.loop (mk .ready none)) ∧ W.heap[w.heap.size]? = some (.deferred (some []))) W1 hbl hsz
    (fun W W' h ht => ⟨(ht _ (by omega) (by omega)).trans h.1, (ht _ (by omega) (by omega)).trans h.2⟩) ⟨hl1, hd1⟩ ?_).mono ?_
  · rintro x W ⟨hl, hd⟩ hA
    have hlt : w.heap.size + 1 < W.heap.size := (Array.getElem?_eq_some_iff.1 hl).1
    have hy := run_yield (P := P) (args := val x) hl (by rw [hmk]; exact hps x)
    rw [hmk] at hy
    refine ⟨fn, _, assign, body, hy, roundIn_of_wpIn hfn (hassign _ x W _ ⟨_, run_beginRound hl (by rw [hmk]), ?_⟩)⟩
    obtain ⟨W2, hW2⟩ : ∃ W2, W.putObj (w.heap.size + 1) (.loop { mk .ready none with state := .busy }) = W2 := ⟨_, rfl⟩
    have hl2 : W2.heap[w.heap.size + 1]? = some (.loop { mk .ready none with state := .busy }) := by rw [← hW2]; exact World.putObj_heap_same hlt
    have hd2 : W2.heap[w.heap.size]? = some (.deferred (some [])) := by rw [← hW2]; exact (World.putObj_heap_other (by omega)).trans hd
    have hA2 : A x W2 := by rw [← hW2]; exact hbeg x W _ hA
    rw [hW2]
    refine wpIn_mono (hbody _ x W2 hA2) ?_
    rintro e a3 W3 ⟨rfl, ht, hB⟩
    have hl3 := (ht _ (by omega) (by omega)).trans hl2
    have hd3 := (ht _ (by omega) (by omega)).trans hd2
    have hr := run_endRound (P := P) none hl3
    have hlt3 : w.heap.size + 1 < W3.heap.size := (Array.getElem?_eq_some_iff.1 hl3).1
    rw [hmk] at hr ⊢
    exact ⟨_, _, hr, rfl, ⟨World.putObj_heap_same hlt3, (World.putObj_heap_other (by omega)).trans hd3⟩, hend x W3 _ hB⟩
  · rintro e W2 ⟨⟨v, rfl⟩, ⟨hl, hd⟩, hE⟩
    have hr := run_endLoop (P := P) hl (by rw [hmk]; simp)
    rw [hmk] at hr
    exact ⟨none, _, hr, hdone _ (hfin _ _ hE) ((World.putObj_heap_other (by omega)).trans hd)⟩
end Go.Proofs.YtodboccadccpfaaDoor

namespace Go.Proofs.YtodboccadccpfaaDoor
open Go.RowKit Go.Shelf

attribute [local go_sem] Oper.semAt_some

set_option maxRecDepth 100000 in
theorem plans_c (n : Int) (w : World) :
    Calls Tryd.prog 31 #[.int .i64 n] w fun e w' => e = .returned (.func (.func 52) #[] #[.pointer (some ⟨w.heap.size, 0, none⟩)]) ∧ w.alloc (.cells #[.int .i64 n] 3) = w' := by
  go_enter Tryd.func31, Tryd.ntmps31
  go_wp2
  go_ret
  exact ⟨rfl, rfl⟩

/-- what holds between the rounds: PB the plans' block, k plans offered -/
structure BpAt (s : ByteArray) (A : Option Addr) (c : Nat) (J : List Jbs) (w : World) (cb b0 : Nat) (PB k : Nat) (W : World) : Prop where
  best : BestAt (lossV (byL s) J) (b0 + 2) cb PB ((allP J.length).take k) W
  bs : Boxed W w.heap.size 9 (.string s)
  bj : Boxed W (w.heap.size + 1) 23 (.slice A J.length c)
  below : Below w.heap.size w W
  size : b0 + 2 ≤ W.heap.size
theorem BpAt.keep {s : ByteArray} {A : Option Addr} {c : Nat} {J : List Jbs} {w : World} {cb b0 PB k : Nat} {W W' : World} (h : BpAt s A c J w cb b0 PB k W) (hc : w.heap.size + 1 < cb) (hcb : cb < b0) (hPB : b0 + 2 ≤ PB) (hk : KeepBut (fun x => x = PB) W W') : BpAt s A c J w cb b0 PB k W' :=
  ⟨h.best.keep hk (fun _ hx => hx) (by omega), (hk.block _ h.bs.lt (by omega)).trans h.bs, (hk.block _ h.bj.lt (by omega)).trans h.bj,
    h.below.trans (hk.below (B := w.heap.size) (fun x hx => by omega) h.below.size), Nat.le_trans h.size hk.size⟩
theorem BpAt.put {s : ByteArray} {A : Option Addr} {c : Nat} {J : List Jbs} {w : World} {cb b0 PB k : Nat} {W : World} (h : BpAt s A c J w cb b0 PB k W) (hc : w.heap.size + 1 < cb) (hcb : cb < b0) (i : Nat) (hi : i < 2) (o : Obj) : BpAt s A c J w cb b0 PB k (W.putObj (b0 + i) o) := by
  have hk := keep_put W (b0 + i) o
  exact ⟨h.best.low hk (fun x hx => by omega), (hk.block _ h.bs.lt (by omega)).trans h.bs, (hk.block _ h.bj.lt (by omega)).trans h.bj,
    h.below.trans (hk.below (B := w.heap.size) (fun x hx => by omega) h.below.size), Nat.le_trans h.size hk.size⟩
theorem bp_no {L : List UInt8} {J : List Jbs} (h : timeB L J = false) : bsP L J = [] := by unfold bsP; rw [h]; rfl

set_option maxRecDepth 100000 in
set_option maxHeartbeats 2000000 in
theorem implPlanBest_b (s : ByteArray) (A : Option Addr) (c : Nat) (J : List Jbs) (w : World) (hs : s.size ≤ 2097152) (ha : ArgJ w A c J) (hT : Tab w) :
    Calls Tryd.prog 10 #[.string s, .slice A J.length c] w (RetS 3 (fun v => .tuple #[v, .bool (timeB (byL s) J)]) (bsP (byL s) J) w) := by
  have HA := Lib.hid ha
  have HT := Lib.hid hT
  clear ha hT
  obtain ⟨wb, hwb⟩ : ∃ wb, wb = (w.alloc (.cells #[.string s] 9)).alloc (.cells #[.slice A J.length c] 23) := ⟨_, rfl⟩
  have hbb : Below w.heap.size w wb := by rw [hwb]; exact ((Below.refl _ _).alloc (Nat.le_refl _) _).alloc (by simp) _
  have hbs : Boxed wb w.heap.size 9 (.string s) := by rw [hwb]; exact (Boxed.new _ _ _).alloc _
  have hbj : Boxed wb (w.heap.size + 1) 23 (.slice A J.length c) := by
    have h := Boxed.new (w.alloc (.cells #[.string s] 9)) 23 (.slice A J.length c)
    rw [World.size_alloc] at h
    rw [hwb]; exact h
  have hsz : wb.heap.size = w.heap.size + 2 := by rw [hwb]; simp
  have Hbb := Lib.hid hbb
  have Hbs := Lib.hid hbs
  have Hbj := Lib.hid hbj
  have Hsz := Lib.hid hsz
  have Htime := Lib.hid (timeEnough_b s A c J wb (HA.out.go hbb))
  have e1 := hbs.cell
  have e2 := hbj.cell
  have Hwb := Lib.hid hwb
  rw [hwb] at Htime e1 e2
  clear hbb hbs hbj hsz hwb
  cases ht : timeB (byL s) J
  · have Hn := Lib.hid (bp_no ht)
    have Ht := Lib.hid ht
    clear ht
    go_enter Tryd.func10, Tryd.ntmps10
    go_wp2_with fail
    refine Htime.out.mono ?_
    rintro e w1 ⟨rfl, hb1⟩
    rw [Ht.out]
    rw [← Hwb.out] at hb1
    have Hb1 := Lib.hid (below_step Hbb.out hb1)
    clear hb1
    go_wp2
    go_ret2
    rw [Hn.out]
    exact RetS.nil (f := fun v => .tuple #[v, .bool false]) Hb1.out
  have Ht := Lib.hid ht
  have hj6 := (jbB_true.1 (timeB_true.1 ht).2.1).1
  clear ht
  refine (callsIn_wide (n := 5)).1 ?_
  refine callsIn_of_wp_marks Tryd.func10 rfl trivial ?_ rfl
  simp only [Tryd.ntmps10, List.size_toArray, List.length_cons, List.length_nil, Nat.reduceAdd, Nat.reduceSub, Array.replicate_succ, Array.replicate_zero, List.push_toArray, List.append_toArray, List.nil_append, List.cons_append]
  gi_wp2_with (first
    | (refine ⟨trivial, ?_⟩; gi_at_call 27; refine (callsIn_wide.2 Htime.out).mono ?_; rintro e w1 ⟨rfl, hb1⟩; rw [Ht.out]; rw [← Hwb.out] at hb1; have hbs1 := (hb1.block _ Hbs.out.lt).trans Hbs.out; have hbj1 := (hb1.block _ Hbj.out.lt).trans Hbj.out; have e3 := fun o => (Boxed.alloc (W := w1) hbj1 o).cell; have Hb1 := Lib.hid hb1; have Hbs1 := Lib.hid hbs1; have Hbj1 := Lib.hid hbj1; clear hb1 hbs1 hbj1)
    | (refine ⟨trivial, ?_⟩; gi_at_call 31; refine (callsIn_wide.2 (plans_c _ _)).mono ?_; rintro e w2 ⟨rfl, rfl⟩))
  obtain ⟨cb, hcb⟩ : ∃ cb, cb = w1.heap.size := ⟨_, rfl⟩
  obtain ⟨WL, hWL⟩ : ∃ WL, (w1.alloc (.cells #[.slice none 0 0, .int .i64 0, .bool false] 49)).alloc (.cells #[.int .i64 (J.length : Int)] 3) = WL := ⟨_, rfl⟩
  have hch : ChAt WL cb (.slice none 0 0) 0 false := by
    rw [← hWL, hcb]
    exact (Below.heap_alloc _ _ _ (by simp)).trans (heap_alloc_new w1 _)
  have hbn : Boxed WL (cb + 1) 3 (.int .i64 (J.length : Int)) := by
    have h := Boxed.new (w1.alloc (.cells #[.slice none 0 0, .int .i64 0, .bool false] 49)) 3 (.int .i64 (J.length : Int))
    rw [World.size_alloc] at h
    rw [← hWL, hcb]; exact h
  have hbsL : Boxed WL w.heap.size 9 (.string s) := by rw [← hWL]; exact (Boxed.alloc (W := w1) Hbs1.out _).alloc _
  have hbjL : Boxed WL (w.heap.size + 1) 23 (.slice A J.length c) := by rw [← hWL]; exact (Boxed.alloc (W := w1) Hbj1.out _).alloc _
  have hszL : WL.heap.size = cb + 2 := by rw [← hWL, hcb]; simp
  have hcbw : w.heap.size + 1 < cb := by have h1 := Hb1.out.size; have h2 := Hsz.out; omega
  have hbelL : Below w.heap.size w WL := by
    have h := below_step Hbb.out Hb1.out
    rw [← hWL]; exact (h.alloc h.size _).alloc (by have := h.size; simp; omega) _
  have HWL := Lib.hid hWL
  have Hcb := Lib.hid hcb
  rw [hWL]
  rw [← hcb]
  clear hWL hcb e1 e2 e3
  refine wpIn_rangeFunc_rounds (X := Nat × Nat × List Int) rfl (by decide) (gf := 52) (lb := #[.pointer (some ⟨cb + 1, 0, none⟩)]) rfl trivial (enters_of Tryd.func52 (by kernel_rfl) rfl)
    (fun x => #[.slice (some ⟨x.1, 0, none⟩) J.length J.length])
    (fun x W => WL.heap.size + 2 ≤ x.1 ∧ (allP J.length)[x.2.1]? = some x.2.2 ∧ BpAt s A c J w cb WL.heap.size x.1 x.2.1 W ∧ PlAt W x.1 x.2.2)
    (fun x W => WL.heap.size + 2 ≤ x.1 ∧ BpAt s A c J w cb WL.heap.size x.1 (x.2.1 + 1) W ∧ PlAt W x.1 x.2.2)
    (fun W => ∃ PB, WL.heap.size + 2 ≤ PB ∧ BpAt s A c J w cb WL.heap.size PB (allP J.length).length W)
    ?a1 (fun _ => rfl)
    (fun x W o h => ⟨h.1, h.2.1, h.2.2.1.put hcbw (by omega) 1 (by omega) o, h.2.2.2.keep (keep_put W _ o) (by omega)⟩)
    (fun x W o h => ⟨h.1, h.2.1.put hcbw (by omega) 1 (by omega) o, h.2.2.keep (keep_put W _ o) (by omega)⟩)
    (fun W o h => by obtain ⟨PB, h1, h2⟩ := h; exact ⟨PB, h1, h2.put hcbw (by omega) 1 (by omega) o⟩)
    ?assign ?body ?iter ?done
  case assign =>
    intro l x W K hK
    gi_wp2
    exact hK
  case body =>
    rintro l ⟨PB, k, p⟩ W ⟨hPB, hk, hj, hp⟩
    dsimp only at hPB hk hj hp
    obtain ⟨hpl, _, _, _⟩ := all_at hj6 hk
    have c1 := hj.bs.cell
    have c2 := hj.bj.cell
    have hls := implPlanLoss_b s A c J (some ⟨PB, 0, none⟩) p.length p W hs (HA.out.go hj.below) (hp.arg (by omega)) (HT.out.go hj.below)
    rw [hpl] at hls
    have Hls := Lib.hid hls
    have hoff := fun (V : World) h1 h2 => offerP_c (lossV (byL s) J) (WL.heap.size + 2) cb PB ((allP J.length).take k) p V h1 h2 (by omega) (by omega) (by omega)
    rw [hpl] at hoff
    have Hoff := Lib.hid hoff
    have Hj := Lib.hid hj
    have Hp := Lib.hid hp
    have Hk := Lib.hid hk
    obtain ⟨v, hv⟩ : ∃ v, lossV (byL s) J p = v := ⟨_, rfl⟩
    rw [hv] at Hls Hoff
    clear hls hoff hj hp hk hv
    gi_wp2_with (first
      | (refine ⟨trivial, ?_⟩; gi_at_call 14; refine (CallsIn.inRound l (callsIn_wide.2 Hls.out)).mono ?_; rintro e W3 ⟨rfl, hb3⟩; have hk3 : KeepBut (fun _ => False) W W3 := KeepBut.of_below hb3; have ho3 := Hoff.out W3 (Hj.out.best.keep hk3 (by simp) (by omega)) (Hp.out.keep hk3 (by simp)); have Hk3 := Lib.hid hk3; have Ho3 := Lib.hid ho3; clear hb3 hk3 ho3)
      | (refine ⟨trivial, ?_⟩; gi_at_call 32; refine (CallsIn.inRound l (callsIn_wide.2 Ho3.out)).mono ?_; rintro e W4 ⟨⟨v4, rfl⟩, hb4, hp4, hk4⟩))
    have hk := (Hk3.out.weak (q := fun x => x = cb) (fun _ _ h => h.elim)).trans hk4
    have hsz := Hj.out.size
    have hte : (allP J.length).take (k + 1) = (allP J.length).take k ++ [p] := by
      obtain ⟨hkl, e⟩ := List.getElem?_eq_some_iff.1 Hk.out
      rw [List.take_succ_eq_append_getElem hkl, e]
    have hBp : BpAt s A c J w cb WL.heap.size PB (k + 1) W4 := ⟨by rw [hte]; exact hb4, (hk.block _ Hj.out.bs.lt (by omega)).trans Hj.out.bs, (hk.block _ Hj.out.bj.lt (by omega)).trans Hj.out.bj, Hj.out.below.trans (hk.below (B := w.heap.size) (fun x hx => by omega) Hj.out.below.size), Nat.le_trans hsz hk.size⟩
    have hTw : TwoLie WL.heap.size W W4 := fun i h1 h2 => hk.block i (by omega) (by omega)
    rw [hszL] at hBp hTw
    exact ⟨hTw, by omega, hBp⟩
  case iter =>
    intro R W1 hb1 hs1 hR hR1 hY
    have hL := hb1.size
    refine (plans1_in 4 (by decide) (WL.heap.size + 1) (cb + 1) J.length hj6 W1 (fun PB k W => R W ∧ BpAt s A c J w cb WL.heap.size PB k W)
      (fun PB k W W' h1 h2 h3 => ⟨hR W W' h2.1 (fun i g1 g2 => h3.block i (by have := h2.2.size; omega) (by omega)), h2.2.keep hcbw (by omega) (by omega) h3⟩)
      (fun PB k p W h1 h2 h3 h4 => (hY (PB, k, p) W h3.1 ⟨by dsimp only; omega, h2, h3.2, h4⟩).mono (fun e W' h => ⟨h.1, ⟨h.2.1, h.2.2.2.1⟩, h.2.2.2.2⟩))
      ((hb1.cell (p := ⟨cb + 1, 0, none⟩) (by show cb + 1 < WL.heap.size; omega)).trans hbn.cell)
      (fun PB W h1 h2 h3 => ?_)).mono ?_
    · have hbw := hb1.trans (h2.mono (by omega))
      refine ⟨hR W1 W hR1 (fun i g1 g2 => h2.block i (by omega)), ⟨.slice none 0 0, 0, false, (hbw.block _ hch.lt).trans hch, KeptB.start _ _ _ _ _ _⟩, (hbw.block _ hbsL.lt).trans hbsL, (hbw.block _ hbjL.lt).trans hbjL, hbelL.trans (hbw.mono hbelL.size), by have := h2.size; omega⟩
    · rintro e W' ⟨hv, PB, h1, h2⟩
      exact ⟨hv, h2.1, PB, by omega, h2.2⟩
  case done =>
    rintro W ⟨PB, hPB, hj⟩ hD
    obtain ⟨sv, cost, fd, hc, hkp⟩ := hj.best
    have e0 := hc.c0
    have e2 := hc.c2
    rw [List.take_length] at hkp
    obtain ⟨x, hx⟩ := bp_some (byL s) J
    have hbl := (bp_loss Ht.out).trans hx
    have hbv := bp_val Ht.out hx
    unfold KeptB at hkp
    rw [hbl] at hkp
    obtain ⟨rfl, rfl, hl10, ho, _⟩ := hkp
    obtain ⟨A9, c9, rfl, _, _, _⟩ := ho.form
    have hbw := hj.below.size
    have Hfin := Lib.hid (show ∀ nq, RetS 3 (fun v => .tuple #[v, .bool true]) (bsP (byL s) J) w (.returned (.tuple #[.slice A9 x.length c9, .bool true])) ((W.drewN nq).putObj WL.heap.size (.deferred none)) from fun nq => by
      have hk := (KeepBut.refl (fun y => y = WL.heap.size) W).drewN nq |>.trans (keep_put (W.drewN nq) WL.heap.size (.deferred none))
      have ho2 := ho.but hk (Nat.le_refl _) (fun g e h => by have := ho.range g e; omega)
      rw [hbv]
      exact ⟨A9, c9, rfl, ho2.arg (by omega) (Nat.le_refl _), ho2.more (by omega) (Nat.le_refl _), hj.below.trans (hk.below (B := w.heap.size) (fun y hy => by omega) hbw)⟩)
    have HD := Lib.hid (fun nq => (show (W.drewN nq).heap[WL.heap.size]? = some (.deferred (some [])) from hD))
    rw [hszL] at HD Hfin
    clear hD hj hc ho hbl hbv hx
    gi_wp2
    gi_quiet_th (fail)
    gi_wp2
    refine ⟨by simp, .inl ⟨_, _, rfl, run_takeDeferred (HD.out nq), ?_⟩⟩
    refine ⟨_, results_tmp2 rfl _ _ _, ?_⟩
    exact Hfin.out nq
end Go.Proofs.YtodboccadccpfaaDoor
