/-
  PlanBest of the program.
-/
import Derived.Test.YtbcgglkgdjafiaaDoorPlI
import Derived.Test.YtbcgglkgdjafiaaDoorPlL
import Derived.Test.YtbcgglkgdjafiaaDoorPlO
import Derived.Test.YtbcgglkgdjafiaaDoorRngF
namespace Go.Proofs.YtbcgglkgdjafiaaDoor
open Go.RowKit Go.Shelf

attribute [local go_sem] Oper.semAt_some

theorem plans_c (n : Int) (w : World) :
    Calls Tryd.prog 63 #[.int .i64 n] w fun e w' => e = .returned (.func (.func 84) #[] #[.pointer (some ⟨w.heap.size, 0, none⟩)]) ∧ w.alloc (.cells #[.int .i64 n] 3) = w' := by
  go_enter Tryd.func63, Tryd.ntmps63
  go_wp2
  go_ret
  exact ⟨rfl, rfl⟩

/-- what holds between the rounds: PB the plans' block, k plans offered -/
structure BpAt (s : ByteArray) (A : Option Addr) (c : Nat) (J : List Jbs) (w : World) (cb b0 : Nat) (PB k : Nat) (W : World) : Prop where
  best : BestAt (lossV (byL s) J) (b0 + 2) cb PB ((allP J.length).take k) W
  bs : Boxed W w.heap.size 9 (.string s)
  bj : Boxed W (w.heap.size + 1) 30 (.slice A J.length c)
  below : Below w.heap.size w W
  size : b0 + 2 ≤ W.heap.size
theorem BpAt.keep {s : ByteArray} {A : Option Addr} {c : Nat} {J : List Jbs} {w : World} {cb b0 PB k : Nat} {W W' : World} (h : BpAt s A c J w cb b0 PB k W) (hc : w.heap.size + 1 < cb) (hcb : cb < b0) (hPB : b0 + 2 ≤ PB) (hk : KeepBut (fun x => x = PB) W W') : BpAt s A c J w cb b0 PB k W' :=
  ⟨h.best.keep hk (fun _ hx => hx) (by omega), (hk.block _ h.bs.lt (by omega)).trans h.bs, (hk.block _ h.bj.lt (by omega)).trans h.bj,
    h.below.trans (hk.below (B := w.heap.size) (fun x hx => by omega) h.below.size), Nat.le_trans h.size hk.size⟩
theorem BpAt.put {s : ByteArray} {A : Option Addr} {c : Nat} {J : List Jbs} {w : World} {cb b0 PB k : Nat} {W : World} (h : BpAt s A c J w cb b0 PB k W) (hc : w.heap.size + 1 < cb) (hcb : cb < b0) (i : Nat) (hi : i < 2) (o : Obj) : BpAt s A c J w cb b0 PB k (W.putObj (b0 + i) o) := by
  have hk := keep_put W (b0 + i) o
  exact ⟨h.best.low hk (fun x hx => by omega), (hk.block _ h.bs.lt (by omega)).trans h.bs, (hk.block _ h.bj.lt (by omega)).trans h.bj,
    h.below.trans (hk.below (B := w.heap.size) (fun x hx => by omega) h.below.size), Nat.le_trans h.size hk.size⟩
theorem bp_no {L : List UInt8} {J : List Jbs} (h : timeB L J = false) : bsP L J = [] := by unfold bsP; rw [h]; rfl

set_option maxRecDepth 100000 in
set_option maxHeartbeats 2000000 in
theorem implPlanBest_b (s : ByteArray) (A : Option Addr) (c : Nat) (J : List Jbs) (w : World) (hs : s.size ≤ 2097152) (ha : ArgJ w A c J) (hT : Tab w) :
    Calls Tryd.prog 33 #[.string s, .slice A J.length c] w (RetS 3 (fun v => .tuple #[v, .bool (timeB (byL s) J)]) (bsP (byL s) J) w) := by
  have HA := Lib.hid ha
  have HT := Lib.hid hT
  clear ha hT
  obtain ⟨wb, hwb⟩ : ∃ wb, wb = (w.alloc (.cells #[.string s] 9)).alloc (.cells #[.slice A J.length c] 30) := ⟨_, rfl⟩
  have hbb : Below w.heap.size w wb := by rw [hwb]; exact ((Below.refl _ _).alloc (Nat.le_refl _) _).alloc (by simp) _
  have hbs : Boxed wb w.heap.size 9 (.string s) := by rw [hwb]; exact (Boxed.new _ _ _).alloc _
  have hbj : Boxed wb (w.heap.size + 1) 30 (.slice A J.length c) := by
    have h := Boxed.new (w.alloc (.cells #[.string s] 9)) 30 (.slice A J.length c)
    rw [World.size_alloc] at h
    rw [hwb]; exact h
  have hsz : wb.heap.size = w.heap.size + 2 := by rw [hwb]; simp
  have Hbb := Lib.hid hbb
  have Hbs := Lib.hid hbs
  have Hbj := Lib.hid hbj
  have Hsz := Lib.hid hsz
  have Htime := Lib.hid (timeEnough_b s A c J wb (HA.out.go hbb))
  have e1 := hbs.cell
  have e2 := hbj.cell
  have Hwb := Lib.hid hwb
  rw [hwb] at Htime e1 e2
  clear hbb hbs hbj hsz hwb
  cases ht : timeB (byL s) J
  · have Hn := Lib.hid (bp_no ht)
    have Ht := Lib.hid ht
    clear ht
    go_enter Tryd.func33, Tryd.ntmps33
    go_wp2_with fail
    refine Htime.out.mono ?_
    rintro e w1 ⟨rfl, hb1⟩
    rw [Ht.out]
    rw [← Hwb.out] at hb1
    have Hb1 := Lib.hid (below_step Hbb.out hb1)
    clear hb1
    go_wp2
    go_ret2
    rw [Hn.out]
    exact RetS.nil (f := fun v => .tuple #[v, .bool false]) Hb1.out
  have Ht := Lib.hid ht
  have hj6 := (jbB_true.1 (timeB_true.1 ht).2.1).1
  clear ht
  refine (callsIn_wide (n := 5)).1 ?_
  refine callsIn_of_wp_marks Tryd.func33 rfl trivial ?_ rfl
  simp only [Tryd.ntmps33, List.size_toArray, List.length_cons, List.length_nil, Nat.reduceAdd, Nat.reduceSub, Array.replicate_succ, Array.replicate_zero, List.push_toArray, List.append_toArray, List.nil_append, List.cons_append]
  gi_wp2_with (first
    | (refine ⟨trivial, ?_⟩; gi_at_call 62; refine (callsIn_wide.2 Htime.out).mono ?_; rintro e w1 ⟨rfl, hb1⟩; rw [Ht.out]; rw [← Hwb.out] at hb1; have hbs1 := (hb1.block _ Hbs.out.lt).trans Hbs.out; have hbj1 := (hb1.block _ Hbj.out.lt).trans Hbj.out; have e3 := fun o => (Boxed.alloc (W := w1) hbj1 o).cell; have Hb1 := Lib.hid hb1; have Hbs1 := Lib.hid hbs1; have Hbj1 := Lib.hid hbj1; clear hb1 hbs1 hbj1)
    | (refine ⟨trivial, ?_⟩; gi_at_call 63; refine (callsIn_wide.2 (plans_c _ _)).mono ?_; rintro e w2 ⟨rfl, rfl⟩))
  obtain ⟨cb, hcb⟩ : ∃ cb, cb = w1.heap.size := ⟨_, rfl⟩
  obtain ⟨WL, hWL⟩ : ∃ WL, (w1.alloc (.cells #[.slice none 0 0, .int .i64 0, .bool false] 70)).alloc (.cells #[.int .i64 (J.length : Int)] 3) = WL := ⟨_, rfl⟩
  have hch : ChAt WL cb (.slice none 0 0) 0 false := by
    rw [← hWL, hcb]
    exact (Below.heap_alloc _ _ _ (by simp)).trans (heap_alloc_new w1 _)
  have hbn : Boxed WL (cb + 1) 3 (.int .i64 (J.length : Int)) := by
    have h := Boxed.new (w1.alloc (.cells #[.slice none 0 0, .int .i64 0, .bool false] 70)) 3 (.int .i64 (J.length : Int))
    rw [World.size_alloc] at h
    rw [← hWL, hcb]; exact h
  have hbsL : Boxed WL w.heap.size 9 (.string s) := by rw [← hWL]; exact (Boxed.alloc (W := w1) Hbs1.out _).alloc _
  have hbjL : Boxed WL (w.heap.size + 1) 30 (.slice A J.length c) := by rw [← hWL]; exact (Boxed.alloc (W := w1) Hbj1.out _).alloc _
  have hszL : WL.heap.size = cb + 2 := by rw [← hWL, hcb]; simp
  have hcbw : w.heap.size + 1 < cb := by have h1 := Hb1.out.size; have h2 := Hsz.out; omega
  have hbelL : Below w.heap.size w WL := by
    have h := below_step Hbb.out Hb1.out
    rw [← hWL]; exact (h.alloc h.size _).alloc (by have := h.size; simp; omega) _
  have HWL := Lib.hid hWL
  have Hcb := Lib.hid hcb
  rw [hWL]
  rw [← hcb]
  clear hWL hcb e1 e2 e3
  refine wpIn_rangeFunc_rounds (X := Nat × Nat × List Int) rfl (by decide) (gf := 84) (lb := #[.pointer (some ⟨cb + 1, 0, none⟩)]) rfl trivial (enters_of Tryd.func84 (by kernel_rfl) rfl)
    (fun x => #[.slice (some ⟨x.1, 0, none⟩) J.length J.length])
    (fun x W => WL.heap.size + 2 ≤ x.1 ∧ (allP J.length)[x.2.1]? = some x.2.2 ∧ BpAt s A c J w cb WL.heap.size x.1 x.2.1 W ∧ PlAt W x.1 x.2.2)
    (fun x W => WL.heap.size + 2 ≤ x.1 ∧ BpAt s A c J w cb WL.heap.size x.1 (x.2.1 + 1) W ∧ PlAt W x.1 x.2.2)
    (fun W => ∃ PB, WL.heap.size + 2 ≤ PB ∧ BpAt s A c J w cb WL.heap.size PB (allP J.length).length W)
    ?a1 (fun _ => rfl)
    (fun x W o h => ⟨h.1, h.2.1, h.2.2.1.put hcbw (by omega) 1 (by omega) o, h.2.2.2.keep (keep_put W _ o) (by omega)⟩)
    (fun x W o h => ⟨h.1, h.2.1.put hcbw (by omega) 1 (by omega) o, h.2.2.keep (keep_put W _ o) (by omega)⟩)
    (fun W o h => by obtain ⟨PB, h1, h2⟩ := h; exact ⟨PB, h1, h2.put hcbw (by omega) 1 (by omega) o⟩)
    ?assign ?body ?iter ?done
  case assign =>
    intro l x W K hK
    gi_wp2
    exact hK
  case body =>
    rintro l ⟨PB, k, p⟩ W ⟨hPB, hk, hj, hp⟩
    dsimp only at hPB hk hj hp
    obtain ⟨hpl, _, _, _⟩ := all_at hj6 hk
    have c1 := hj.bs.cell
    have c2 := hj.bj.cell
    have hls := implPlanLoss_b s A c J (some ⟨PB, 0, none⟩) p.length p W hs (HA.out.go hj.below) (hp.arg (by omega)) (HT.out.go hj.below)
    rw [hpl] at hls
    have Hls := Lib.hid hls
    have hoff := fun (V : World) h1 h2 => offerP_c (lossV (byL s) J) (WL.heap.size + 2) cb PB ((allP J.length).take k) p V h1 h2 (by omega) (by omega) (by omega)
    rw [hpl] at hoff
    have Hoff := Lib.hid hoff
    have Hj := Lib.hid hj
    have Hp := Lib.hid hp
    have Hk := Lib.hid hk
    obtain ⟨v, hv⟩ : ∃ v, lossV (byL s) J p = v := ⟨_, rfl⟩
    rw [hv] at Hls Hoff
    clear hls hoff hj hp hk hv
    gi_wp2_with (first
      | (refine ⟨trivial, ?_⟩; gi_at_call 29; refine (CallsIn.inRound l (callsIn_wide.2 Hls.out)).mono ?_; rintro e W3 ⟨rfl, hb3⟩; have hk3 : KeepBut (fun _ => False) W W3 := KeepBut.of_below hb3; have ho3 := Hoff.out W3 (Hj.out.best.keep hk3 (by simp) (by omega)) (Hp.out.keep hk3 (by simp)); have Hk3 := Lib.hid hk3; have Ho3 := Lib.hid ho3; clear hb3 hk3 ho3)
      | (refine ⟨trivial, ?_⟩; gi_at_call 64; refine (CallsIn.inRound l (callsIn_wide.2 Ho3.out)).mono ?_; rintro e W4 ⟨⟨v4, rfl⟩, hb4, hp4, hk4⟩))
    have hk := (Hk3.out.weak (q := fun x => x = cb) (fun _ _ h => h.elim)).trans hk4
    have hsz := Hj.out.size
    have hte : (allP J.length).take (k + 1) = (allP J.length).take k ++ [p] := by
      obtain ⟨hkl, e⟩ := List.getElem?_eq_some_iff.1 Hk.out
      rw [List.take_succ_eq_append_getElem hkl, e]
    have hBp : BpAt s A c J w cb WL.heap.size PB (k + 1) W4 := ⟨by rw [hte]; exact hb4, (hk.block _ Hj.out.bs.lt (by omega)).trans Hj.out.bs, (hk.block _ Hj.out.bj.lt (by omega)).trans Hj.out.bj, Hj.out.below.trans (hk.below (B := w.heap.size) (fun x hx => by omega) Hj.out.below.size), Nat.le_trans hsz hk.size⟩
    have hTw : TwoLie WL.heap.size W W4 := fun i h1 h2 => hk.block i (by omega) (by omega)
    rw [hszL] at hBp hTw
    exact ⟨hTw, by omega, hBp⟩
  case iter =>
    intro R W1 hb1 hs1 hR hR1 hY
    have hL := hb1.size
    refine (plans1_in 4 (by decide) (WL.heap.size + 1) (cb + 1) J.length hj6 W1 (fun PB k W => R W ∧ BpAt s A c J w cb WL.heap.size PB k W)
      (fun PB k W W' h1 h2 h3 => ⟨hR W W' h2.1 (fun i g1 g2 => h3.block i (by have := h2.2.size; omega) (by omega)), h2.2.keep hcbw (by omega) (by omega) h3⟩)
      (fun PB k p W h1 h2 h3 h4 => (hY (PB, k, p) W h3.1 ⟨by dsimp only; omega, h2, h3.2, h4⟩).mono (fun e W' h => ⟨h.1, ⟨h.2.1, h.2.2.2.1⟩, h.2.2.2.2⟩))
      ((hb1.cell (p := ⟨cb + 1, 0, none⟩) (by show cb + 1 < WL.heap.size; omega)).trans hbn.cell)
      (fun PB W h1 h2 h3 => ?_)).mono ?_
    · have hbw := hb1.trans (h2.mono (by omega))
      refine ⟨hR W1 W hR1 (fun i g1 g2 => h2.block i (by omega)), ⟨.slice none 0 0, 0, false, (hbw.block _ hch.lt).trans hch, KeptB.start _ _ _ _ _ _⟩, (hbw.block _ hbsL.lt).trans hbsL, (hbw.block _ hbjL.lt).trans hbjL, hbelL.trans (hbw.mono hbelL.size), by have := h2.size; omega⟩
    · rintro e W' ⟨hv, PB, h1, h2⟩
      exact ⟨hv, h2.1, PB, by omega, h2.2⟩
  case done =>
    rintro W ⟨PB, hPB, hj⟩ hD
    obtain ⟨sv, cost, fd, hc, hkp⟩ := hj.best
    have e0 := hc.c0
    have e2 := hc.c2
    rw [List.take_length] at hkp
    obtain ⟨x, hx⟩ := bp_some (byL s) J
    have hbl := (bp_loss Ht.out).trans hx
    have hbv := bp_val Ht.out hx
    unfold KeptB at hkp
    rw [hbl] at hkp
    obtain ⟨rfl, rfl, hl10, ho, _⟩ := hkp
    obtain ⟨A9, c9, rfl, _, _, _⟩ := ho.form
    have hbw := hj.below.size
    have Hfin := Lib.hid (show ∀ nq, RetS 3 (fun v => .tuple #[v, .bool true]) (bsP (byL s) J) w (.returned (.tuple #[.slice A9 x.length c9, .bool true])) ((W.drewN nq).putObj WL.heap.size (.deferred none)) from fun nq => by
      have hk := (KeepBut.refl (fun y => y = WL.heap.size) W).drewN nq |>.trans (keep_put (W.drewN nq) WL.heap.size (.deferred none))
      have ho2 := ho.but hk (Nat.le_refl _) (fun g e h => by have := ho.range g e; omega)
      rw [hbv]
      exact ⟨A9, c9, rfl, ho2.arg (by omega) (Nat.le_refl _), ho2.more (by omega) (Nat.le_refl _), hj.below.trans (hk.below (B := w.heap.size) (fun y hy => by omega) hbw)⟩)
    have HD := Lib.hid (fun nq => (show (W.drewN nq).heap[WL.heap.size]? = some (.deferred (some [])) from hD))
    rw [hszL] at HD Hfin
    clear hD hj hc ho hbl hbv hx
    gi_wp2
    gi_quiet_th (fail)
    gi_wp2
    refine ⟨by simp, .inl ⟨_, _, rfl, run_takeDeferred (HD.out nq), ?_⟩⟩
    refine ⟨_, results_tmp2 rfl _ _ _, ?_⟩
    exact Hfin.out nq

end Go.Proofs.YtbcgglkgdjafiaaDoor
