/-
  What is left on a chart, as a value of an interface: across, free, without; all routes from one index on.
-/
import Derived.Test.YtjboamhjfncgdaaRtE
import Derived.Test.YtjboamhjfncgdaaApI0
import Derived.Test.YtjboamhjfncgdaaTkH0
namespace Go.Proofs.Ytjboamhjfncgdaa
open Go.RowKit

/-! ### the value -/
def tyR : List Nat → TypeId
  | [] => 99
  | _ :: _ => 101
def pay (R : List Rot) : List Nat → Value
  | [] => .agg #[]
  | i :: l => .agg #[.int .i64 (i : Int), .int .i64 (rotAt R i).a, .int .i64 (rotAt R i).b, .int .i64 (rotAt R i).c, .int .i64 (rotAt R i).d, .iface (tyR l) (pay R l)]
/-- the routes with some indexes, one after the other -/
def restV (R : List Rot) (l : List Nat) : Value := .iface (tyR l) (pay R l)
def acF : List Nat → FuncId
  | [] => 122
  | _ :: _ => 125
def frF : List Nat → FuncId
  | [] => 123
  | _ :: _ => 126
def wiF : List Nat → FuncId
  | [] => 124
  | _ :: _ => 127
theorem ac_meth (R : List Rot) (l : List Nat) (w : World) : (method 221 (tyR l) (pay R l) "loop.example/cableship/impl.across").run Try.prog w = .ok (acF l, pay R l) w := by cases l <;> kernel_rfl
theorem fr_meth (R : List Rot) (l : List Nat) (w : World) : (method 221 (tyR l) (pay R l) "loop.example/cableship/impl.free").run Try.prog w = .ok (frF l, pay R l) w := by cases l <;> kernel_rfl
theorem wi_meth (R : List Rot) (l : List Nat) (w : World) : (method 221 (tyR l) (pay R l) "loop.example/cableship/impl.without").run Try.prog w = .ok (wiF l, pay R l) w := by cases l <;> kernel_rfl
theorem ac_nil (R : List Rot) (l : List Nat) (w : World) : (nilAhead 221 (tyR l) (pay R l) "loop.example/cableship/impl.across").run Try.prog w = .ok (some false) w := by cases l <;> kernel_rfl

/-! ### memory -/
theorem RetS.later {t : TypeId} {zs : List Int} {w w1 w2 w3 : World} {A : Option Addr} {c : Nat} (ha : Arg w2 A c zs) (ho : Ow t w1.heap.size w2.heap.size w2 (.slice A zs.length c) zs) (h1 : Below w.heap.size w w1) (h2 : Below w1.heap.size w1 w2) (h3 : Below w2.heap.size w2 w3) :
    RetS t id zs w (.returned (.slice A zs.length c)) w3 :=
  ⟨A, c, rfl, ha.go h3, (ho.go h3 (Nat.le_refl _)).more h1.size h3.size, below_step (below_step h1 h2) h3⟩
theorem own_one (w : World) (x : Int) (t : TypeId) : (w.alloc (.cells #[.int .i64 x] t)).ownsRow w.heap.size t 1 (.slice (some ⟨w.heap.size, 0, none⟩) 1 1) ([x] : List Int).length (([x] : List Int).map (Value.int .i64)) :=
  ⟨by simp, .inr ⟨w.heap.size, 1, #[.int .i64 x], rfl, Nat.le_refl _, heap_alloc_new w _, by simp, by simp [maxLen], by simp, by simp⟩⟩

/-- the boxes of a route that is left: the first block behind w -/
def Bx6 (w W : World) (i : Int) (s : Rot) (F : Value) : Prop :=
  W.cell? ⟨w.heap.size, 0, none⟩ = some (.int .i64 i) ∧ W.cell? ⟨w.heap.size, 1, none⟩ = some (.int .i64 s.a) ∧ W.cell? ⟨w.heap.size, 2, none⟩ = some (.int .i64 s.b) ∧ W.cell? ⟨w.heap.size, 3, none⟩ = some (.int .i64 s.c) ∧ W.cell? ⟨w.heap.size, 4, none⟩ = some (.int .i64 s.d) ∧ W.cell? ⟨w.heap.size, 5, none⟩ = some F
theorem Bx6.of {w W : World} {i : Int} {s : Rot} {F : Value} {t : TypeId} (h : W.heap[w.heap.size]? = some (.cells #[.int .i64 i, .int .i64 s.a, .int .i64 s.b, .int .i64 s.c, .int .i64 s.d, F] t (0, 0))) : Bx6 w W i s F :=
  ⟨cell_of_row _ _ 0 _ _ _ h, cell_of_row _ _ 1 _ _ _ h, cell_of_row _ _ 2 _ _ _ h, cell_of_row _ _ 3 _ _ _ h, cell_of_row _ _ 4 _ _ _ h, cell_of_row _ _ 5 _ _ _ h⟩
theorem Bx6.go {w W W' : World} {i : Int} {s : Rot} {F : Value} (h : Bx6 w W i s F) (hb : Below W.heap.size W W') : Bx6 w W' i s F := by
  obtain ⟨h0, h1, h2, h3, h4, h5⟩ := h
  have k : w.heap.size < W.heap.size := World.block_lt_of_cell? _ _ h0
  exact ⟨(hb.cell (p := ⟨w.heap.size, 0, none⟩) k).trans h0, (hb.cell (p := ⟨w.heap.size, 1, none⟩) k).trans h1, (hb.cell (p := ⟨w.heap.size, 2, none⟩) k).trans h2, (hb.cell (p := ⟨w.heap.size, 3, none⟩) k).trans h3, (hb.cell (p := ⟨w.heap.size, 4, none⟩) k).trans h4, (hb.cell (p := ⟨w.heap.size, 5, none⟩) k).trans h5⟩
theorem RotAt.go {W W' : World} {b o : Nat} {s : Rot} (h : RotAt W b o s) (hb : Below W.heap.size W W') : RotAt W' b o s := h.below hb (World.block_lt_of_cell? _ _ h.1)

theorem ac_call (l : List Nat) (args : Array Value) (w : World) : (callFunc (acF l) args).run Try.prog w = .ok (.enter (acF l) args) w := by cases l <;> kernel_rfl
theorem fr_call (l : List Nat) (args : Array Value) (w : World) : (callFunc (frF l) args).run Try.prog w = .ok (.enter (frF l) args) w := by cases l <;> kernel_rfl
theorem wi_call (l : List Nat) (args : Array Value) (w : World) : (callFunc (wiF l) args).run Try.prog w = .ok (.enter (wiF l) args) w := by cases l <;> kernel_rfl
theorem below_alloc_then {w W W' : World} {o : Obj} (h : Below w.heap.size w W) (hs : w.heap.size ≤ W.heap.size) (hg : (W.alloc o).grownBy W' (some W.heap.size)) : Below w.heap.size w W' :=
  (h.alloc hs o).grown hg (by simp; omega) (fun r e => by cases e; exact hs)
theorem freeL_len (R : List Rot) : ∀ l, (freeL R l).length ≤ l.length
  | [] => Nat.le_refl _
  | i :: l => by
    have := freeL_len R l
    rw [freeL]; split
    · simp only [List.length_cons]; omega
    · simp only [List.length_cons]; omega

set_option maxRecDepth 100000 in
set_option maxHeartbeats 4000000 in
theorem across_c (R : List Rot) (r : Rot) (hr : RtIn r) : ∀ (l : List Nat), (∀ i ∈ l, RtIn (rotAt R i)) → l.length ≤ 8 → ∀ w, Calls Try.prog (acF l) #[pay R l, r.v] w (RetS 3 id (ints (l.filter fun i => crB (rotAt R i) r)) w) := by
  intro l
  induction l with
  | nil =>
    intro _ _ w
    show Calls Try.prog 122 #[.agg #[], r.v] w _
    have Hb := Lib.hid (show Below w.heap.size w ((w.alloc (.cells #[] 99)).alloc (.cells #[.int .i64 r.a, .int .i64 r.b, .int .i64 r.c, .int .i64 r.d] 37)) from ((Below.refl _ _).alloc (Nat.le_refl _) _).alloc (by simp) _)
    unfold Rot.v
    go_enter Try.func122, Try.ntmps122
    go_wp2
    go_ret
    exact RetS.nil (f := id) Hb.out
  | cons i l ih =>
    intro hl h8 w
    have hl8 : l.length ≤ 8 := by simp at h8; omega
    have Ih := Lib.hid (fun w => ih (fun j hj => hl j (List.mem_cons_of_mem _ hj)) hl8 w)
    have hs := hl i (List.mem_cons_self ..)
    have hm := fun w => ac_meth R l w
    have hk := fun args w => ac_call l args w
    obtain ⟨i0, hi, hz0, hz1, hz2⟩ := info_parts intInf
    show Calls Try.prog 125 #[.agg #[.int .i64 (i : Int), .int .i64 (rotAt R i).a, .int .i64 (rotAt R i).b, .int .i64 (rotAt R i).c, .int .i64 (rotAt R i).d, .iface (tyR l) (pay R l)], r.v] w _
    have hfl : (ints (l.filter fun i => crB (rotAt R i) r)).length ≤ 8 := by rw [ints_length]; exact Nat.le_trans (List.length_filter_le _ _) hl8
    have hfc := List.filter_cons (p := fun i => crB (rotAt R i) r) (x := i) (xs := l)
    obtain ⟨s, hs0⟩ : ∃ s, rotAt R i = s := ⟨_, rfl⟩
    obtain ⟨T, hT⟩ : ∃ T, tyR l = T := ⟨_, rfl⟩
    obtain ⟨V, hV⟩ : ∃ V, pay R l = V := ⟨_, rfl⟩
    obtain ⟨g, hg⟩ : ∃ g, acF l = g := ⟨_, rfl⟩
    rw [hT, hV, hg] at hm
    rw [hg] at hk
    rw [hV, hg] at Ih
    simp only [hs0] at hs hfc ⊢
    rw [hT, hV, hfc]
    clear hfc
    obtain ⟨M, hM⟩ : ∃ M, l.filter (fun i => crB (rotAt R i) r) = M := ⟨_, rfl⟩
    rw [hM] at Ih hfl ⊢
    obtain ⟨Z, hZ⟩ : ∃ Z, (if crB s r = true then i :: M else M) = Z := ⟨_, rfl⟩
    rw [hZ]
    have HZ := Lib.hid hZ
    clear hZ
    have HC := Lib.hid (fun W => crosses_c s r W hs hr)
    clear hs0 hT hV hg hM hs hr ih hl h8 hl8
    unfold Rot.v at Ih HC ⊢
    have B0 := Lib.hid (show Below w.heap.size w ((w.alloc (.cells #[.int .i64 (i : Int), .int .i64 s.a, .int .i64 s.b, .int .i64 s.c, .int .i64 s.d, .iface T V] 101)).alloc (.cells #[.int .i64 r.a, .int .i64 r.b, .int .i64 r.c, .int .i64 r.d] 37)) from ((Below.refl _ _).alloc (Nat.le_refl _) _).alloc (by simp) _)
    have X0 := Lib.hid (show Bx6 w ((w.alloc (.cells #[.int .i64 (i : Int), .int .i64 s.a, .int .i64 s.b, .int .i64 s.c, .int .i64 s.d, .iface T V] 101)).alloc (.cells #[.int .i64 r.a, .int .i64 r.b, .int .i64 r.c, .int .i64 r.d] 37)) (i : Int) s (.iface T V) from Bx6.of (t := 101) (by rw [Below.heap_alloc _ _ _ (by simp)]; exact heap_alloc_new w _))
    have Y0 := Lib.hid (show RotAt ((w.alloc (.cells #[.int .i64 (i : Int), .int .i64 s.a, .int .i64 s.b, .int .i64 s.c, .int .i64 s.d, .iface T V] 101)).alloc (.cells #[.int .i64 r.a, .int .i64 r.b, .int .i64 r.c, .int .i64 r.d] 37)) (w.heap.size + 1) 0 r from by
      have h2 := heap_new2 w (.cells #[.int .i64 (i : Int), .int .i64 s.a, .int .i64 s.b, .int .i64 s.c, .int .i64 s.d, .iface T V] 101) (.cells #[.int .i64 r.a, .int .i64 r.b, .int .i64 r.c, .int .i64 r.d] 37)
      exact ⟨cell_of_row _ _ 0 _ _ _ h2, cell_of_row _ _ 1 _ _ _ h2, cell_of_row _ _ 2 _ _ _ h2, cell_of_row _ _ 3 _ _ _ h2⟩)
    go_enter Try.func125, Try.ntmps125
    go_wp2_with fail
    refine (Ih.out _).mono ?_
    rintro e w2 ⟨A2, c2, rfl, ra, ro, rb⟩
    dsimp only [id]
    have Ra := Lib.hid ra
    have Ro := Lib.hid ro
    have Rb := Lib.hid rb
    have X2 := Lib.hid (X0.out.go rb)
    have Y2 := Lib.hid (Y0.out.go rb)
    clear ra ro rb Ih X0 Y0
    obtain ⟨p0, p1, p2, p3, p4, p5⟩ := X2.out
    obtain ⟨q0, q1, q2, q3⟩ := Y2.out
    go_wp2_with fail
    refine (HC.out _).mono ?_
    rintro e w3 ⟨rfl, hb3⟩
    have Hb3 := Lib.hid hb3
    have HBW := Lib.hid (below_step (below_step B0.out Rb.out) hb3)
    clear hb3 p0 p1 p2 p3 p4 p5 q0 q1 q2 q3
    cases hc : crB s r
    · have hz : Z = M := by have := HZ.out; rw [hc, if_neg (by simp)] at this; exact this.symm
      subst hz
      clear hc
      go_wp2
      go_ret
      exact RetS.later Ra.out Ro.out B0.out Rb.out Hb3.out
    · obtain ⟨p0, p1, p2, p3, p4, p5⟩ := (X2.out.go Hb3.out)
      have hfl2 := hfl
      have hz : Z = i :: M := by have := HZ.out; rw [hc, if_pos rfl] at this; exact this.symm
      subst hz
      clear hc
      replace Ra := Lib.hid (Ra.out.go Hb3.out)
      go_wp2_with (at_builtin; refine wpList_append_ints rfl (.tmp 18) (.tmp 19) 25 rfl w.heap.size 3 i0 (.int .i64 0) Try.underlying25 hi hz0 hz1 hz2 rfl (.slice (some ⟨w3.heap.size, 0, none⟩) 1 1) [(i : Int)] rfl (OwnsRow.more (own_one w3 (i : Int) _) HBW.out.size) A2 c2 (ints M) rfl (Ra.out.go ((Below.refl _ _).alloc (Nat.le_refl _) _)) (by simp only [List.length_singleton]; omega) (by have := HBW.out.size; simp; omega) ?_; intro v' w9 hown9 hg9; have H9 := Lib.hid (And.intro hown9 (below_alloc_then HBW.out HBW.out.size hg9)); clear hown9 hg9)
      go_ret
      exact RetS.mk (f := id) (by rw [ints_length]; rw [ints_length] at hfl2; simp only [List.length_cons]; omega) H9.out.1 H9.out.2

set_option maxRecDepth 100000 in
set_option maxHeartbeats 4000000 in
theorem free_c (R : List Rot) : ∀ (l : List Nat), (∀ i ∈ l, RtIn (rotAt R i)) → l.length ≤ 8 → ∀ w, Calls Try.prog (frF l) #[pay R l] w (RetS 3 id (ints (freeL R l)) w) := by
  intro l
  induction l with
  | nil =>
    intro _ _ w
    show Calls Try.prog 123 #[.agg #[]] w _
    have Hb := Lib.hid (show Below w.heap.size w (w.alloc (.cells #[] 99)) from (Below.refl _ _).alloc (Nat.le_refl _) _)
    go_enter Try.func123, Try.ntmps123
    go_wp2
    go_ret
    exact RetS.nil (f := id) Hb.out
  | cons i l ih =>
    intro hl h8 w
    have hl8 : l.length ≤ 8 := by simp at h8; omega
    have Ih := Lib.hid (fun w => ih (fun j hj => hl j (List.mem_cons_of_mem _ hj)) hl8 w)
    have HC := Lib.hid (fun w => across_c R (rotAt R i) (hl i (List.mem_cons_self ..)) l (fun j hj => hl j (List.mem_cons_of_mem _ hj)) hl8 w)
    have hm := fun w => ac_meth R l w
    have hk := fun args w => ac_call l args w
    have hn := fun w => fr_meth R l w
    have hj := fun args w => fr_call l args w
    obtain ⟨i0, hi, hz0, hz1, hz2⟩ := info_parts intInf
    show Calls Try.prog 126 #[.agg #[.int .i64 (i : Int), .int .i64 (rotAt R i).a, .int .i64 (rotAt R i).b, .int .i64 (rotAt R i).c, .int .i64 (rotAt R i).d, .iface (tyR l) (pay R l)]] w _
    have hff : freeL R (i :: l) = if (l.filter fun j => crB (rotAt R j) (rotAt R i)) = [] then i :: freeL R l else freeL R l := rfl
    have hfl : (freeL R l).length ≤ 8 := Nat.le_trans (freeL_len R l) hl8
    obtain ⟨s, hs0⟩ : ∃ s, rotAt R i = s := ⟨_, rfl⟩
    obtain ⟨T, hT⟩ : ∃ T, tyR l = T := ⟨_, rfl⟩
    obtain ⟨V, hV⟩ : ∃ V, pay R l = V := ⟨_, rfl⟩
    obtain ⟨g, hg⟩ : ∃ g, acF l = g := ⟨_, rfl⟩
    obtain ⟨g', hg'⟩ : ∃ g, frF l = g := ⟨_, rfl⟩
    rw [hT, hV, hg] at hm
    rw [hg] at hk
    rw [hT, hV, hg'] at hn
    rw [hg'] at hj
    rw [hV, hg'] at Ih
    rw [hV, hg, hs0] at HC
    simp only [hs0] at hff ⊢
    rw [hT, hV, hff]
    clear hff
    obtain ⟨M, hM⟩ : ∃ M, freeL R l = M := ⟨_, rfl⟩
    obtain ⟨N, hN⟩ : ∃ N, l.filter (fun j => crB (rotAt R j) s) = N := ⟨_, rfl⟩
    rw [hM] at Ih hfl ⊢
    rw [hN] at HC ⊢
    obtain ⟨Z, hZ⟩ : ∃ Z, (if N = [] then i :: M else M) = Z := ⟨_, rfl⟩
    rw [hZ]
    have HZ := Lib.hid hZ
    clear hZ
    clear hs0 hT hV hg hg' hM hN ih hl h8 hl8
    unfold Rot.v at HC
    have B0 := Lib.hid (show Below w.heap.size w (w.alloc (.cells #[.int .i64 (i : Int), .int .i64 s.a, .int .i64 s.b, .int .i64 s.c, .int .i64 s.d, .iface T V] 101)) from (Below.refl _ _).alloc (Nat.le_refl _) _)
    have X0 := Lib.hid (show Bx6 w (w.alloc (.cells #[.int .i64 (i : Int), .int .i64 s.a, .int .i64 s.b, .int .i64 s.c, .int .i64 s.d, .iface T V] 101)) (i : Int) s (.iface T V) from Bx6.of (t := 101) (heap_alloc_new w _))
    go_enter Try.func126, Try.ntmps126
    go_wp2_with fail
    refine (Ih.out _).mono ?_
    rintro e w2 ⟨A2, c2, rfl, ra, ro, rb⟩
    dsimp only [id]
    have Ra := Lib.hid ra
    have Ro := Lib.hid ro
    have Rb := Lib.hid rb
    have X2 := Lib.hid (X0.out.go rb)
    clear ra ro rb Ih X0
    obtain ⟨p0, p1, p2, p3, p4, p5⟩ := X2.out
    go_wp2_with fail
    refine (HC.out _).mono ?_
    rintro e w3 ⟨A3, c3, rfl, _, _, hb3⟩
    dsimp only [id]
    have Hb3 := Lib.hid hb3
    have HBW := Lib.hid (below_step (below_step B0.out Rb.out) hb3)
    clear hb3 p0 p1 p2 p3 p4 p5
    by_cases hc : N = []
    · have hz : Z = i :: M := by have := HZ.out; rw [if_pos hc] at this; exact this.symm
      subst hz
      subst hc
      have e0 : ((ints ([] : List Nat)).length : Int) = 0 := rfl
      obtain ⟨p0, p1, p2, p3, p4, p5⟩ := (X2.out.go Hb3.out)
      have hfl2 := hfl
      replace Ra := Lib.hid (Ra.out.go Hb3.out)
      go_wp2_with (at_builtin; refine wpList_append_ints rfl (.tmp 17) (.tmp 18) 25 rfl w.heap.size 3 i0 (.int .i64 0) Try.underlying25 hi hz0 hz1 hz2 rfl (.slice (some ⟨w3.heap.size, 0, none⟩) 1 1) [(i : Int)] rfl (OwnsRow.more (own_one w3 (i : Int) _) HBW.out.size) A2 c2 (ints M) rfl (Ra.out.go ((Below.refl _ _).alloc (Nat.le_refl _) _)) (by rw [ints_length, List.length_singleton]; omega) (by have := HBW.out.size; simp; omega) ?_; intro v' w9 hown9 hg9; have H9 := Lib.hid (And.intro hown9 (below_alloc_then HBW.out HBW.out.size hg9)); clear hown9 hg9)
      go_ret
      exact RetS.mk (f := id) (by rw [ints_length, List.length_cons]; omega) H9.out.1 H9.out.2
    · have g1 : (0 : Int) < ((ints N).length : Int) := by have := List.length_pos_iff.2 hc; rw [ints_length]; omega
      have hz : Z = M := by have := HZ.out; rw [if_neg hc] at this; exact this.symm
      subst hz
      clear hc
      go_wp2
      go_ret
      exact RetS.later Ra.out Ro.out B0.out Rb.out Hb3.out

set_option maxRecDepth 100000 in
set_option maxHeartbeats 4000000 in
theorem without_c (R : List Rot) : ∀ (l : List Nat) (A : Option Addr) (c : Nat) (zs : List Int) (w : World), Arg w A c zs → Calls Try.prog (wiF l) #[pay R l, .slice A zs.length c] w (RetB (restV R (l.filter fun i => !inL zs i)) w) := by
  intro l
  induction l with
  | nil =>
    intro A c zs w _
    show Calls Try.prog 124 #[.agg #[], .slice A zs.length c] w _
    have Hb := Lib.hid (show Below w.heap.size w (w.alloc (.cells #[] 99)) from (Below.refl _ _).alloc (Nat.le_refl _) _)
    go_enter Try.func124, Try.ntmps124
    go_wp2
    go_ret
    exact ⟨rfl, Hb.out⟩
  | cons i l ih =>
    intro A c zs w ha
    have HA := Lib.hid ha
    have Ih := Lib.hid (fun w ha => ih A c zs w ha)
    have hm := fun w => wi_meth R l w
    have hk := fun args w => wi_call l args w
    show Calls Try.prog 127 #[.agg #[.int .i64 (i : Int), .int .i64 (rotAt R i).a, .int .i64 (rotAt R i).b, .int .i64 (rotAt R i).c, .int .i64 (rotAt R i).d, .iface (tyR l) (pay R l)], .slice A zs.length c] w _
    have hff := List.filter_cons (p := fun i => !inL zs i) (x := i) (xs := l)
    have hin : decide ((i : Int) ∈ zs) = inL zs i := rfl
    have HV : restV R (i :: l.filter fun i => !inL zs i) = .iface 101 (.agg #[.int .i64 (i : Int), .int .i64 (rotAt R i).a, .int .i64 (rotAt R i).b, .int .i64 (rotAt R i).c, .int .i64 (rotAt R i).d, restV R (l.filter fun i => !inL zs i)]) := rfl
    obtain ⟨s, hs0⟩ : ∃ s, rotAt R i = s := ⟨_, rfl⟩
    obtain ⟨T, hT⟩ : ∃ T, tyR l = T := ⟨_, rfl⟩
    obtain ⟨V, hV⟩ : ∃ V, pay R l = V := ⟨_, rfl⟩
    obtain ⟨g, hg⟩ : ∃ g, wiF l = g := ⟨_, rfl⟩
    rw [hT, hV, hg] at hm
    rw [hg] at hk
    rw [hV, hg] at Ih
    rw [hs0] at HV
    simp only [hs0]
    rw [hT, hV, hff]
    clear hff
    obtain ⟨N, hN⟩ : ∃ N, l.filter (fun i => !inL zs i) = N := ⟨_, rfl⟩
    rw [hN] at Ih HV ⊢
    obtain ⟨Z, hZ⟩ : ∃ Z, (if (!inL zs i) = true then i :: N else N) = Z := ⟨_, rfl⟩
    rw [hZ]
    have HZ := Lib.hid hZ
    clear hZ
    have hvz : ∃ T' V', restV R N = .iface T' V' := ⟨_, _, rfl⟩
    obtain ⟨T', V', hvz⟩ := hvz
    rw [hvz] at Ih HV
    have Hin := Lib.hid hin
    have Hv := Lib.hid HV
    have Hvz := Lib.hid hvz
    clear hvz
    clear hs0 hT hV hg hN ih ha hin HV
    have B0 := Lib.hid (show Below w.heap.size w (w.alloc (.cells #[.int .i64 (i : Int), .int .i64 s.a, .int .i64 s.b, .int .i64 s.c, .int .i64 s.d, .iface T V] 101)) from (Below.refl _ _).alloc (Nat.le_refl _) _)
    have X0 := Lib.hid (show Bx6 w (w.alloc (.cells #[.int .i64 (i : Int), .int .i64 s.a, .int .i64 s.b, .int .i64 s.c, .int .i64 s.d, .iface T V] 101)) (i : Int) s (.iface T V) from Bx6.of (t := 101) (heap_alloc_new w _))
    go_enter Try.func127, Try.ntmps127
    go_wp2_with fail
    refine (Ih.out _ (HA.out.go B0.out)).mono ?_
    rintro e w2 ⟨rfl, rb⟩
    have Rb := Lib.hid rb
    have X2 := Lib.hid (X0.out.go rb)
    have HBW := Lib.hid (below_step B0.out rb)
    clear rb Ih X0
    obtain ⟨p0, p1, p2, p3, p4, p5⟩ := X2.out
    have Hc := Lib.hid (contains_c A c zs (i : Int) w2 (HA.out.go HBW.out))
    go_wp2_with fail
    refine Hc.out.mono ?_
    rintro e w3 ⟨rfl, hb3⟩
    have Hb3 := Lib.hid hb3
    have HB3 := Lib.hid (below_step HBW.out hb3)
    have X3 := Lib.hid (X2.out.go hb3)
    clear hb3 p0 p1 p2 p3 p4 p5 X2 Hc
    rw [Hin.out]
    obtain ⟨p0, p1, p2, p3, p4, p5⟩ := X3.out
    cases hc : inL zs i
    · have hz : Z = i :: N := by have := HZ.out; rw [hc, Bool.not_false, if_pos rfl] at this; exact this.symm
      subst hz
      clear hc
      go_wp2
      go_ret
      exact ⟨by rw [Hv.out] <;> rfl, HB3.out⟩
    · have hz : Z = N := by have := HZ.out; rw [hc, Bool.not_true, if_neg (by simp)] at this; exact this.symm
      subst hz
      clear hc
      go_wp2
      go_ret
      exact ⟨by rw [Hvz.out] <;> rfl, HB3.out⟩

set_option maxRecDepth 100000 in
set_option maxHeartbeats 4000000 in
theorem routesFrom_c (A : Option Addr) (c : Nat) (ss : List Rot) (h8 : ss.length ≤ 8) : ∀ (m k : Nat), k + m = ss.length → ∀ w, ArgK w A c ss → Calls Try.prog 77 #[.slice A ss.length c, .int .i64 (k : Int)] w (RetB (restV ss (List.range' k m)) w) := by
  intro m
  induction m with
  | zero =>
    intro k hk w ha
    obtain rfl : k = ss.length := by omega
    clear ha
    go_enter Try.func77, Try.ntmps77
    go_wp2
    go_ret
    exact ⟨rfl, Below.refl _ _⟩
  | succ m ih =>
    intro k hk w ha
    have HA := Lib.hid ha
    have hlt : k < ss.length := by omega
    have Ih := Lib.hid (fun w ha => ih (k + 1) (by omega) w ha)
    have e1 : ((k + 1 : Nat) : Int) = (k : Int) + 1 := by omega
    rw [e1] at Ih
    have HV : restV ss (List.range' k (m + 1)) = .iface 101 (.agg #[.int .i64 (k : Int), .int .i64 (rotAt ss k).a, .int .i64 (rotAt ss k).b, .int .i64 (rotAt ss k).c, .int .i64 (rotAt ss k).d, restV ss (List.range' (k + 1) m)]) := by rw [List.range'_succ]; rfl
    obtain ⟨b, off, rfl, hat⟩ := argK_at ha hlt
    obtain ⟨s, hs⟩ : ∃ s, rotAt ss k = s := ⟨_, rfl⟩
    rw [hs] at hat HV
    have Hat := Lib.hid hat
    obtain ⟨T, V, hvz⟩ : ∃ T V, restV ss (List.range' (k + 1) m) = .iface T V := ⟨_, _, rfl⟩
    rw [hvz] at Ih HV
    have Hv := Lib.hid HV
    clear hvz
    have g1 : (k : Int) < (ss.length : Int) := by omega
    have g2 : ((k : Int) == (ss.length : Int)) = false := by rw [beq_eq_false_iff_ne]; omega
    have g3 : ((k : Int) = (ss.length : Int)) = False := eq_false (by omega)
    have q1 : IntKind.i64.wrap ((k : Int) + 1) = (k : Int) + 1 := IntWalk.i64_in _ (by omega)
    clear hs hat HV ha ih e1 hk
    go_enter Try.func77, Try.ntmps77
    go_wp2
    refine wp_region_held_drew (S := (fun W => Below w.heap.size w W)) (by kernel_rfl) (below_drewN (Below.refl _ _) 1) (fun hHeld => ?_)
    refine wpAnyH_take (i := 0) (oi := { dst := some 11, op := _, type := _, pos := _, after := _, guard := _ }) (v := ?va0) rfl (by kernel_rfl) (by kernel_rfl) (by kernel_rfl) (fun _ _ _ h => h) (Or.inl ⟨by kernel_rfl, ?ya0⟩) (by assumption) ?ra0
    case ya0 => intro w hSw; (try dsimp only at hSw); go_simp; try with_reducible rfl
    try simp only [Act.put, List.setIfInBounds_toArray, List.set_cons_zero, List.set_cons_succ]
    refine wpAnyH_take (i := 1) (oi := { dst := some 12, op := _, type := _, pos := _, after := _, guard := _ }) (v := ?va1) rfl (by kernel_rfl) (by kernel_rfl) (by kernel_rfl) (fun _ _ _ h => h) (Or.inl ⟨by kernel_rfl, ?ya1⟩) (by assumption) ?ra1
    case ya1 => intro w hSw; (try dsimp only at hSw); go_simp; try with_reducible rfl
    try simp only [Act.put, List.setIfInBounds_toArray, List.set_cons_zero, List.set_cons_succ]
    refine wpAnyH_take (i := 2) (oi := { dst := some 13, op := _, type := _, pos := _, after := _, guard := _ }) (v := ?va2) rfl (by kernel_rfl) (by kernel_rfl) (by kernel_rfl) (fun _ _ _ h => h) (Or.inl ⟨by kernel_rfl, ?ya2⟩) (by assumption) ?ra2
    case ya2 => intro w hSw; (try dsimp only at hSw); go_simp; try with_reducible rfl
    try simp only [Act.put, List.setIfInBounds_toArray, List.set_cons_zero, List.set_cons_succ]
    refine wpAnyH_take (i := 3) (oi := { dst := some 14, op := _, type := _, pos := _, after := _, guard := _ }) (v := ?va3) rfl (by kernel_rfl) (by kernel_rfl) (by kernel_rfl) (fun _ _ _ h => h) (Or.inl ⟨by kernel_rfl, ?ya3⟩) (by assumption) ?ra3
    case ya3 => intro w hSw; (try dsimp only at hSw); go_simp; try with_reducible rfl
    try simp only [Act.put, List.setIfInBounds_toArray, List.set_cons_zero, List.set_cons_succ]
    refine wpAnyH_take (i := 4) (oi := { dst := some 15, op := _, type := _, pos := _, after := _, guard := _ }) (v := ?va4) rfl (by kernel_rfl) (by kernel_rfl) (by kernel_rfl) (fun _ _ _ h => h) (Or.inl ⟨by kernel_rfl, ?ya4⟩) (by assumption) ?ra4
    case ya4 => intro w hSw; obtain ⟨c0, c1, c2, c3⟩ := Hat.out _ hSw; (try dsimp only at hSw); go_simp; try with_reducible rfl
    try simp only [Act.put, List.setIfInBounds_toArray, List.set_cons_zero, List.set_cons_succ]
    refine wpAnyH_take (i := 5) (oi := { dst := some 16, op := _, type := _, pos := _, after := _, guard := _ }) (v := ?va5) rfl (by kernel_rfl) (by kernel_rfl) (by kernel_rfl) (fun _ _ _ h => h) (Or.inl ⟨by kernel_rfl, ?ya5⟩) (by assumption) ?ra5
    case ya5 => intro w hSw; (try dsimp only at hSw); go_simp; try with_reducible rfl
    try simp only [Act.put, List.setIfInBounds_toArray, List.set_cons_zero, List.set_cons_succ]
    refine wpAnyH_take (i := 6) (oi := { dst := some 17, op := _, type := _, pos := _, after := _, guard := _ }) (v := ?va6) rfl (by kernel_rfl) (by kernel_rfl) (by kernel_rfl) (fun _ _ _ h => h) (Or.inl ⟨by kernel_rfl, ?ya6⟩) (by assumption) ?ra6
    case ya6 => intro w hSw; (try dsimp only at hSw); go_simp; try with_reducible rfl
    try simp only [Act.put, List.setIfInBounds_toArray, List.set_cons_zero, List.set_cons_succ]
    refine wpAnyH_take (i := 7) (oi := { dst := some 18, op := _, type := _, pos := _, after := _, guard := _ }) (v := ?va7) rfl (by kernel_rfl) (by kernel_rfl) (by kernel_rfl) (fun _ _ _ h => h) (Or.inl ⟨by kernel_rfl, ?ya7⟩) (by assumption) ?ra7
    case ya7 => intro w hSw; (try dsimp only at hSw); go_simp; try with_reducible rfl
    try simp only [Act.put, List.setIfInBounds_toArray, List.set_cons_zero, List.set_cons_succ]
    refine wpAnyH_ready (rs := [8]) (by kernel_rfl) (by simp) ?_
    refine AllReadyH.cons (o := { dst := some 19, op := _, type := _, pos := _, after := _, guard := _ }) rfl (fun K hK => ?_) AllReadyH.nil
    go_simp
    refine (Ih.out _ (HA.out.go (by assumption))).mono ?_
    rintro e w2 ⟨rfl, hb2⟩
    go_wp2_with fail
    refine hK.out _ _ (below_step hHeld hb2) (fun hHeld2 => ?_)
    clear hK K
    try simp only [Act.put, List.setIfInBounds_toArray, List.set_cons_zero, List.set_cons_succ]
    refine wpAnyH_take (i := 9) (oi := { dst := some 20, op := _, type := _, pos := _, after := _, guard := _ }) (v := ?vb9) rfl (by kernel_rfl) (by kernel_rfl) (by kernel_rfl) (fun _ _ _ h => h) (Or.inl ⟨by kernel_rfl, ?yb9⟩) (by assumption) ?rb9
    case yb9 => intro w hSw; (try dsimp only at hSw); go_simp; try with_reducible rfl
    try simp only [Act.put, List.setIfInBounds_toArray, List.set_cons_zero, List.set_cons_succ]
    refine wpAnyH_take (i := 10) (oi := { dst := some 21, op := _, type := _, pos := _, after := _, guard := _ }) (v := ?vb10) rfl (by kernel_rfl) (by kernel_rfl) (by kernel_rfl) (fun _ _ _ h => h) (Or.inl ⟨by kernel_rfl, ?yb10⟩) (by assumption) ?rb10
    case yb10 => intro w hSw; (try dsimp only at hSw); go_simp; try with_reducible rfl
    try simp only [Act.put, List.setIfInBounds_toArray, List.set_cons_zero, List.set_cons_succ]
    refine wpAnyH_take (i := 11) (oi := { dst := some 4, op := _, type := _, pos := _, after := _, guard := _ }) (v := ?vb11) rfl (by kernel_rfl) (by kernel_rfl) (by kernel_rfl) (fun _ _ _ h => h) (Or.inl ⟨by kernel_rfl, ?yb11⟩) (by assumption) ?rb11
    case yb11 => intro w hSw; (try dsimp only at hSw); go_simp; try with_reducible rfl
    try simp only [Act.put, List.setIfInBounds_toArray, List.set_cons_zero, List.set_cons_succ]
    refine wpAnyH_done (by kernel_rfl) ?_ _
    go_wp2
    go_ret
    exact ⟨by rw [Hv.out]; rfl, hHeld2⟩

end Go.Proofs.Ytjboamhjfncgdaa
