/-
  SparesSort of the program: slices.SortFunc by its contract.
-/
import Derived.Test.YtmbdggakahbciaaSortL
import Derived.Test.YtmbdggakahbciaaSpSS
import Derived.Deep.RegionHeld3
import Derived.Sort.OwnSorted
import Derived.Sort.OwnSortedInts
namespace Go.Proofs.Ytmbdggakahbciaa
open Go.RowKit Go.Sort Go.Shelf

instance : Inhabited Spr := ⟨Spr.zero⟩
def cmpI (a b : Int) : Int := if a < b then -1 else if a > b then 1 else 0
def orI (a b : Int) : Int := if a = 0 then b else a
/-- by kind, then by miles, the greatest first -/
def cfS (x y : Spr) : Int := orI (cmpI x.k y.k) (cmpI y.m x.m)
theorem ltS (x y : Spr) : ltOf cfS x y = decide (x.k < y.k ∨ (x.k = y.k ∧ y.m < x.m)) := by
  unfold ltOf cfS orI cmpI
  by_cases h1 : x.k < y.k
  · simp [h1]
  · by_cases h2 : y.k < x.k
    · simp [h1, h2]; omega
    · have h3 : x.k = y.k := by omega
      by_cases h4 : y.m < x.m
      · simp [h3, h4]
      · by_cases h5 : x.m < y.m <;> simp [h3, h4, h5]
theorem swoS : SWO (ltOf cfS) where
  irrefl x := by rw [ltS]; simp
  trans x y z h1 h2 := by rw [ltS] at *; simp at *; omega
  ntrans x y z h1 h2 := by rw [ltS] at *; simp at *; omega
theorem oneS (x y : Spr) (h1 : ltOf cfS x y = false) (h2 : ltOf cfS y x = false) : x = y := by
  rw [ltS] at h1 h2
  simp at h1 h2
  exact Spr.ext_ (by omega) (by omega)
theorem leS_lt (x y : Spr) : (!(ltOf cfS) y x) = leS x y := by
  rw [ltS]
  cases h : leS x y
  · simp only [Bool.not_eq_false', decide_eq_true_eq]
    have h2 : ¬ (leS x y = true) := by rw [h]; simp
    rw [leS_true] at h2
    omega
  · have h2 := leS_true.1 h
    simp only [Bool.not_eq_true', decide_eq_false_iff_not]
    omega

theorem isNaN_c (x : Int) (w : World) : Calls Try.prog 68 #[.int .i64 x] w fun e w' => e = .returned (.bool false) ∧ w = w' := by
  go_enter Try.func68, Try.ntmps68
  go_wp2
  go_ret
  exact ⟨rfl, rfl⟩
theorem compare_c (x y : Int) (w : World) : Calls Try.prog 46 #[.int .i64 x, .int .i64 y] w fun e w' => e = .returned (.int .i64 (cmpI x y)) ∧ w = w' := by
  have key : cmpI x y = if x < y then -1 else if x > y then 1 else 0 := rfl
  have Key := Lib.hid key
  clear key
  by_cases h1 : x < y <;> by_cases h2 : x > y
  all_goals
    go_enter Try.func46, Try.ntmps46
    go_wp2_with fail
    refine (isNaN_c _ _).mono ?_
    rintro e w1 ⟨rfl, rfl⟩
    go_wp2_with fail
    refine (isNaN_c _ _).mono ?_
    rintro e w2 ⟨rfl, rfl⟩
    go_wp2
    go_ret
    refine ⟨?_, rfl⟩
    rw [Key.out]
    first
      | (rw [if_pos (by omega)]; rfl)
      | (rw [if_neg (by omega), if_pos (by omega)]; rfl)
      | (rw [if_neg (by omega), if_neg (by omega)]; rfl)

set_option maxHeartbeats 1000000 in
theorem or_c (b : Nat) (v0 v1 : Int) (w : World) (h0 : w.cell? ⟨b, 0, none⟩ = some (.int .i64 v0)) (h1 : w.cell? ⟨b, 1, none⟩ = some (.int .i64 v1)) :
    Calls Try.prog 45 #[.slice (some ⟨b, 0, none⟩) 2 2] w fun e w' => e = .returned (.int .i64 (orI v0 v1)) ∧ w = w' := by
  have H0 := Lib.hid h0
  have H1 := Lib.hid h1
  clear h0 h1
  go_enter Try.func45, Try.ntmps45
  go_wp2
  go_loopw [8] (fun i wr => ∃ k : Nat, k ≤ 2 ∧ i = .int .i64 k ∧ (0 < k → v0 = 0) ∧ (1 < k → v1 = 0) ∧ w = wr) (fun i _ => 2 - (intOf i).toNat)
  case atStart => exact ⟨0, by omega, rfl, fun h => absurd h (by omega), fun h => absurd h (by omega), rfl⟩
  case round =>
    obtain ⟨k, hk, rfl, z0, z1, rfl⟩ := hrel
    rcases (by omega : k = 0 ∨ k = 1 ∨ k = 2) with rfl | rfl | rfl
    · have c0 := H0.out
      by_cases hv : v0 = 0
      · have Hv := Lib.hid hv
        clear z0 z1
        go_wp2
        go_roundw
        case rel => exact ⟨1, by omega, rfl, fun _ => Hv.out, fun h => absurd h (by omega), trivial⟩
        case measure => simp [intOf]
      · have Hv := Lib.hid hv
        clear z0 z1
        go_wp2
        go_ret
        exact ⟨by unfold orI; rw [if_neg Hv.out]; rfl, rfl⟩
    · have c1 := H1.out
      have Hz := Lib.hid (z0 (by omega))
      by_cases hv : v1 = 0
      · have Hv := Lib.hid hv
        clear z0 z1
        go_wp2
        go_roundw
        case rel => exact ⟨2, by omega, rfl, fun _ => Hz.out, fun _ => Hv.out, trivial⟩
        case measure => simp [intOf]
      · clear z0 z1
        go_wp2
        go_ret
        exact ⟨by unfold orI; rw [if_pos Hz.out]; rfl, rfl⟩
    · have Hz := Lib.hid (And.intro (z0 (by omega)) (z1 (by omega)))
      clear z0 z1
      go_wp2
      go_ret
      exact ⟨by unfold orI; rw [if_pos Hz.out.1, Hz.out.2]; rfl, rfl⟩

theorem cell_new (X : World) (cs : Array Value) (t : TypeId) (b j : Nat) (hb : b = X.heap.size) : (X.alloc (.cells cs t)).cell? ⟨b, j, none⟩ = cs[j]? := by
  subst hb
  exact cell_of_row _ _ j _ _ _ (heap_alloc_new X _)

set_option maxHeartbeats 2000000 in
theorem cmpS_c (x y : Spr) (W : World) : Calls Try.prog 44 #[.agg #[.int .i64 x.m, .int .i64 x.k], .agg #[.int .i64 y.m, .int .i64 y.k]] W fun e w' => e = .returned (.int .i64 (cfS x y)) ∧ ∃ q os', w' = grow (W.drewN q) os' := by
  obtain ⟨w2, hw2⟩ : ∃ w2, w2 = (W.alloc (.cells #[.int .i64 x.m, .int .i64 x.k] 30)).alloc (.cells #[.int .i64 y.m, .int .i64 y.k] 30) := ⟨_, rfl⟩
  have hsz : w2.heap.size = W.heap.size + 1 + 1 := by rw [hw2]; simp
  have d0 : w2.cell? ⟨W.heap.size, 0, none⟩ = some (.int .i64 x.m) := by rw [hw2, World.cell?_alloc_lt _ _ _ (by simp)]; exact cell_new _ _ _ _ 0 rfl
  have d1 : w2.cell? ⟨W.heap.size, 1, none⟩ = some (.int .i64 x.k) := by rw [hw2, World.cell?_alloc_lt _ _ _ (by simp)]; exact cell_new _ _ _ _ 1 rfl
  have d2 : w2.cell? ⟨W.heap.size + 1, 0, none⟩ = some (.int .i64 y.m) := by rw [hw2]; exact cell_new _ _ _ _ 0 (by simp)
  have d3 : w2.cell? ⟨W.heap.size + 1, 1, none⟩ = some (.int .i64 y.k) := by rw [hw2]; exact cell_new _ _ _ _ 1 (by simp)
  have hgr : ∀ o : Obj, (w2.alloc o).drew = grow (W.drewN 1) (#[.cells #[.int .i64 x.m, .int .i64 x.k] 30] ++ #[.cells #[.int .i64 y.m, .int .i64 y.k] 30] ++ #[o]) := by
    intro o
    rw [hw2, alloc_eq_grow, alloc_eq_grow, alloc_eq_grow, grow_grow, grow_grow, drew_grow]
    rfl
  have pk2 : ∀ o : Obj, (w2.alloc o).drew.cell? ⟨W.heap.size, 0, none⟩ = some (.int .i64 x.m) ∧ (w2.alloc o).drew.cell? ⟨W.heap.size, 1, none⟩ = some (.int .i64 x.k) ∧ (w2.alloc o).drew.cell? ⟨W.heap.size + 1, 0, none⟩ = some (.int .i64 y.m) ∧ (w2.alloc o).drew.cell? ⟨W.heap.size + 1, 1, none⟩ = some (.int .i64 y.k) := fun o =>
    ⟨(World.cell?_alloc_lt w2 o ⟨W.heap.size, 0, none⟩ (by show W.heap.size < _; omega)).trans d0, (World.cell?_alloc_lt w2 o ⟨W.heap.size, 1, none⟩ (by show W.heap.size < _; omega)).trans d1, (World.cell?_alloc_lt w2 o ⟨W.heap.size + 1, 0, none⟩ (by show W.heap.size + 1 < _; omega)).trans d2, (World.cell?_alloc_lt w2 o ⟨W.heap.size + 1, 1, none⟩ (by show W.heap.size + 1 < _; omega)).trans d3⟩
  have pk1 := And.intro d0 (And.intro d1 (And.intro d2 d3))
  obtain ⟨r0, hr0⟩ : ∃ r0, cmpI x.k y.k = r0 := ⟨_, rfl⟩
  obtain ⟨r1, hr1⟩ : ∃ r1, cmpI y.m x.m = r1 := ⟨_, rfl⟩
  have Hcf := Lib.hid (show cfS x y = orI r0 r1 by unfold cfS; rw [hr0, hr1])
  have Hr0 := Lib.hid hr0
  have Hr1 := Lib.hid hr1
  have Hgr := Lib.hid hgr
  have Hsz := Lib.hid hsz
  have Hor := Lib.hid (fun (b : Nat) (X : World) (hb : b = X.heap.size) => or_c b r0 r1 (X.alloc (.cells #[.int .i64 r0, .int .i64 r1] 3)).drew ((cell_new X _ _ b 0 hb).trans rfl) ((cell_new X _ _ b 1 hb).trans rfl))
  have Hszd := Lib.hid hsz.symm
  have Hpk2 := Lib.hid pk2
  rw [hw2] at pk1 Hgr Hszd Hpk2
  clear hr0 hr1 hgr hsz d0 d1 d2 d3 pk2 hw2
  go_enter Try.func44, Try.ntmps44
  go_wp2
  go_region_held3 (fun w9 => w9.cell? ⟨W.heap.size, 0, none⟩ = some (.int .i64 x.m) ∧ w9.cell? ⟨W.heap.size, 1, none⟩ = some (.int .i64 x.k) ∧ w9.cell? ⟨W.heap.size + 1, 0, none⟩ = some (.int .i64 y.m) ∧ w9.cell? ⟨W.heap.size + 1, 1, none⟩ = some (.int .i64 y.k)) (first | exact pk1 | exact Hpk2.out _)
    (first
    | (go_at_call_of 46 (x.k); refine (compare_c _ _ _).mono ?_; rintro e w' ⟨rfl, rfl⟩; rw [Hr0.out])
    | (go_at_call_of 46 (x.m); refine (compare_c _ _ _).mono ?_; rintro e w' ⟨rfl, rfl⟩; rw [Hr1.out])
    | (go_at_call 45; refine (Hor.out _ _ Hszd.out).mono ?_; rintro e w' ⟨rfl, rfl⟩)
    | fail)
  all_goals
    go_wp2
    go_ret
    exact ⟨by rw [Hcf.out]; rfl, 1, _, Hgr.out _⟩

def encS (s : Spr) : List Value := [.int .i64 s.m, .int .i64 s.k]
theorem cmpLaysS (blk off size : Nat) (w : World) : CmpLays Try.prog 44 #[] encS 2 cfS blk off size w := fun _ _ _ _ x y => cmpS_c x y _

theorem flatK_spr (ss : List Spr) : flatK encS 2 ss.toArray = (sprCells ss).toArray := by
  apply Array.ext_getElem?
  intro t
  by_cases ht : t < ss.length * 2
  · have h2 : (sprCells ss)[t]? = (sprCell (sprAt ss (t / 2)))[t % 2]? := by
      have := sprCells_at ss (t / 2) (t % 2) (by omega) (by omega)
      rwa [show t / 2 * 2 + t % 2 = t by omega] at this
    rw [show (sprCells ss).toArray[t]? = (sprCells ss)[t]? by simp, h2]
    have hl : t / 2 < ss.length := by omega
    have h3 : t % 2 < (encS ss[t / 2]).length := by simp [encS]; omega
    simp [flatK, ht, hl, sprAt_lt hl, encS, sprCell]
    rcases (by omega : t % 2 = 0 ∨ t % 2 = 1) with h | h <;> simp [h]
  · rw [show (sprCells ss).toArray[t]? = (sprCells ss)[t]? by simp, List.getElem?_eq_none (l := sprCells ss) (by rw [sprCells_length]; omega), Array.getElem?_eq_none (by rw [size_flatK]; simp; omega)]

theorem holds_own {w : World} {g : Nat} {cur : Array Value} {e : TypeId} {ss : List Spr} (hb : w.heap[g]? = some (.cells cur e (0, 0))) (ht : cur.toList.take (ss.length * 2) = sprCells ss) : HoldsK encS 2 w g 0 ss.toArray := by
  unfold HoldsK
  rw [flatK_spr]
  intro j hj
  have hj' : j < ss.length * 2 := by simpa [sprCells_length] using hj
  refine ⟨?_, by simp [World.frozen?, hb]⟩
  have h1 : (cur.toList.take (ss.length * 2))[j]? = (sprCells ss)[j]? := by rw [ht]
  rw [List.getElem?_take_of_lt hj'] at h1
  simp only [World.cell?, hb, Nat.zero_add]
  simp only [Option.isSome_none, Bool.false_eq_true, if_false]
  rw [← Array.getElem?_toList, h1]
  have hj2 : j < (sprCells ss).length := by rw [sprCells_length]; exact hj'
  simp [hj2]
theorem take_putS (cur : Array Value) (vs : List Value) (h : vs.length ≤ cur.size) : (putCells id 0 vs.toArray cur).toList.take vs.length = vs := by
  apply List.ext_getElem?
  intro j
  by_cases hj : j < vs.length
  · rw [List.getElem?_take_of_lt hj, Array.getElem?_toList]
    simp [putCells, hj, show j < cur.size by omega]
  · rw [List.getElem?_take_eq_none (by omega), List.getElem?_eq_none (by omega)]
/-- behind the sort the same slice owns the sorted list -/
theorem own_sortedS {w : World} {base g cap n m : Nat} {e : TypeId} {os : Array Obj} {cur : Array Value} {ts : List Spr} (hl : ts.length = m) (hbase : base ≤ g) (hb : w.heap[g]? = some (.cells cur e (0, 0)))
    (h1 : m ≤ cap) (h2 : cap ≤ maxLen) (h3 : cur.size = cap * 2) :
    (sortWorldK encS 2 w g 0 n ts.toArray os).ownsRow base e 2 (.slice (some ⟨g, 0, none⟩) m cap) m (sprCells ts) ∧ w.grownBy (sortWorldK encS 2 w g 0 n ts.toArray os) (some g) := by
  have hg : g < w.heap.size := (Array.getElem?_eq_some_iff.1 hb).1
  unfold sortWorldK putRowK
  rw [flatK_spr]
  have hx : (grow (putRow id (Sort.ahead w n) g 0 (sprCells ts).toArray) os).heap[g]? = some (.cells (putCells id 0 (sprCells ts).toArray cur) e (0, 0)) := by
    rw [heap_grow_old _ _ (by simpa using hg)]
    simp [putRow, mapBlock, Sort.ahead, Array.getElem?_modify, hb, onCells]
  have hlen : (sprCells ts).length = m * 2 := by rw [sprCells_length, hl]
  refine ⟨⟨hlen, .inr ⟨g, cap, _, rfl, hbase, hx, h1, h2, by simp [putCells, h3], by rw [← hlen]; exact take_putS cur _ (by omega)⟩⟩, ?_⟩
  refine ⟨rfl, rfl, rfl, by simp, fun k hk hne => ?_⟩
  rw [heap_grow_old _ _ (by simpa using hk)]
  have : g ≠ k := fun e => hne (by rw [e])
  simp [putRow, mapBlock, Sort.ahead, Array.getElem?_modify, this]

theorem sortZ_total (L : List Spr) : L.toArray.toList.mergeSort (fun x y => !(ltOf cfS) y x) = sortZ L := by
  unfold sortZ
  rw [show (fun x y => !(ltOf cfS) y x) = leS from funext fun x => funext fun y => leS_lt x y]

set_option maxHeartbeats 1000000 in
theorem implSparesSort_b (A : Option Addr) (c : Nat) (L : List Spr) (w : World) (ha : ArgZ w A c L) :
    Calls Try.prog 14 #[.slice A L.length c] w (RetZ 30 (fun v => .tuple #[v, .bool (sprB 10 L)]) (sortR L) w) := by
  have HA := Lib.hid ha
  clear ha
  go_enter Try.func14, Try.ntmps14
  go_wp2_with fail
  refine (implSparesValid_b A c L _ HA.out).mono ?_
  rintro e w1 ⟨rfl, hb1⟩
  have Hb1 := Lib.hid hb1
  have HA1 := Lib.hid (HA.out.go hb1)
  clear hb1
  cases hv : sprB 10 L
  · have Hv := Lib.hid hv
    clear hv
    go_wp2
    go_ret2
    rw [Hv.out, show sortR L = [] by unfold sortR; rw [Hv.out]; rfl]
    exact RetZ.nil (f := fun v => .tuple #[v, .bool false]) Hb1.out
  have Hv := Lib.hid hv
  have hl10 := (sprB_true.1 hv).1
  clear hv
  have Hs := Lib.hid (show sortR L = sortZ L by unfold sortR; rw [Hv.out]; rfl)
  go_wp2_with fail
  refine (cloneZ_c A c L _ HA1.out).mono ?_
  rintro e w2 ⟨A2, c2, rfl, ra2, ro2, rb2⟩
  dsimp only [id]
  have hfin : ∃ (Wf : World → Prop), Calls Try.prog 43 #[.slice A2 L.length c2, .func (.func 44) #[] #[]] w2 (fun e w' => e = .returned (.tuple #[]) ∧ w'.ownsRow w1.heap.size 30 2 (.slice A2 L.length c2) L.length (sprCells (sortZ L)) ∧ Below w1.heap.size w1 w') := by
    refine ⟨fun _ => True, ?_⟩
    by_cases hn : L.length = 0
    · have h0 : L = [] := List.eq_nil_of_length_eq_zero hn
      subst h0
      have h := AnyF.slices_SortFunc_none { Try.sortSpr with } A2 c2 (.func (.func 44) #[] #[]) w2
      refine Calls.mono h ?_
      rintro e w' ⟨rfl, rfl⟩
      exact ⟨rfl, by simpa [sortZ] using ro2.own, rb2⟩
    · rcases ro2.own.2 with ⟨h0, h1⟩ | ⟨g, cap, cur, hv2, hlo, hgg, hnc, hcm, hcs, htk⟩
      · exact absurd h1 hn
      · injection hv2 with e1 e2 e3
        subst e1; subst e3
        have hlt : g < w2.heap.size := (Array.getElem?_eq_some_iff.1 hgg).1
        have h := AnyQ.slices_SortFunc_total Try.sortSpr 2 Try.isAgg30 Try.sizeOf30 encS (fun _ => rfl) (fun x v hv => by simp [encS] at hv; rcases hv with rfl | rfl <;> rfl) cfS swoS 44 #[] g 0 c2 L.toArray w2
          (enters_of Try.func44 (by kernel_rfl) rfl) (cmpLaysS g 0 _ w2) (holds_own hgg htk) hlt (by simp; omega) oneS
        rw [sortZ_total] at h
        refine Calls.mono h ?_
        rintro e w' ⟨rfl, n, os, rfl⟩
        obtain ⟨h3, h4⟩ := own_sortedS (w := w2) (n := n) (os := os) (ts := sortZ L) (m := L.length) (base := w1.heap.size) (sortZ_length L) hlo hgg hnc hcm hcs
        exact ⟨rfl, h3, rb2.grown h4 rb2.size (fun r e => by injection e with e; omega)⟩
  obtain ⟨_, hfin⟩ := hfin
  have Hfin := Lib.hid hfin
  clear hfin ra2 ro2 rb2
  go_wp2_with fail
  refine Hfin.out.mono ?_
  rintro e w3 ⟨rfl, ho3, hb3⟩
  have hr := RetZ.mk (f := fun v => .tuple #[v, .bool true]) (zs := sortZ L) (w := w1) (by rw [sortZ_length]; omega) (by rw [sortZ_length]; exact ho3) hb3
  obtain ⟨A5, c5, e5, a5, o5, b5⟩ := hr
  have Hr := Lib.hid (show RetZ 30 (fun v => .tuple #[v, .bool true]) (sortZ L) w (.returned (.tuple #[.slice A2 L.length c2, .bool true])) w3 from ⟨A5, c5, e5, a5, o5.more (by have := Hb1.out.size; omega) (Nat.le_refl _), below_step Hb1.out b5⟩)
  clear ho3 hb3 e5 a5 o5 b5
  go_wp2
  go_ret2
  rw [Hs.out, Hv.out]
  exact Hr.out

end Go.Proofs.Ytmbdggakahbciaa
