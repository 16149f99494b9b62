/-
  freeWay of the program: the walk.
-/
import Derived.Test.YtnekjhpocfdpnaaTfQ
namespace Go.Proofs.Ytnekjhpocfdpnaa
open Go.RowKit Go.Maps

/-- a slice that the caller gets, in new memory -/
def RetH (z : List Int) (w : World) (e : Ending) (w' : World) : Prop := ∃ A c, e = .returned (.slice A z.length c) ∧ Held w.heap.size w'.heap.size w' A c z ∧ Below w.heap.size w w'
theorem WyRd.arg {own : Nat → Prop} {W : World} {v : Value} {z : List Int} (h : WyRd own W v z) (hl : z.length ≤ 2097152) : ∃ b off c, v = .slice (some ⟨b, off, none⟩) z.length c ∧ Arg W (some ⟨b, off, none⟩) c z := by
  obtain ⟨b, off, c, e, h1, h2, ho, hlt, hk⟩ := h
  exact ⟨b, off, c, e, hl, h1, h2, fun _ => ⟨b, off, rfl, Nat.zero_le _, hlt, hk⟩⟩
/-- what is known of the ways that wait -/
def WyP (m F : Nat) (z : List Int) : Prop := 1 ≤ z.length ∧ z.length + F ≤ 8 ∧ ∀ x ∈ z, 0 ≤ x ∧ x < (m : Int)
theorem lastI_mem {z : List Int} (h : 1 ≤ z.length) : lastI z ∈ z := by
  unfold lastI
  rw [List.getElem?_eq_getElem (by omega)]
  simp
theorem exp_WyP {fr : Int → Int → Bool} {m F : Nat} {p : List Int} {R : List Bool} {Q : List (List Int)} (hp : WyP m (F + 1) p) (hQ : ∀ z ∈ Q, WyP m (F + 1) z) : ∀ z ∈ (expS fr p (R, Q) m).2, WyP m F z := by
  intro z hz
  rcases exp_len m z hz with h | ⟨x, h0, h1, rfl⟩
  · obtain ⟨h2, h3, h4⟩ := hQ z h
    exact ⟨h2, by omega, h4⟩
  · obtain ⟨h2, h3, h4⟩ := hp
    refine ⟨by simp, by simp; omega, fun y hy => ?_⟩
    rcases List.mem_append.1 hy with h5 | h5
    · exact h4 y h5
    · simp at h5; subst h5; exact ⟨h0, h1⟩

theorem start_QW (W : World) (x : Int) (t1 t2 : TypeId) : QW (owAt (owAt (fun _ => 2) W.heap.size 1) (W.heap.size + 1) 0) ((W.alloc (.cells #[.int .i64 x] t1)).alloc (.cells #[.slice (some ⟨W.heap.size, 0, none⟩) 1 1] t2)) (.slice (some ⟨W.heap.size + 1, 0, none⟩) 1 1) [[x]] := by
  have hs : (W.alloc (.cells #[.int .i64 x] t1)).heap.size = W.heap.size + 1 := by simp
  have c1 : ((W.alloc (.cells #[.int .i64 x] t1)).alloc (.cells #[.slice (some ⟨W.heap.size, 0, none⟩) 1 1] t2)).cell? ⟨W.heap.size + 1, 0, none⟩ = some (.slice (some ⟨W.heap.size, 0, none⟩) 1 1) := by
    rw [World.cell?_alloc_at _ _ _ _ hs.symm]; rfl
  have c0 : ((W.alloc (.cells #[.int .i64 x] t1)).alloc (.cells #[.slice (some ⟨W.heap.size, 0, none⟩) 1 1] t2)).cell? ⟨W.heap.size, 0, none⟩ = some (.int .i64 x) := by
    rw [World.cell?_alloc_past _ _ _ (by omega), World.cell?_alloc_at _ _ _ _ rfl]; rfl
  have f1 : ((W.alloc (.cells #[.int .i64 x] t1)).alloc (.cells #[.slice (some ⟨W.heap.size, 0, none⟩) 1 1] t2)).frozen? ⟨W.heap.size + 1, 0, none⟩ = false := World.frozen?_alloc_at _ _ _ _ hs.symm
  refine ⟨[.slice (some ⟨W.heap.size, 0, none⟩) 1 1], ⟨_, 1, rfl, Nat.le_refl _, by simp [maxLen], fun _ => ⟨W.heap.size + 1, 0, rfl, by simp [owAt], by simp, fun j hj => ?_, fun j u hu => ?_⟩⟩, rfl, fun j z hz => ?_⟩
  · obtain rfl : j = 0 := by omega
    exact ⟨by rw [Nat.zero_add, c1]; rfl, f1⟩
  · cases j with
    | zero => simp at hu; rw [Nat.zero_add, c1, hu]
    | succ j => simp at hu
  · cases j with
    | zero =>
      simp at hz
      subst hz
      refine ⟨_, rfl, W.heap.size, 0, 1, rfl, by simp, by simp [maxLen], by simp [owAt], by simp; omega, fun j hj => ?_⟩
      obtain rfl : j = 0 := by simpa using hj
      rw [Nat.zero_add, c0]; rfl
    | succ j => simp at hz
theorem owAt_low {ow : Nat → Nat} {B k g : Nat} (h : g < B) : owAt ow B k g = ow g := by unfold owAt; rw [if_neg (by omega)]

set_option maxRecDepth 100000 in
set_option maxHeartbeats 8000000 in
theorem freeWay_c (m fn : Nat) (A : Option Addr) (c B : Nat) (ss : List Lin) (L : List Int) (t : Int) (w : World) (ha : ArgL w A c ss) (hu : Usg w B L) (hn : netB (m : Int) ss = true) (hc : chB ss L = true) (hf : fn < m) :
    Calls Try.prog 34 #[.map (some B), .int .i64 (m : Int), .slice A ss.length c, .int .i64 (fn : Int), .int .i64 t] w (RetH (wayV ss m (fn : Int) t L) w) := by
  obtain ⟨i0, hi, hz0, hz1, hz2⟩ := info_parts intInf
  obtain ⟨j0, hj, hj0, hj1, hj2⟩ := info_parts (show (Try.prog.info? 24).map (fun i => (i.zero, i.size, i.bytes)) = some (some (.slice none 0 0), 1, 24) by kernel_rfl)
  have hm6 : m ≤ 6 := by have := (netB_true.1 hn).1; omega
  have hul := hu.lt
  have HA := Lib.hid ha
  have HU := Lib.hid hu
  have Hn := Lib.hid hn
  have Hc := Lib.hid hc
  clear ha hu hn hc
  have g0 : (fn : Int) < 6 := by omega
  have k0 := (BAt.made w).cell (j := fn) (by omega)
  have f1 := (BAt.made w).frozen fn
  have hmade : ∀ (o1 o2 : Obj), BAt (((w.alloc (.cells ([Value.bool false, .bool false, .bool false, .bool false, .bool false, .bool false].set fn (.bool true)).toArray 71)).alloc o1).alloc o2) w.heap.size (R0 (fn : Int)) := fun o1 o2 => by
    have h : BAt (w.alloc (.cells ([Value.bool false, .bool false, .bool false, .bool false, .bool false, .bool false].set fn (.bool true)).toArray 71)) w.heap.size (R0 (fn : Int)) := by
      refine ⟨R0_len _, ?_⟩
      rw [heap_alloc_new]
      unfold R0
      rw [Int.toNat_natCast, List.map_set]
      rfl
    exact (h.kept (World.grownBy_alloc _ _ none) (by simp)).kept (World.grownBy_alloc _ _ none) (by simp)
  have Hmade := Lib.hid hmade
  have hst := start_QW (w.alloc (.cells ([Value.bool false, .bool false, .bool false, .bool false, .bool false, .bool false].set fn (.bool true)).toArray 71)) (fn : Int) 3 24
  rw [show (w.alloc (.cells ([Value.bool false, .bool false, .bool false, .bool false, .bool false, .bool false].set fn (.bool true)).toArray 71)).heap.size = w.heap.size + 1 by simp] at hst
  have Hst := Lib.hid hst
  clear hst hmade
  go_enter Try.func34, Try.ntmps34
  go_wp2
  clear k0 f1
  go_loopw [12] (fun qv wr => ∃ (ow : Nat → Nat) (Q : List (List Int)) (R : List Bool), QW ow wr qv Q ∧ BAt wr w.heap.size R ∧ (∀ g, g < w.heap.size + 1 → ow g = 2) ∧ Below w.heap.size w wr ∧
      bfs (fr ss L) m t (Q.length + unR R + 1) Q R = wayV ss m (fn : Int) t L ∧ ∀ z ∈ Q, WyP m (Q.length + unR R + 1) z) (fun qv wr => lenV qv + cntF wr w.heap.size)
  case atStart =>
    refine ⟨_, [[(fn : Int)]], R0 (fn : Int), Hst.out, Hmade.out _ _, fun g hg => ?_, ((((Below.refl _ _).alloc (Nat.le_refl _) _).alloc (by simp) _).alloc (by simp; omega) _), ?_, ?_⟩
    · rw [owAt_low (by omega), owAt_low (by omega)]
    · rw [R0_un (by omega) g0]; rfl
    · intro z hz
      simp at hz
      subst hz
      refine ⟨by simp, by rw [R0_un (by omega) g0]; simp, fun x hx => ?_⟩
      simp at hx
      subst hx
      omega
  case round =>
    obtain ⟨ow, Q, R, hq, hr, hlab, hb, he, hP⟩ := hrel
    have Hr := Lib.hid hr
    have Hlab := Lib.hid hlab
    have Hb := Lib.hid hb
    have He := Lib.hid he
    have HP := Lib.hid hP
    have hlv := hq.len
    have Hlv := Lib.hid hlv
    clear hr hlab hb he hP hlv
    cases Q with
    | nil =>
      obtain ⟨ks, ⟨A1, c1, e1, _, _, _⟩, hks, _⟩ := hq
      have hks0 : ks = [] := List.eq_nil_of_length_eq_zero (by simpa using hks)
      subst hks0
      subst e1
      have hway : wayV ss m (fn : Int) t L = [] := by rw [← He.out]; rfl
      have Hway := Lib.hid hway
      clear hks hway
      go_wp2
      go_ret
      rw [Hway.out]
      exact ⟨none, 0, rfl, ⟨Rd.nil, Nat.le_refl _, by simp, by simp, by simp [maxLen]⟩, Hb.out⟩
    | cons p Q =>
      obtain ⟨g, o, c1, u, rfl, hc1, hc2, hcell, hwy, hq2⟩ := hq.first
      obtain ⟨hp1, hp2, hp3⟩ := HP.out p (by simp)
      obtain ⟨b, off, c2, rfl, harg⟩ := hwy.arg (by omega)
      have hlst := (harg.rd.at_ (k := p.length - 1) (by omega))
      obtain ⟨b', off', e2, _, _, hlast⟩ := hlst
      injection e2 with e2
      injection e2 with e3 e4 _
      subst e3; subst e4
      rw [show p[p.length - 1]?.getD 0 = lastI p from rfl] at hlast
      have hlm := hp3 _ (lastI_mem hp1)
      obtain ⟨ln, hln⟩ : ∃ ln : Nat, lastI p = (ln : Int) := ⟨_, (Int.toNat_of_nonneg hlm.1).symm⟩
      have hexpd : ∀ h : lastI p ≠ t, bfs (fr ss L) m t (Q.length + unR R + 1) (expS (fr ss L) p (R, Q) m).2 (expS (fr ss L) p (R, Q) m).1 = wayV ss m (fn : Int) t L := fun h => by
        have := He.out
        rw [List.length_cons, show Q.length + 1 + unR R + 1 = (Q.length + unR R + 1) + 1 by omega, bfs, if_neg h] at this
        exact this
      have hexpt : ∀ h : lastI p = t, wayV ss m (fn : Int) t L = p := fun h => by
        have := He.out
        rw [List.length_cons, show Q.length + 1 + unR R + 1 = (Q.length + unR R + 1) + 1 by omega, bfs, if_pos h] at this
        exact this.symm
      have hq7 : Q.length + unR R ≤ 6 := by rw [List.length_cons] at hp2; omega
      have hPP : ∀ z ∈ p :: Q, WyP m (Q.length + unR R + 1 + 1) z := fun z hz => by
        have := HP.out z hz
        rwa [List.length_cons, show Q.length + 1 + unR R + 1 = (Q.length + unR R + 1) + 1 by omega] at this
      have hexpP := exp_WyP (fr := fr ss L) (R := R) (F := Q.length + unR R + 1) (hPP p (List.mem_cons_self ..)) (fun z hz => hPP z (List.mem_cons_of_mem _ hz))
      have hmeas := exp_meas (fr := fr ss L) (p := p) (s := (R, Q)) m (by rw [Hr.out.1]; exact hm6)
      have Hexpd := Lib.hid hexpd
      have Hexpt := Lib.hid hexpt
      have HexpP := Lib.hid hexpP
      have Hmeas := Lib.hid hmeas
      have Hln := Lib.hid hln
      have Hwy := Lib.hid hwy
      have Hq2 := Lib.hid hq2
      have Harg := Lib.hid harg
      have hdel := fun h => Hexpd.out h
      rw [hln] at hlast hlm
      have q0 : ((p.length : Int) - 1).toNat = p.length - 1 := by omega
      have q1 : (1 : Int) ≤ (p.length : Int) := by omega
      have q2 : (0 : Int) < ((Q.length + 1 : Nat) : Int) := by omega
      have q3 : (1 : Int) ≤ ((Q.length + 1 : Nat) : Int) := by omega
      have q4 : (p.length : Int) - 1 < (p.length : Int) := by omega
      clear hPP hexpd hexpt hexpP hmeas hln hwy hq2 harg hdel hp3 hq
      by_cases hlt : (ln : Int) = t
      · have Hfin := Lib.hid (Hexpt.out (by rw [Hln.out]; exact hlt))
        have q5 : ((ln : Int) == t) = true := by simp [hlt]
        clear hlt
        go_wp2
        all_goals
          go_ret
          rw [Hfin.out]
          refine ⟨_, _, rfl, ⟨fun hn => ?_, Nat.le_refl _, Harg.out.1, Harg.out.2.1, Harg.out.2.2.1⟩, Hb.out⟩
          obtain ⟨b3, off3, c3, e5, _, _, ho5, hlt5, hk5⟩ := Hwy.out
          injection e5 with e5 e6 e7
          injection e5 with e5
          injection e5 with e8 e9 _
          subst e8; subst e9
          refine ⟨b, off, rfl, ?_, hlt5, hk5⟩
          have := Hlab.out b
          omega
      · have q5 : ((ln : Int) == t) = false := by simp [hlt]
        have Hnt : Hid (lastI p ≠ t) := Lib.hid (by rw [Hln.out]; exact hlt)
        clear hlt
        have hlf : Below w.heap.size w wr := Hb.out
        have hle := hlf.size
        clear hlf
        have Hle := Lib.hid hle
        clear hle
        by_cases hcc : c1 = 1
        · subst hcc
          obtain rfl : Q = [] := List.eq_nil_of_length_eq_zero (by omega)
          have hq3 : QW ow wr (.slice (some ⟨g, o, none⟩) 0 0) [] := by have := Hq2.out; simpa using this
          have Hq3 := Lib.hid hq3
          clear hq3 Hq2
          go_wp2
          go_loopw [12, 40] (fun qv i w2 => ∃ (k : Nat) (ow2 : Nat → Nat), k ≤ m ∧ i = .int .i64 k ∧ QW ow2 w2 qv (expS (fr ss L) p (R, []) k).2 ∧ BAt w2 w.heap.size (expS (fr ss L) p (R, []) k).1 ∧ (∀ g, g < w.heap.size + 1 → ow2 g = 2) ∧ Below w.heap.size w w2 ∧
              WyRd (fun g => ow2 g = 1) w2 (.slice (some ⟨b, off, none⟩) p.length c2) p) (fun _ i _ => m - (intOf i).toNat)
          case atStart => exact ⟨0, ow, Nat.zero_le _, rfl, Hq3.out, Hr.out, Hlab.out, Hb.out, Hwy.out⟩
          case round =>
            obtain ⟨k, ow2, hk, rfl, hq, hr, hlab, hb, hwy⟩ := hrel
            have Hq := Lib.hid hq
            have Hr2 := Lib.hid hr
            have Hlab2 := Lib.hid hlab
            have Hb2 := Lib.hid hb
            have Hwy2 := Lib.hid hwy
            clear hq hr hlab hb hwy
            by_cases hlt : k < m
            · have hxs := show expS (fr ss L) p (R, []) (k + 1) = (if rAt (expS (fr ss L) p (R, []) k).1 (k : Int) = false ∧ fr ss L (lastI p) (k : Int) = true then ((expS (fr ss L) p (R, []) k).1.set k true, (expS (fr ss L) p (R, []) k).2 ++ [p ++ [(k : Int)]]) else expS (fr ss L) p (R, []) k) from rfl
              obtain ⟨R1, Q1, e1⟩ : ∃ R1 Q1, expS (fr ss L) p (R, []) k = (R1, Q1) := ⟨_, _, rfl⟩
              rw [e1] at hxs
              have hq := Hq.out
              have hr := Hr2.out
              rw [e1] at hq hr
              dsimp only at hxs hq hr
              have Hxs := Lib.hid hxs
              have Hq4 := Lib.hid hq
              have Hr4 := Lib.hid hr
              have kr := hr.cell (j := k) (by omega)
              have g3 : (k : Int) < (m : Int) := by omega
              have g4 : (k : Int) < 6 := by omega
              clear hxs hq hr e1 Hq Hr2
              cases hrk : rAt R1 (k : Int)
              · rw [hrk] at kr
                have Hrk := Lib.hid hrk
                clear hrk
                go_wp2_with fail
                refine (freeLine_c (m : Int) _ _ _ _ _ _ _ _ (HA.out.go Hb2.out) (HU.out.go Hb2.out) Hn.out Hc.out).mono ?_
                rintro e w3 ⟨rfl, hb3⟩
                have hfr : fr ss L (ln : Int) (k : Int) = decide (0 ≤ frI ss L (ln : Int) (k : Int)) := rfl
                have Hb3 := Lib.hid (below_step Hb2.out hb3)
                have Hr5 := Lib.hid (Hr4.out.below hb3)
                have Hq5 := Lib.hid (Hq4.out.below hb3)
                have Hwy5 := Lib.hid (Hwy2.out.below hb3)
                clear hb3
                obtain ⟨I, hI⟩ : ∃ I, frI ss L (ln : Int) (k : Int) = I := ⟨_, rfl⟩
                rw [hI] at hfr ⊢
                have Hfr := Lib.hid hfr
                clear hI hfr Hq4 Hr4 Hwy2
                by_cases hI0 : 0 ≤ I
                · have hfrt : fr ss L (lastI p) (k : Int) = true := by rw [Hln.out, Hfr.out]; exact decide_eq_true hI0
                  have Hstep : Hid (expS (fr ss L) p (R, []) (k + 1) = (R1.set k true, Q1 ++ [p ++ [(k : Int)]])) := Lib.hid (by rw [Hxs.out, if_pos ⟨Hrk.out, hfrt⟩])
                  have f3 := Hr5.out.frozen k
                  have kr5 := Hr5.out.cell (j := k) (by omega)
                  have hgs := grown_set w3 w.heap.size k (.bool true)
                  have hl2 := Hlab2.out w.heap.size (by omega)
                  have hQ0 := Hq5.out.kept hgs (fun r e => by injection e with e; rw [← e]; exact hl2)
                  have hW0 := Hwy5.out.kept hgs (fun r e h => by injection e with e; rw [← e] at h; omega)
                  have hR0 := Hr5.out.set k true
                  have hB0 := Hb3.out.setCell (p := ⟨w.heap.size, k, none⟩) (Nat.le_refl _) (.bool true)
                  have hsz0 : (w3.setCell ⟨w.heap.size, k, none⟩ (.bool true)).heap.size = w3.heap.size := by simp [World.setCell]
                  obtain ⟨W0, hW⟩ : ∃ W0, w3.setCell ⟨w.heap.size, k, none⟩ (.bool true) = W0 := ⟨_, rfl⟩
                  have HQ0 := Lib.hid (hW ▸ hQ0)
                  have HW0 := Lib.hid (hW ▸ hW0)
                  have HR0 := Lib.hid (hW ▸ hR0)
                  have HB0 := Lib.hid (hW ▸ hB0)
                  have HW := Lib.hid hW
                  clear hgs hl2 hQ0 hW0 hR0 hB0 hsz0 hW hfrt
                  obtain ⟨ks, hqa, hkl, hways⟩ := HQ0.out
                  have Hqa := Lib.hid hqa
                  have Hkl := Lib.hid hkl
                  have Hways := Lib.hid hways
                  obtain ⟨b9, off9, c9, e9, harg9⟩ := HW0.out.arg (by omega)
                  injection e9 with e9 e10 e11
                  injection e9 with e9
                  injection e9 with e12 e13 _
                  subst e12; subst e13; subst e11
                  have Harg9 := Lib.hid harg9
                  clear hqa hkl hways harg9 HQ0
                  go_wp2_with fail
                  rw [HW.out]
                  refine (cloneI_c b off c2 p _ Harg9.out).mono ?_
                  rintro e w4 ⟨A4, c4, rfl, ha4, ho4, hb4⟩
                  dsimp only [id]
                  have Ho4 := Lib.hid ho4.1
                  have Hb4 := Lib.hid hb4
                  have hks : ks.length ≤ 20 := by
                    have h1 := Hkl.out
                    have h2 := exp_meas (fr := fr ss L) (p := p) (s := (R, [])) (k + 1) (by rw [Hr.out.1]; omega)
                    rw [Hstep.out] at h2
                    simp only [List.length_append, List.length_cons, List.length_nil] at h2
                    omega
                  clear ha4 ho4 hb4
                  go_wp2_with (first
                    | (at_builtin; refine wpList_append_own _ rfl (.tmp 59) (.tmp 61) 24 rfl W0.heap.size 3 i0 (.int .i64 0) 1 8 Try.underlying24 hi hz0 hz1 hz2 rfl (by decide) _ p.length _ rfl (Ho4.out.alloc _) ⟨w4.heap.size, 0, none⟩ 1 1 [.int .i64 k] rfl rfl (one_new _ _ _) (by simp [Value.oneCell']) (by unfold maxLen; omega) (by omega) (by have := Hb4.out.size; simp; omega) ?_; intro v5 w5 hown5 hgr5 _; have Hb5 := Lib.hid ((Hb4.out.alloc Hb4.out.size (.cells #[.int .i64 (k : Int)] 3)).grown hgr5 (by have := Hb4.out.size; simp; omega) (fun r e => (Ho4.out.lt r e).1)); have Ho5 := Lib.hid hown5; obtain ⟨g5, cap5, rfl⟩ := own_succ hown5; clear hown5 hgr5)
                    | (at_builtin; refine wpList_append_queue (own := fun g => ow2 g = 0 ∧ g < W0.heap.size) rfl (.tmp 57) (.tmp 63) 72 rfl 24 j0 (.slice none 0 0) 24 Try.underlying72 hj hj0 hj1 hj2 rfl rfl (((Hqa.out.relabel (own' := fun g => ow2 g = 0 ∧ g < W0.heap.size) (fun g hg h => ⟨h, hg⟩)).below Hb5.out).below ((Below.refl _ _).alloc (Nat.le_refl _) _)) ⟨w5.heap.size, 0, none⟩ 1 (.slice (some ⟨g5, 0, none⟩) (p.length + 1) cap5) rfl (by rw [World.cell?_alloc_at _ _ _ _ rfl]; rfl) rfl rfl (by unfold maxLen; omega) (by omega) ?_; intro v6 w6 hq6 hg6))
                  have Hg6 := Lib.hid hg6
                  have Hq6 := Lib.hid hq6
                  clear hq6 hg6
                  go_roundw
                  case rel =>
                    have hab : Below W0.heap.size W0 (w5.alloc (.cells #[.slice (some ⟨g5, 0, none⟩) (p.length + 1) cap5] 24)) := Hb5.out.alloc Hb5.out.size _
                    have hS := hab.size
                    have hpw : WyRd (fun g => ow2 g = 1 ∧ g < W0.heap.size) (w5.alloc (.cells #[.slice (some ⟨g5, 0, none⟩) (p.length + 1) cap5] 24)) (.slice (some ⟨b, off, none⟩) p.length c2) p := (HW0.out.relabel (fun g hg h => ⟨h, hg⟩)).below hab
                    have hz : WyRd (fun g => W0.heap.size ≤ g) (w5.alloc (.cells #[.slice (some ⟨g5, 0, none⟩) (p.length + 1) cap5] 24)) (.slice (some ⟨g5, 0, none⟩) (p.length + 1) cap5) (p ++ [(k : Int)]) :=
                      (WyRd.of_own (base := W0.heap.size) (n := p.length) (by have := Ho5.out; rw [List.map_append]; exact this) (by simp) (fun g h => h)).below ((Below.refl _ _).alloc (Nat.le_refl _) _)
                    have hB : ∀ (j : Nat) (y : List Int), Q1[j]? = some y → ∃ u, ks[j]? = some u ∧ WyRd (fun g => ow2 g = 1 ∧ g < W0.heap.size) (w5.alloc (.cells #[.slice (some ⟨g5, 0, none⟩) (p.length + 1) cap5] 24)) u y := fun j y hy => by
                      obtain ⟨u, hu, hw⟩ := Hways.out j y hy
                      exact ⟨u, hu, (hw.relabel (fun g hg h => ⟨h, hg⟩)).below hab⟩
                    have hmore := QW.more Hkl.out hS hB hz Hq6.out Hg6.out
                    obtain ⟨row, hgr, hrow⟩ := Hg6.out
                    have hsz : w.heap.size ≤ W0.heap.size := HB0.out.size
                    have hlt0 : w.heap.size < W0.heap.size := HR0.out.lt
                    have hge : ∀ r, row = some r → w.heap.size + 1 ≤ r := fun r e => by
                      have h1 := hrow r e
                      have h2 := Hlab2.out r
                      omega
                    refine ⟨k + 1, _, by omega, by go_num, by rw [Hstep.out]; exact hmore, ?_, fun g hg => ?_, ?_, ?_⟩
                    · rw [Hstep.out]
                      exact (HR0.out.below hab).kept hgr (fun e => by have := hge _ e.symm; omega)
                    · rw [owAt_low (by omega), owAt_low (by omega)]
                      exact Hlab2.out g hg
                    · exact (HB0.out.trans (hab.mono hsz)).grown hgr (by omega) (fun r e => by have := hge r e; omega)
                    · refine (hpw.kept hgr (fun r e h => by have := hrow r e; omega)).relabel (fun g _ h => ?_)
                      rw [owAt_low (by omega), owAt_low (by omega)]
                      exact h.1
                  case measure => simp [intOf]; omega
                · have hfrf : fr ss L (lastI p) (k : Int) = false := by rw [Hln.out, Hfr.out]; exact decide_eq_false hI0
                  have Hstep : Hid (expS (fr ss L) p (R, []) (k + 1) = (R1, Q1)) := Lib.hid (by rw [Hxs.out, if_neg (fun h => by rw [hfrf] at h; cases h.2)])
                  clear hfrf
                  go_wp2
                  go_roundw
                  case rel => exact ⟨k + 1, ow2, by omega, by go_num, by rw [Hstep.out]; exact Hq5.out, by rw [Hstep.out]; exact Hr5.out, Hlab2.out, Hb3.out, Hwy5.out⟩
                  case measure => simp [intOf]; omega
              · rw [hrk] at kr
                have Hstep : Hid (expS (fr ss L) p (R, []) (k + 1) = (R1, Q1)) := Lib.hid (by rw [Hxs.out, if_neg (fun h => by rw [hrk] at h; cases h.1)])
                clear hrk
                go_wp2
                go_roundw
                case rel => exact ⟨k + 1, ow2, by omega, by go_num, by rw [Hstep.out]; exact Hq4.out, by rw [Hstep.out]; exact Hr4.out, Hlab2.out, Hb2.out, Hwy2.out⟩
                case measure => simp [intOf]; omega
            · obtain rfl : k = m := by omega
              have hl1 := Hq.out.len
              have hm1 := Hmeas.out.2
              have hl2 := cntF_eq Hr2.out
              have hl3 := cntF_eq Hr.out
              have Hl1 := Lib.hid hl1
              have Hm1 := Lib.hid hm1
              have Hl2 := Lib.hid hl2
              have Hl3 := Lib.hid hl3
              clear hl1 hm1 hl2 hl3
              go_wp2
              go_roundw
              case rel =>
                refine ⟨ow2, _, _, Hq.out, Hr2.out, Hlab2.out, Hb2.out, ?_, ?_⟩
                · rw [Hm1.out]; exact Hexpd.out Hnt.out
                · rw [Hm1.out]; exact HexpP.out
              case measure =>
                rw [Hl1.out, Hl2.out, Hl3.out]
                have := Hm1.out
                simp only [lenV]
                omega
        · have hq3 : QW ow wr (.slice (some ⟨g, o + 1, none⟩) Q.length (c1 - 1)) Q := by have := Hq2.out; rwa [if_neg hcc] at this
          have Hq3 := Lib.hid hq3
          clear hq3 Hq2
          go_wp2
          go_loopw [12, 40] (fun qv i w2 => ∃ (k : Nat) (ow2 : Nat → Nat), k ≤ m ∧ i = .int .i64 k ∧ QW ow2 w2 qv (expS (fr ss L) p (R, Q) k).2 ∧ BAt w2 w.heap.size (expS (fr ss L) p (R, Q) k).1 ∧ (∀ g, g < w.heap.size + 1 → ow2 g = 2) ∧ Below w.heap.size w w2 ∧
              WyRd (fun g => ow2 g = 1) w2 (.slice (some ⟨b, off, none⟩) p.length c2) p) (fun _ i _ => m - (intOf i).toNat)
          case atStart => exact ⟨0, ow, Nat.zero_le _, rfl, Hq3.out, Hr.out, Hlab.out, Hb.out, Hwy.out⟩
          case round =>
            obtain ⟨k, ow2, hk, rfl, hq, hr, hlab, hb, hwy⟩ := hrel
            have Hq := Lib.hid hq
            have Hr2 := Lib.hid hr
            have Hlab2 := Lib.hid hlab
            have Hb2 := Lib.hid hb
            have Hwy2 := Lib.hid hwy
            clear hq hr hlab hb hwy
            by_cases hlt : k < m
            · have hxs := show expS (fr ss L) p (R, Q) (k + 1) = (if rAt (expS (fr ss L) p (R, Q) k).1 (k : Int) = false ∧ fr ss L (lastI p) (k : Int) = true then ((expS (fr ss L) p (R, Q) k).1.set k true, (expS (fr ss L) p (R, Q) k).2 ++ [p ++ [(k : Int)]]) else expS (fr ss L) p (R, Q) k) from rfl
              obtain ⟨R1, Q1, e1⟩ : ∃ R1 Q1, expS (fr ss L) p (R, Q) k = (R1, Q1) := ⟨_, _, rfl⟩
              rw [e1] at hxs
              have hq := Hq.out
              have hr := Hr2.out
              rw [e1] at hq hr
              dsimp only at hxs hq hr
              have Hxs := Lib.hid hxs
              have Hq4 := Lib.hid hq
              have Hr4 := Lib.hid hr
              have kr := hr.cell (j := k) (by omega)
              have g3 : (k : Int) < (m : Int) := by omega
              have g4 : (k : Int) < 6 := by omega
              clear hxs hq hr e1 Hq Hr2
              cases hrk : rAt R1 (k : Int)
              · rw [hrk] at kr
                have Hrk := Lib.hid hrk
                clear hrk
                go_wp2_with fail
                refine (freeLine_c (m : Int) _ _ _ _ _ _ _ _ (HA.out.go Hb2.out) (HU.out.go Hb2.out) Hn.out Hc.out).mono ?_
                rintro e w3 ⟨rfl, hb3⟩
                have hfr : fr ss L (ln : Int) (k : Int) = decide (0 ≤ frI ss L (ln : Int) (k : Int)) := rfl
                have Hb3 := Lib.hid (below_step Hb2.out hb3)
                have Hr5 := Lib.hid (Hr4.out.below hb3)
                have Hq5 := Lib.hid (Hq4.out.below hb3)
                have Hwy5 := Lib.hid (Hwy2.out.below hb3)
                clear hb3
                obtain ⟨I, hI⟩ : ∃ I, frI ss L (ln : Int) (k : Int) = I := ⟨_, rfl⟩
                rw [hI] at hfr ⊢
                have Hfr := Lib.hid hfr
                clear hI hfr Hq4 Hr4 Hwy2
                by_cases hI0 : 0 ≤ I
                · have hfrt : fr ss L (lastI p) (k : Int) = true := by rw [Hln.out, Hfr.out]; exact decide_eq_true hI0
                  have Hstep : Hid (expS (fr ss L) p (R, Q) (k + 1) = (R1.set k true, Q1 ++ [p ++ [(k : Int)]])) := Lib.hid (by rw [Hxs.out, if_pos ⟨Hrk.out, hfrt⟩])
                  have f3 := Hr5.out.frozen k
                  have kr5 := Hr5.out.cell (j := k) (by omega)
                  have hgs := grown_set w3 w.heap.size k (.bool true)
                  have hl2 := Hlab2.out w.heap.size (by omega)
                  have hQ0 := Hq5.out.kept hgs (fun r e => by injection e with e; rw [← e]; exact hl2)
                  have hW0 := Hwy5.out.kept hgs (fun r e h => by injection e with e; rw [← e] at h; omega)
                  have hR0 := Hr5.out.set k true
                  have hB0 := Hb3.out.setCell (p := ⟨w.heap.size, k, none⟩) (Nat.le_refl _) (.bool true)
                  have hsz0 : (w3.setCell ⟨w.heap.size, k, none⟩ (.bool true)).heap.size = w3.heap.size := by simp [World.setCell]
                  obtain ⟨W0, hW⟩ : ∃ W0, w3.setCell ⟨w.heap.size, k, none⟩ (.bool true) = W0 := ⟨_, rfl⟩
                  have HQ0 := Lib.hid (hW ▸ hQ0)
                  have HW0 := Lib.hid (hW ▸ hW0)
                  have HR0 := Lib.hid (hW ▸ hR0)
                  have HB0 := Lib.hid (hW ▸ hB0)
                  have HW := Lib.hid hW
                  clear hgs hl2 hQ0 hW0 hR0 hB0 hsz0 hW hfrt
                  obtain ⟨ks, hqa, hkl, hways⟩ := HQ0.out
                  have Hqa := Lib.hid hqa
                  have Hkl := Lib.hid hkl
                  have Hways := Lib.hid hways
                  obtain ⟨b9, off9, c9, e9, harg9⟩ := HW0.out.arg (by omega)
                  injection e9 with e9 e10 e11
                  injection e9 with e9
                  injection e9 with e12 e13 _
                  subst e12; subst e13; subst e11
                  have Harg9 := Lib.hid harg9
                  clear hqa hkl hways harg9 HQ0
                  go_wp2_with fail
                  rw [HW.out]
                  refine (cloneI_c b off c2 p _ Harg9.out).mono ?_
                  rintro e w4 ⟨A4, c4, rfl, ha4, ho4, hb4⟩
                  dsimp only [id]
                  have Ho4 := Lib.hid ho4.1
                  have Hb4 := Lib.hid hb4
                  have hks : ks.length ≤ 20 := by
                    have h1 := Hkl.out
                    have h2 := exp_meas (fr := fr ss L) (p := p) (s := (R, Q)) (k + 1) (by rw [Hr.out.1]; omega)
                    rw [Hstep.out] at h2
                    simp only [List.length_append, List.length_cons, List.length_nil] at h2
                    omega
                  clear ha4 ho4 hb4
                  go_wp2_with (first
                    | (at_builtin; refine wpList_append_own _ rfl (.tmp 59) (.tmp 61) 24 rfl W0.heap.size 3 i0 (.int .i64 0) 1 8 Try.underlying24 hi hz0 hz1 hz2 rfl (by decide) _ p.length _ rfl (Ho4.out.alloc _) ⟨w4.heap.size, 0, none⟩ 1 1 [.int .i64 k] rfl rfl (one_new _ _ _) (by simp [Value.oneCell']) (by unfold maxLen; omega) (by omega) (by have := Hb4.out.size; simp; omega) ?_; intro v5 w5 hown5 hgr5 _; have Hb5 := Lib.hid ((Hb4.out.alloc Hb4.out.size (.cells #[.int .i64 (k : Int)] 3)).grown hgr5 (by have := Hb4.out.size; simp; omega) (fun r e => (Ho4.out.lt r e).1)); have Ho5 := Lib.hid hown5; obtain ⟨g5, cap5, rfl⟩ := own_succ hown5; clear hown5 hgr5)
                    | (at_builtin; refine wpList_append_queue (own := fun g => ow2 g = 0 ∧ g < W0.heap.size) rfl (.tmp 57) (.tmp 63) 72 rfl 24 j0 (.slice none 0 0) 24 Try.underlying72 hj hj0 hj1 hj2 rfl rfl (((Hqa.out.relabel (own' := fun g => ow2 g = 0 ∧ g < W0.heap.size) (fun g hg h => ⟨h, hg⟩)).below Hb5.out).below ((Below.refl _ _).alloc (Nat.le_refl _) _)) ⟨w5.heap.size, 0, none⟩ 1 (.slice (some ⟨g5, 0, none⟩) (p.length + 1) cap5) rfl (by rw [World.cell?_alloc_at _ _ _ _ rfl]; rfl) rfl rfl (by unfold maxLen; omega) (by omega) ?_; intro v6 w6 hq6 hg6))
                  have Hg6 := Lib.hid hg6
                  have Hq6 := Lib.hid hq6
                  clear hq6 hg6
                  go_roundw
                  case rel =>
                    have hab : Below W0.heap.size W0 (w5.alloc (.cells #[.slice (some ⟨g5, 0, none⟩) (p.length + 1) cap5] 24)) := Hb5.out.alloc Hb5.out.size _
                    have hS := hab.size
                    have hpw : WyRd (fun g => ow2 g = 1 ∧ g < W0.heap.size) (w5.alloc (.cells #[.slice (some ⟨g5, 0, none⟩) (p.length + 1) cap5] 24)) (.slice (some ⟨b, off, none⟩) p.length c2) p := (HW0.out.relabel (fun g hg h => ⟨h, hg⟩)).below hab
                    have hz : WyRd (fun g => W0.heap.size ≤ g) (w5.alloc (.cells #[.slice (some ⟨g5, 0, none⟩) (p.length + 1) cap5] 24)) (.slice (some ⟨g5, 0, none⟩) (p.length + 1) cap5) (p ++ [(k : Int)]) :=
                      (WyRd.of_own (base := W0.heap.size) (n := p.length) (by have := Ho5.out; rw [List.map_append]; exact this) (by simp) (fun g h => h)).below ((Below.refl _ _).alloc (Nat.le_refl _) _)
                    have hB : ∀ (j : Nat) (y : List Int), Q1[j]? = some y → ∃ u, ks[j]? = some u ∧ WyRd (fun g => ow2 g = 1 ∧ g < W0.heap.size) (w5.alloc (.cells #[.slice (some ⟨g5, 0, none⟩) (p.length + 1) cap5] 24)) u y := fun j y hy => by
                      obtain ⟨u, hu, hw⟩ := Hways.out j y hy
                      exact ⟨u, hu, (hw.relabel (fun g hg h => ⟨h, hg⟩)).below hab⟩
                    have hmore := QW.more Hkl.out hS hB hz Hq6.out Hg6.out
                    obtain ⟨row, hgr, hrow⟩ := Hg6.out
                    have hsz : w.heap.size ≤ W0.heap.size := HB0.out.size
                    have hlt0 : w.heap.size < W0.heap.size := HR0.out.lt
                    have hge : ∀ r, row = some r → w.heap.size + 1 ≤ r := fun r e => by
                      have h1 := hrow r e
                      have h2 := Hlab2.out r
                      omega
                    refine ⟨k + 1, _, by omega, by go_num, by rw [Hstep.out]; exact hmore, ?_, fun g hg => ?_, ?_, ?_⟩
                    · rw [Hstep.out]
                      exact (HR0.out.below hab).kept hgr (fun e => by have := hge _ e.symm; omega)
                    · rw [owAt_low (by omega), owAt_low (by omega)]
                      exact Hlab2.out g hg
                    · exact (HB0.out.trans (hab.mono hsz)).grown hgr (by omega) (fun r e => by have := hge r e; omega)
                    · refine (hpw.kept hgr (fun r e h => by have := hrow r e; omega)).relabel (fun g _ h => ?_)
                      rw [owAt_low (by omega), owAt_low (by omega)]
                      exact h.1
                  case measure => simp [intOf]; omega
                · have hfrf : fr ss L (lastI p) (k : Int) = false := by rw [Hln.out, Hfr.out]; exact decide_eq_false hI0
                  have Hstep : Hid (expS (fr ss L) p (R, Q) (k + 1) = (R1, Q1)) := Lib.hid (by rw [Hxs.out, if_neg (fun h => by rw [hfrf] at h; cases h.2)])
                  clear hfrf
                  go_wp2
                  go_roundw
                  case rel => exact ⟨k + 1, ow2, by omega, by go_num, by rw [Hstep.out]; exact Hq5.out, by rw [Hstep.out]; exact Hr5.out, Hlab2.out, Hb3.out, Hwy5.out⟩
                  case measure => simp [intOf]; omega
              · rw [hrk] at kr
                have Hstep : Hid (expS (fr ss L) p (R, Q) (k + 1) = (R1, Q1)) := Lib.hid (by rw [Hxs.out, if_neg (fun h => by rw [hrk] at h; cases h.1)])
                clear hrk
                go_wp2
                go_roundw
                case rel => exact ⟨k + 1, ow2, by omega, by go_num, by rw [Hstep.out]; exact Hq4.out, by rw [Hstep.out]; exact Hr4.out, Hlab2.out, Hb2.out, Hwy2.out⟩
                case measure => simp [intOf]; omega
            · obtain rfl : k = m := by omega
              have hl1 := Hq.out.len
              have hm1 := Hmeas.out.2
              have hl2 := cntF_eq Hr2.out
              have hl3 := cntF_eq Hr.out
              have Hl1 := Lib.hid hl1
              have Hm1 := Lib.hid hm1
              have Hl2 := Lib.hid hl2
              have Hl3 := Lib.hid hl3
              clear hl1 hm1 hl2 hl3
              go_wp2
              go_roundw
              case rel =>
                refine ⟨ow2, _, _, Hq.out, Hr2.out, Hlab2.out, Hb2.out, ?_, ?_⟩
                · rw [Hm1.out]; exact Hexpd.out Hnt.out
                · rw [Hm1.out]; exact HexpP.out
              case measure =>
                rw [Hl1.out, Hl2.out, Hl3.out]
                have := Hm1.out
                simp only [lenV]
                omega

end Go.Proofs.Ytnekjhpocfdpnaa
