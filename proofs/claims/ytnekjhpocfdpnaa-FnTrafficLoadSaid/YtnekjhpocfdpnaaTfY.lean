/-
  How many lines lead from each station to one, of the model.
-/
import Derived.Test.YtnekjhpocfdpnaaTfF
import Derived.Test.YtnekjhpocfdpnaaStkA
import Derived.Test.YtnekjhpocfdpnaaMade
namespace Go.Proofs.Ytnekjhpocfdpnaa
open Go.RowKit

theorem own_one (W : World) (x : Int) (base : Nat) (hb : base ≤ W.heap.size) : (W.alloc (.cells #[.int .i64 x] 3)).ownsRow base 3 1 (.slice (some ⟨W.heap.size, 0, none⟩) 1 1) [x].length ([x].map (Value.int .i64)) :=
  ⟨rfl, .inr ⟨W.heap.size, 1, #[.int .i64 x], rfl, hb, heap_alloc_new W _, Nat.le_refl _, by simp [maxLen], rfl, rfl⟩⟩
/-- the first k of the numbers are -1 -/
def neg1 (m k : Nat) : List Int := List.replicate k (-1) ++ List.replicate (m - k) 0
theorem neg1_set {m k : Nat} (h : k < m) : (neg1 m k).set k (-1) = neg1 m (k + 1) := by
  apply List.ext_getElem
  · simp [neg1]; omega
  · intro i h1 h2
    simp only [neg1, List.getElem_set, List.getElem_append, List.length_replicate, List.getElem_replicate]
    by_cases e : k = i
    · subst e; simp
    · by_cases e2 : i < k
      · rw [if_neg e, dif_pos e2, dif_pos (by omega)]
      · rw [if_neg e, dif_neg e2, dif_neg (by omega)]
theorem neg1_len {m k : Nat} (h : k ≤ m) : (neg1 m k).length = m := by simp [neg1]; omega
theorem row_at {W : World} {g n c : Nat} {base : Nat} {O : List Int} (h : W.ownsRow base 3 1 (.slice (some ⟨g, 0, none⟩) n c) n (O.map (Value.int .i64))) {x : Nat} (hx : x < n) (hl : O.length = n) : W.cell? ⟨g, x, none⟩ = some (.int .i64 (oAt O (x : Int))) := by
  have := h.cellAt x (by omega)
  rw [this, List.getElem?_map]
  have hx2 : x < O.length := by omega
  simp [oAt, hx2]

theorem below_of {B : Nat} {a b : World} (h : Below B a b) (e : B = a.heap.size) : Below a.heap.size a b := by rw [← e]; exact h
theorem own_len {W : World} {base : Nat} {e : TypeId} {n c g : Nat} {xs : List Value} (h : W.ownsRow base e 1 (.slice (some ⟨g, 0, none⟩) n c) n xs) : n ≤ c ∧ c ≤ maxLen ∧ g < W.heap.size := by
  rcases h.2 with ⟨h0, _⟩ | ⟨g', cap, cur, e, _, hgg, hn, hm, _⟩
  · cases h0
  · injection e with e1 e2 e3
    injection e1 with e1
    injection e1 with e1 _ _
    subst e1; subst e3
    exact ⟨hn, hm, (Array.getElem?_eq_some_iff.1 hgg).1⟩
theorem own_pos {W : World} {base : Nat} {e : TypeId} {size n : Nat} {v : Value} {xs : List Value} (h : W.ownsRow base e size v n xs) (hp : 0 < n) : ∃ g cap, v = .slice (some ⟨g, 0, none⟩) n cap ∧ base ≤ g := by
  rcases h.2 with ⟨_, h0⟩ | ⟨g, cap, cur, e, hg, _⟩
  · omega
  · exact ⟨g, cap, e, hg⟩

set_option maxRecDepth 100000 in
set_option maxHeartbeats 8000000 in
theorem l7Steps_c (m tn : Nat) (A B : Option Addr) (c d : Nat) (ss : List Lin) (L : List Int) (w : World) (ha : ArgL w A c ss) (hb : Arg w B d L) (hn : netB (m : Int) ss = true) (hc : chB ss L = true) (ht : tn < m) :
    Calls Try.prog 52 #[.int .i64 (m : Int), .slice A ss.length c, .slice B L.length d, .int .i64 (tn : Int)] w (RetS 3 id (stepL (fr ss L) m (tn : Int)) w) := by
  obtain ⟨i0, hi, hz0, hz1, hz2⟩ := info_parts int_info
  have hm6 : m ≤ 6 := by have := (netB_true.1 hn).1; omega
  have HA := Lib.hid ha
  have HB := Lib.hid hb
  have Hn := Lib.hid hn
  have Hc := Lib.hid hc
  have hmi := made_ints m
  have HMI := Lib.hid hmi
  clear ha hb hn hc hmi
  obtain ⟨G, hG⟩ : ∃ G, G = w.heap.size := ⟨_, rfl⟩
  have HG := Lib.hid hG
  go_enter Try.func52, Try.ntmps52
  go_wp2_with (at_make; refine wpList_make_full _ rfl (.tmp 16) (.tmp 16) 24 rfl w.heap.size 3 i0 (.int .i64 0) 1 Try.underlying24 hi hz0 hz1 .i64 .i64 _ _ m rfl rfl rfl rfl (by rw [hz2]; omega) (by unfold maxLen; omega) (Nat.le_refl _) ?_; intro w1 hown hg1)
  rw [HMI.out] at hown
  have hb1 : Below w.heap.size w w1 := (Below.refl _ _).grown hg1 (Nat.le_refl _) (by simp)
  have hsz1 : w.heap.size < w1.heap.size := (hown.lt _ rfl).2
  rw [← hG] at hown hb1 hsz1 ⊢
  have Hown := Lib.hid hown
  have Hb1 := Lib.hid hb1
  have Hsz1 := Lib.hid hsz1
  clear hown hb1 hg1 hG hsz1
  go_loopw [10] (fun i wr => ∃ k : Nat, k ≤ m ∧ i = .int .i64 k ∧ wr.ownsRow G 3 1 (.slice (some ⟨G, 0, none⟩) m m) m ((neg1 m k).map (Value.int .i64)) ∧ Below G w wr ∧ G < wr.heap.size) (fun i _ => m - (intOf i).toNat)
  case atStart => exact ⟨0, Nat.zero_le _, rfl, by have := Hown.out; simpa [neg1] using this, Hb1.out, Hsz1.out⟩
  case round =>
    obtain ⟨k, hk, rfl, hok, hbk, hsk⟩ := hrel
    by_cases hlt : k < m
    · have hst := hok.stored k (.int .i64 (-1))
      rw [← List.map_set, neg1_set hlt] at hst
      have hck := row_at hok hlt (neg1_len hk)
      have hfk := hok.frozenAt k
      have Hst := Lib.hid hst
      have Hbk := Lib.hid hbk
      have Hsk := Lib.hid hsk
      have g3 : (k : Int) < (m : Int) := by omega
      clear hst hok hbk hsk
      go_wp2
      go_roundw
      case rel => exact ⟨k + 1, by omega, by go_num, Hst.out.1, Hbk.out.setCell (p := ⟨G, k, none⟩) (Nat.le_refl _) _, Nat.lt_of_lt_of_le Hsk.out Hst.out.2.size⟩
      case measure => simp [intOf]; omega
    · obtain rfl : k = m := by omega
      have hne : neg1 k k = List.replicate k (-1) := by simp [neg1]
      rw [hne] at hok
      have hck := row_at hok ht (by simp)
      have hfk := hok.frozenAt tn
      have hst := hok.stored tn (.int .i64 0)
      rw [← List.map_set] at hst
      have hgw := hst.2
      have hbk2 := hbk.setCell (p := ⟨G, tn, none⟩) (Nat.le_refl _) (.int .i64 0)
      have hsk2 : G < (wr.setCell ⟨G, tn, none⟩ (.int .i64 0)).heap.size := Nat.lt_of_lt_of_le hsk hgw.size
      have hO : (List.replicate k (-1)).set tn 0 = (st0 k (tn : Int)).1 := by unfold st0; rw [Int.toNat_natCast]
      rw [hO] at hst
      have Hst := Lib.hid hst.1
      have Hbk := Lib.hid hbk2
      have Hsk := Lib.hid hsk2
      have g3 : (tn : Int) < (k : Int) := by omega
      clear hst hok hbk hsk hgw hbk2 hsk2 hne hO Hown Hb1 Hsz1 hlt hk
      go_wp2
      obtain ⟨W2, hW2⟩ : ∃ W2, wr.setCell ⟨G, tn, none⟩ (.int .i64 0) = W2 := ⟨_, rfl⟩
      have hszw : W2.heap.size = wr.heap.size := by rw [← hW2]; simp [World.setCell]
      rw [hW2] at Hst Hbk Hsk ⊢
      have hs2 : G + 1 ≤ W2.heap.size := Hsk.out
      have hl0 := own_one W2 (tn : Int) (G + 1) hs2
      rw [hszw] at hl0
      have Hl0 := Lib.hid hl0
      clear hl0
      have Hal := Lib.hid (World.grownBy_alloc W2 (.cells #[.int .i64 (tn : Int)] 3) none)
      have HS0 := Lib.hid (SInv.start (fr := fr ss L) (m := k) (to := (tn : Int)) (by omega))
      go_loopw [11, 12] (fun lv q wr => ∃ (j F : Nat) (O l : List Int), q = .int .i64 j ∧ 7 = F + j ∧ SInv (fr ss L) k (tn : Int) O l j ∧ stO (fr ss L) k F j (O, l) = stepL (fr ss L) k (tn : Int) ∧
          wr.ownsRow G 3 1 (.slice (some ⟨G, 0, none⟩) k k) k (O.map (Value.int .i64)) ∧ wr.ownsRow (G + 1) 3 1 lv l.length (l.map (Value.int .i64)) ∧ Below G w wr ∧ G < wr.heap.size) (fun _ q _ => 7 - (intOf q).toNat)
      case atStart => exact ⟨0, 7, _, _, rfl, rfl, HS0.out, rfl, Hst.out.kept Hal.out (by simp [Value.ownBlock]), Hl0.out, Hbk.out.alloc (by omega) _, Nat.lt_of_lt_of_le Hsk.out Hal.out.size⟩
      case round =>
        obtain ⟨j, F, O, l, rfl, hF, hS, hst, ho, hlv, hbw, hsw⟩ := hrel
        have hlp : 0 < l.length := by
          have h1 := (hS.mem (tn : Int) (by omega) (by omega)).2 (by rw [hS.zero]; omega)
          cases l with
          | nil => simp at h1
          | cons y r => simp
        obtain ⟨gl, capl, rfl, hgl⟩ := own_pos hlv hlp
        have HS := Lib.hid hS
        have Hst2 := Lib.hid hst
        have Ho := Lib.hid ho
        have Hlv := Lib.hid hlv
        have Hbw := Lib.hid hbw
        have Hsw := Lib.hid hsw
        have hll := hS.few
        have hol := hS.len
        have Hol := Lib.hid hol
        clear hS hst ho hlv hbw hsw hol
        by_cases hlt : j < l.length
        · obtain ⟨F', rfl⟩ : ∃ F', F = F' + 1 := ⟨F - 1, by omega⟩
          have HF := Lib.hid hF
          have hj7 : j < 7 := by omega
          clear hF
          have hnx : stO (fr ss L) k F' (j + 1) (stI (fr ss L) (l[j]?.getD 0) (O, l) k) = stepL (fr ss L) k (tn : Int) := by
            rw [← Hst2.out, stO, if_pos (show j < (O, l).2.length from hlt)]
          have hxr := HS.out.rng _ (mem_at hlt)
          obtain ⟨xn, hxn⟩ : ∃ xn : Nat, l[j]?.getD 0 = (xn : Int) := ⟨_, (Int.toNat_of_nonneg hxr.1).symm⟩
          have hinv := fun a ha => stI_inv HS.out hlt a ha
          have hat := fun a => stI_at (fr := fr ss L) (O, l) (l[j]?.getD 0) (k := j) hlt a
          rw [hxn] at hnx hxr
          have Hnx := Lib.hid hnx
          have Hinv := Lib.hid hinv
          have Hat := Lib.hid hat
          have Hxn := Lib.hid hxn
          clear hnx hinv hat hxn
          have g4 : (j : Int) < (l.length : Int) := by omega
          go_wp2
          go_loopw [11, 13] (fun lv q wr => ∃ (a : Nat) (O2 l2 : List Int), q = .int .i64 a ∧ a ≤ k ∧ stI (fr ss L) (xn : Int) (O, l) a = (O2, l2) ∧
              wr.ownsRow G 3 1 (.slice (some ⟨G, 0, none⟩) k k) k (O2.map (Value.int .i64)) ∧ wr.ownsRow (G + 1) 3 1 lv l2.length (l2.map (Value.int .i64)) ∧ Below G w wr ∧ G < wr.heap.size) (fun _ q _ => k - (intOf q).toNat)
          case atStart => exact ⟨0, O, l, rfl, Nat.zero_le _, rfl, Ho.out, Hlv.out, Hbw.out, Hsw.out⟩
          case round =>
            obtain ⟨a, O2, l2, rfl, hak, he, ho2, hl2, hb2, hs2'⟩ := hrel
            have hlp2 : 0 < l2.length := by
              have := (Hinv.out a hak).klt
              rw [Hxn.out, he] at this
              dsimp only at this; omega
            obtain ⟨gl2, capl2, rfl, hgl2⟩ := own_pos hl2 hlp2
            have hti := Hinv.out a hak
            have hatj := Hat.out a
            rw [Hxn.out, he] at hti
            rw [Hxn.out, he] at hatj
            dsimp only at hti hatj
            have Ho2 := Lib.hid ho2
            have Hl2 := Lib.hid hl2
            have Hb2 := Lib.hid hb2
            have Hs2 := Lib.hid hs2'
            have hlen2 := hti.inv.len
            have hfew2 := hti.inv.few
            have Hti := Lib.hid hti
            have He := Lib.hid he
            have Hatj := Lib.hid hatj
            have Hlen2 := Lib.hid hlen2
            have hjl2 := hti.klt
            clear ho2 hl2 hb2 hs2' he hti hatj hlen2
            by_cases hlt2 : a < k
            · have hstep := show stI (fr ss L) (xn : Int) (O, l) (a + 1) = (if oAt (stI (fr ss L) (xn : Int) (O, l) a).1 (a : Int) < 0 ∧ fr ss L (a : Int) (xn : Int) = true then ((stI (fr ss L) (xn : Int) (O, l) a).1.set a (oAt (stI (fr ss L) (xn : Int) (O, l) a).1 (xn : Int) + 1), (stI (fr ss L) (xn : Int) (O, l) a).2 ++ [(a : Int)]) else stI (fr ss L) (xn : Int) (O, l) a) from rfl
              rw [He.out] at hstep
              dsimp only at hstep
              have Hstep := Lib.hid hstep
              have g5 : (a : Int) < (k : Int) := by omega
              have hlow := Hti.out.inv.low (a : Int) (by omega) g5
              have hupx : oAt O2 (xn : Int) ≤ (l2.length : Int) := by
                have := Hti.out.inv.bd (xn : Int) (by rw [← Hatj.out.1]; exact mem_at hjl2)
                omega
              have hlx : -1 ≤ oAt O2 (xn : Int) := Hti.out.inv.low (xn : Int) hxr.1 hxr.2
              have hc11 := own_len Hl2.out
              have kx := row_at Hl2.out hjl2 rfl
              rw [show oAt l2 (j : Int) = (xn : Int) from Hatj.out.1] at kx
              have g6 : (j : Int) < (l2.length : Int) := by omega
              have hA3 := (HA.out.go ((below_of Hb2.out HG.out)))
              have hB3 := (HB.out.go ((below_of Hb2.out HG.out)))
              have HA3 := Lib.hid hA3
              have HB3 := Lib.hid hB3
              clear hA3 hB3
              go_wp2_with fail
              refine (l7Free_c (k : Int) _ _ _ _ _ _ _ _ _ HA3.out HB3.out Hn.out Hc.out).mono ?_
              rintro e w5 ⟨rfl, q5, hw5⟩
              have hdb : Below wr.heap.size wr w5 := by rw [hw5]; exact below_drewN (Below.refl _ _) _
              have Ho5 := Lib.hid (own_below Ho2.out hdb)
              have Hl5 := Lib.hid (own_below Hl2.out hdb)
              have Hb5 := Lib.hid (Hb2.out.trans (hdb.mono (Nat.le_of_lt Hs2.out)))
              have Hs5 := Lib.hid (Nat.lt_of_lt_of_le Hs2.out hdb.size)
              have kx5 := row_at Hl5.out hjl2 rfl
              rw [show oAt l2 (j : Int) = (xn : Int) from Hatj.out.1] at kx5
              have hxk : xn < k := by omega
              have kO5 := row_at Ho5.out hxk Hlen2.out
              have ka5 := row_at Ho5.out hlt2 Hlen2.out
              have fa5 := Ho5.out.frozenAt a
              have hfr : fr ss L (a : Int) (xn : Int) = decide (0 ≤ frI ss L (a : Int) (xn : Int)) := rfl
              obtain ⟨I, hI⟩ : ∃ I, frI ss L (a : Int) (xn : Int) = I := ⟨_, rfl⟩
              obtain ⟨sg, hsg⟩ : ∃ sg, sgI ss L (a : Int) (xn : Int) = sg := ⟨_, rfl⟩
              rw [hI] at hfr ⊢
              rw [hsg]
              obtain ⟨va, hva⟩ : ∃ va, oAt O2 (a : Int) = va := ⟨_, rfl⟩
              obtain ⟨vx, hvx⟩ : ∃ vx, oAt O2 (xn : Int) = vx := ⟨_, rfl⟩
              rw [hva] at ka5 hstep
              rw [hvx] at kO5 hstep hupx hlx
              replace Hstep := Lib.hid hstep
              have Hfr := Lib.hid hfr
              have g7 : (xn : Int) < (k : Int) := by omega
              have g8 : (a : Int) < (k : Int) := g5
              have hl26 : l2.length ≤ 6 := by omega
              clear hw5 hdb hI hsg hva hvx hstep hfr kx
              by_cases h1 : va < 0
              · by_cases h2 : 0 ≤ I
                · have Hs' : Hid (stI (fr ss L) (xn : Int) (O, l) (a + 1) = (O2.set a (vx + 1), l2 ++ [(a : Int)])) := Lib.hid (by rw [Hstep.out, if_pos ⟨h1, by rw [Hfr.out]; exact decide_eq_true h2⟩])
                  have hst5 := Ho5.out.stored a (.int .i64 (vx + 1))
                  rw [← List.map_set] at hst5
                  have Hst5 := Lib.hid hst5.1
                  have Hg5 := Lib.hid hst5.2
                  have hnb : (Value.slice (some ⟨gl2, 0, none⟩) l2.length capl2).ownBlock = none ∨ (Value.slice (some ⟨gl2, 0, none⟩) l2.length capl2).ownBlock ≠ (Value.slice (some ⟨G, 0, none⟩) k k).ownBlock := .inr (by intro e; simp [Value.ownBlock] at e; omega)
                  have Hl6 := Lib.hid (Hl5.out.kept Hg5.out hnb)
                  have Hb6 := Lib.hid (Hb5.out.setCell (p := ⟨G, a, none⟩) (Nat.le_refl _) (.int .i64 (vx + 1)))
                  have Hs6 := Lib.hid (Nat.lt_of_lt_of_le Hs5.out Hg5.out.size)
                  have HW : Hid (∀ o : Obj, ((w5.setCell ⟨G, a, none⟩ (.int .i64 (vx + 1))).alloc o).heap.size = w5.heap.size + 1) := Lib.hid (fun o => by simp [World.setCell])
                  clear hst5 hnb
                  go_wp2_with (at_builtin; refine wpList_append_own _ rfl (.tmp 73) (.tmp 75) 24 rfl (G + 1) 3 i0 (.int .i64 0) 1 8 Try.underlying24 hi hz0 hz1 hz2 rfl (by decide) (.slice (some ⟨gl2, 0, none⟩) l2.length capl2) l2.length _ rfl (Hl6.out.alloc _) ⟨(w5.setCell ⟨G, a, none⟩ (.int .i64 (vx + 1))).heap.size, 0, none⟩ 1 1 [.int .i64 a] (by simp [World.setCell, Act.eval]) rfl (one_new _ _ _) (by simp [Value.oneCell']) (by unfold maxLen; omega) (by omega) (by rw [HW.out]; have := Hs5.out; omega) ?_; intro v7 w7 hown7 hgr7 _; have Ho7 := Lib.hid hown7; have Hg7 : Hid (World.grownBy ((w5.setCell ⟨G, a, none⟩ (.int .i64 (vx + 1))).alloc (.cells #[.int .i64 (a : Int)] 3)) w7 (some gl2)) := Lib.hid hgr7; clear hown7 hgr7)
                  go_roundw
                  case rel =>
                    have hal := World.grownBy_alloc (w5.setCell ⟨G, a, none⟩ (.int .i64 (vx + 1))) (.cells #[.int .i64 (a : Int)] 3) none
                    refine ⟨a + 1, _, _, by go_num, by omega, Hs'.out, ((Hst5.out.kept hal (by simp [Value.ownBlock])).kept Hg7.out (.inr (fun e => absurd (show G = gl2 from Option.some.inj e) (by omega)))), ?_, ?_, ?_⟩
                    · rw [List.length_append, List.map_append]; exact Ho7.out
                    · exact (Hb6.out.alloc (Nat.le_of_lt Hs6.out) _).grown Hg7.out (by rw [HW.out]; have := Hs5.out; omega) (fun r e => by injection e with e; have := hgl2; omega)
                    · exact Nat.lt_of_lt_of_le (Nat.lt_of_lt_of_le Hs6.out hal.size) Hg7.out.size
                  case measure => simp [intOf]; omega
                · have Hs' : Hid (stI (fr ss L) (xn : Int) (O, l) (a + 1) = (O2, l2)) := Lib.hid (by rw [Hstep.out, if_neg (fun h => by have := h.2; rw [Hfr.out] at this; exact h2 (of_decide_eq_true this))])
                  go_wp2
                  go_roundw
                  case rel => exact ⟨a + 1, _, _, by go_num, by omega, Hs'.out, Ho5.out, Hl5.out, Hb5.out, Hs5.out⟩
                  case measure => simp [intOf]; omega
              · have Hs' : Hid (stI (fr ss L) (xn : Int) (O, l) (a + 1) = (O2, l2)) := Lib.hid (by rw [Hstep.out, if_neg (fun h => h1 h.1)])
                go_wp2
                go_roundw
                case rel => exact ⟨a + 1, _, _, by go_num, by omega, Hs'.out, Ho5.out, Hl5.out, Hb5.out, Hs5.out⟩
                case measure => simp [intOf]; omega
            · obtain rfl : a = k := by omega
              have hnx2 := Hnx.out
              rw [He.out] at hnx2
              have hS2 := SInv.next Hti.out
              have Hnx2 := Lib.hid hnx2
              have HS2 := Lib.hid hS2
              clear hnx2 hS2
              go_wp2
              go_roundw
              case rel => exact ⟨j + 1, F', O2, l2, by go_num, by have := HF.out; omega, HS2.out, Hnx2.out, Ho2.out, Hl2.out, Hb2.out, Hs2.out⟩
              case measure => simp [intOf]; omega
        · clear hF
          have hfin : O = stepL (fr ss L) k (tn : Int) := by
            rw [← Hst2.out]
            cases F with
            | zero => rfl
            | succ F => rw [stO, if_neg hlt]
          have Hfin := Lib.hid hfin
          clear hfin
          go_wp2
          go_ret
          rw [← Hfin.out]
          exact RetS.mk (f := id) (by rw [Hol.out]; omega) (by rw [Hol.out, ← HG.out]; exact Ho.out) (by rw [← HG.out]; exact Hbw.out)

end Go.Proofs.Ytnekjhpocfdpnaa
