/-
  SignalErrors of the program.
-/
import Derived.Test.YtgnolhikphoagaaDoorReI
import Derived.Test.YtgnolhikphoagaaDoorMemX
import Derived.Test.YtgnolhikphoagaaDoorSgE
import Derived.Lib.OthersKept
namespace Go.Proofs.YtgnolhikphoagaaDoor
open Go.RowKit

theorem grown_iterAt (w : World) (k : Nat) (s : ByteArray) (pos : Nat) : w.grownBy (w.iterAt k s pos) (some k) :=
  ⟨rfl, rfl, rfl, Nat.le_of_eq (Lib.iterAt_size w k s pos).symm, fun i _ h => Lib.iterAt_other w k i s pos (fun e => h (by rw [e]))⟩
theorem own_not_iter {W : World} {base n : Nat} {e : TypeId} {v : Value} {xs : List Value} (h : W.ownsRow base e 1 v n xs) {k : Nat} {s : ByteArray} {pos : Nat} (hk : W.heap[k]? = some (.stringIter s pos)) : v.ownBlock = none ∨ v.ownBlock ≠ some k := by
  rcases h.2 with ⟨rfl, _⟩ | ⟨g, cap, cur, rfl, _, hg, _⟩
  · exact .inl rfl
  · refine .inr fun e => ?_
    have : g = k := Option.some.inj e
    subst this
    rw [hg] at hk
    cases hk
theorem own_iterAt {W : World} {base n : Nat} {e : TypeId} {v : Value} {xs : List Value} (h : W.ownsRow base e 1 v n xs) {k : Nat} {s : ByteArray} {pos : Nat} (hk : W.heap[k]? = some (.stringIter s pos)) (pos' : Nat) : (W.iterAt k s pos').ownsRow base e 1 v n xs :=
  h.kept (grown_iterAt W k s pos') (own_not_iter h hk)
theorem iter_below {W W' : World} {k : Nat} {s : ByteArray} {pos : Nat} (hk : W.heap[k]? = some (.stringIter s pos)) (hb : Below W.heap.size W W') : W'.heap[k]? = some (.stringIter s pos) :=
  (hb.block k (Array.getElem?_eq_some_iff.1 hk).1).trans hk
theorem iter_grown {W W' : World} {k : Nat} {s : ByteArray} {pos : Nat} (hk : W.heap[k]? = some (.stringIter s pos)) {row : Option Nat} (hg : W.grownBy W' row) (hr : row = none ∨ row ≠ some k) : W'.heap[k]? = some (.stringIter s pos) := by
  refine (hg.block k (Array.getElem?_eq_some_iff.1 hk).1 (fun e => ?_)).trans hk
  rcases hr with h | h
  · rw [h] at e; cases e
  · exact h e.symm

def three : ByteArray := ⟨#[45, 43, 48]⟩
theorem three_at (j : Nat) (h : j < 3) : (three[j]'h).toNat < 128 ∧ three[j]'h = puA j := by
  match j, h with
  | 0, _ => exact ⟨by show (45 : UInt8).toNat < 128; decide, rfl⟩
  | 1, _ => exact ⟨by show (43 : UInt8).toNat < 128; decide, rfl⟩
  | 2, _ => exact ⟨by show (48 : UInt8).toNat < 128; decide, rfl⟩
theorem rune_minus (W : World) : (convert 21 9 (.int .i32 45)).run Tryd.prog W = .ok (.string ⟨#[45]⟩) W := by kernel_rfl
theorem rune_plus (W : World) : (convert 21 9 (.int .i32 43)).run Tryd.prog W = .ok (.string ⟨#[43]⟩) W := by kernel_rfl
theorem rune_zero (W : World) : (convert 21 9 (.int .i32 48)).run Tryd.prog W = .ok (.string ⟨#[48]⟩) W := by kernel_rfl
theorem rune_text (j : Nat) (h : j < 3) (W : World) : (convert 21 9 (.int .i32 ((puA j).toNat : Int))).run Tryd.prog W = .ok (.string (str [puA j])) W := by
  match j, h with
  | 0, _ => exact rune_minus W
  | 1, _ => exact rune_plus W
  | 2, _ => exact rune_zero W
theorem next_three {w : World} {k j : Nat} {ty : TypeId} (hk : w.heap[k]? = some (.stringIter ⟨#[45, 43, 48]⟩ j)) (h : j < 3) :
    (Instr.next (.pointer (some ⟨k, 0, none⟩)) true ty).run Tryd.prog w = .ok (.tuple #[.bool true, .int .i64 j, .int .i32 ((puA j).toNat : Int)]) (w.iterAt k ⟨#[45, 43, 48]⟩ (j + 1)) := by
  have h3 := three_at j h
  have := Lib.run_next_ascii_at (P := Tryd.prog) w k three j ty hk h h3.1
  rw [h3.2] at this
  exact this
theorem next_end {w : World} {k j : Nat} {ty : TypeId} (hk : w.heap[k]? = some (.stringIter ⟨#[45, 43, 48]⟩ j)) (h : ¬ j < 3) :
    (Instr.next (.pointer (some ⟨k, 0, none⟩)) true ty).run Tryd.prog w = .ok (.tuple #[.bool false]) w :=
  Lib.run_next_end_at w k three j ty hk h

set_option maxHeartbeats 4000000 in
theorem implSignalErrors_b (s : ByteArray) (w : World) (hs : s.size ≤ 1048576) (hT : Tab w) : Calls Tryd.prog 33 #[.string s] w (RetSX 9 (fun v => .tuple #[v, .bool (sigB (byL s))]) (errL (byL s)) w) := by
  have HS := Lib.hid (fun w => implSignalValid_b s w hs)
  cases h1 : sigB (byL s)
  · have HV := Lib.hid (errL_no h1)
    rw [h1] at HS
    clear h1 hT
    go_enter Tryd.func33, Tryd.ntmps33
    go_wp2_with fail
    refine (HS.out _).mono ?_
    rintro e w1 ⟨rfl, hb1⟩
    have Hb1 := Lib.hid hb1
    clear hb1
    go_wp2
    go_ret2
    rw [HV.out]
    exact RetSX.nil (f := fun v => .tuple #[v, .bool false]) Hb1.out
  · have h80 := sigB_len h1
    have HV := Lib.hid (errL_yes h1)
    have Hsig := Lib.hid h1
    rw [h1] at HS
    have HTb := Lib.hid hT
    obtain ⟨i0, hi, hz0, hz1, hz2⟩ := info_parts str_info
    have Hi := Lib.hid (And.intro hi (And.intro hz0 (And.intro hz1 hz2)))
    clear hi hz0 hz1 hz2 h1 hT
    go_enter Tryd.func33, Tryd.ntmps33
    go_wp2_with fail
    refine (HS.out _).mono ?_
    rintro e w1 ⟨rfl, hb1⟩
    have HT1 := Lib.hid (HTb.out.go hb1)
    have Hb1 := Lib.hid hb1
    clear hb1
    go_wp2_with fail
    refine (codeTree_c _).mono ?_
    rintro e w2 ⟨A, rfl, ht, hb2⟩
    have HT2 := Lib.hid (HT1.out.go hb2)
    have Hb2 := Lib.hid (below_step Hb1.out hb2)
    have Ht := Lib.hid ht
    have hs2 := Hb2.out.size
    clear hb2 ht
    go_wp2
    go_loopw [5, 18] (fun o i wr => ∃ (k : Nat) (v : Value), k ≤ s.size ∧ i = .int .i64 k ∧ v = o ∧ wr.ownsRow w2.heap.size 9 1 v (errT (byL s) k).length (txCells (errT (byL s) k)) ∧ Below w2.heap.size w2 wr) (fun _ i _ => s.size - (intOf i).toNat)
    case atStart => exact ⟨0, _, Nat.zero_le _, rfl, rfl, w2.ownsRow_nil _ _ _, Below.refl _ _⟩
    case round =>
      obtain ⟨k, v, hk, rfl, rfl, hok, hbk⟩ := hrel
      have Hok := Lib.hid hok
      have Hbk := Lib.hid hbk
      have hbs := hbk.size
      clear hok hbk
      by_cases hlt : k < s.size
      · have g1 : (k : Int) < (s.size : Int) := by omega
        go_wp2
        obtain ⟨wi, hwi⟩ : ∃ wi, wr.iter ⟨#[45, 43, 48]⟩ 0 = wi := ⟨_, rfl⟩
        obtain ⟨K, hK⟩ : ∃ K, wr.heap.size = K := ⟨_, rfl⟩
        have hoi : wi.ownsRow w2.heap.size 9 1 v (errT (byL s) k).length (txCells (errT (byL s) k)) := by rw [← hwi]; exact Hok.out.alloc _
        have hbi : Below w2.heap.size w2 wi := by rw [← hwi]; exact Hbk.out.alloc hbs _
        have hit : wi.heap[K]? = some (.stringIter ⟨#[45, 43, 48]⟩ 0) := by rw [← hwi, ← hK]; exact World.iter_heap wr _ 0
        have hKs : w2.heap.size ≤ K := by omega
        rw [hwi, hK]
        have Hoi := Lib.hid hoi
        have Hbi := Lib.hid hbi
        have Hit := Lib.hid hit
        clear hwi hK hoi hbi hit
        go_loopw [5] (fun o wj => ∃ (j : Nat) (u : Value), j ≤ 3 ∧ u = o ∧ wj.ownsRow w2.heap.size 9 1 u (errT (byL s) k ++ errA (byL s) k j).length (txCells (errT (byL s) k ++ errA (byL s) k j)) ∧ wj.heap[K]? = some (.stringIter ⟨#[45, 43, 48]⟩ j) ∧ Below w2.heap.size w2 wj) (fun _ wj => 3 - wj.iterPos K)
        case atStart => exact ⟨0, v, by omega, rfl, by rw [show errA (byL s) k 0 = [] from rfl, List.append_nil]; exact Hoi.out, Hit.out, Hbi.out⟩
        case round =>
          clear Hoi Hbi Hit
          obtain ⟨j, u, hj, rfl, hok2, hit2, hbk2⟩ := hrel
          have Hok2 := Lib.hid hok2
          have Hit2 := Lib.hid hit2
          have Hbk2 := Lib.hid hbk2
          clear hok2 hbk2 hit2
          by_cases hjl : j < 3
          · have hnx := fun ty => next_three (ty := ty) Hit2.out hjl
            have hcv := rune_text j hjl
            have hst := fun (h : msB (subP (byL s) k (puA j)) = true) (h2 : subP (byL s) k (puA j) ≠ byL s) => hitP_yes h h2
            have hsn := fun (h : msB (subP (byL s) k (puA j)) = false ∨ subP (byL s) k (puA j) = byL s) => hitP_no h
            have hea : errA (byL s) k (j + 1) = errA (byL s) k j ++ hitP (byL s) k (puA j) := rfl
            have hll := errA_len (byL s) k j
            have hlt3 := errT_len (byL s) k
            have hsub := subP_str (s := s) (i := k) (puA j)
            have hsl := subP_len (puA j) (show k < (byL s).length by rw [byL_len]; exact hlt)
            obtain ⟨p, hp⟩ : ∃ p, puA j = p := ⟨_, rfl⟩
            rw [hp] at hea hsub hsl
            simp only [hp] at hnx hcv hst hsn
            obtain ⟨q, hq⟩ : ∃ q, subP (byL s) k p = q := ⟨_, rfl⟩
            rw [hq] at hsub hsl
            simp only [hq] at hst hsn
            obtain ⟨X1, hx1⟩ : ∃ x, s.extract 0 k = x := ⟨_, rfl⟩
            obtain ⟨X2, hx2⟩ : ∃ x, s.extract (k + 1) s.size = x := ⟨_, rfl⟩
            have zx1 : X1.size ≤ 80 := by rw [← hx1, ByteArray.size_extract]; omega
            have zx2 : X2.size ≤ 80 := by rw [← hx2, ByteArray.size_extract]; omega
            rw [hx1, hx2] at hsub
            obtain ⟨PP, hPP⟩ : ∃ x, str [p] = x := ⟨_, rfl⟩
            have zpp : PP.size = 1 := by rw [← hPP, str_size]; rfl
            rw [hPP] at hsub
            simp only [hPP] at hcv
            obtain ⟨SE, hS⟩ : ∃ x, X1 ++ PP ++ X2 = x := ⟨_, rfl⟩
            rw [hS] at hsub
            have hSs : SE.size ≤ 1048576 := by rw [hsub, str_size, hsl, byL_len]; omega
            have hSb : byL SE = q := by rw [hsub, by_str]
            have hmc := fun W (h1 : Tree W 5 1 A) (h2 : Tab W) => messageOf_b SE A W hSs h1 h2
            simp only [hSb] at hmc
            have HMC := Lib.hid hmc
            obtain ⟨wn, hwn⟩ : ∃ x, wr.iterAt K ⟨#[45, 43, 48]⟩ (j + 1) = x := ⟨_, rfl⟩
            simp only [hwn] at hnx
            have hon : wn.ownsRow w2.heap.size 9 1 u (errT (byL s) k ++ errA (byL s) k j).length (txCells (errT (byL s) k ++ errA (byL s) k j)) := by rw [← hwn]; exact own_iterAt Hok2.out Hit2.out _
            have hbn : Below w2.heap.size w2 wn := by rw [← hwn]; exact Lib.below_iterAt Hbk2.out hKs _ _
            have hin : wn.heap[K]? = some (.stringIter ⟨#[45, 43, 48]⟩ (j + 1)) := by rw [← hwn]; exact Lib.iterAt_heap wr K _ j _ Hit2.out
            obtain ⟨Y, hY⟩ : ∃ Y, errT (byL s) k ++ errA (byL s) k j = Y := ⟨_, rfl⟩
            have hYl : Y.length ≤ 3 * 80 + 3 := by rw [← hY, List.length_append]; omega
            rw [hY] at hon
            have HY := Lib.hid hY
            have Hon := Lib.hid hon
            have Hbn := Lib.hid hbn
            have Hin := Lib.hid hin
            have Hea := Lib.hid hea
            have Hst := Lib.hid hst
            have Hsn := Lib.hid hsn
            have Hsb := Lib.hid hSb
            have Hmsz := Lib.hid hsl
            have y1 : (9223372036854775807 < X1.size + PP.size) = False := by rw [eq_iff_iff, iff_false]; omega
            have y2 : (9223372036854775807 < X1.size + PP.size + X2.size) = False := by rw [eq_iff_iff, iff_false]; omega
            have y3 : (9223372036854775807 < X1.size + 1) = False := by rw [eq_iff_iff, iff_false]; omega
            have y4 : (9223372036854775807 < X1.size + 1 + X2.size) = False := by rw [eq_iff_iff, iff_false]; omega
            have q0 : (0 : Int) ≤ (k : Int) := by omega
            have q1 : (k : Int) ≤ (s.size : Int) := by omega
            have q2 : (k : Int) + 1 ≤ (s.size : Int) := by omega
            have q3 : ((k : Int) + 1).toNat = k + 1 := by omega
            have q4 : (0 : Int) ≤ (k : Int) + 1 := by omega
            have q5 : IntKind.i64.wrap ((k : Int) + 1) = (k : Int) + 1 := IntWalk.i64_in _ (by omega)
            clear hst hsn hea hll hlt3 hsub hsl hSs hSb hmc hwn hon hbn hin hY hp hq hPP
            go_wp2
            go_quiet (fail)
            obtain ⟨wd, hwd⟩ : ∃ x, wn.drewN nq = x := ⟨_, rfl⟩
            have hbd : Below w2.heap.size w2 wd := by rw [← hwd]; exact below_drewN Hbn.out nq
            have hod := own_below Hon.out (below_drewN (Below.refl wn.heap.size wn) nq)
            have hid := iter_below Hin.out (below_drewN (Below.refl wn.heap.size wn) nq)
            rw [hwd] at hod hid ⊢
            have Hod := Lib.hid hod
            have Hid2 := Lib.hid hid
            have Hbd := Lib.hid hbd
            have HTd := Lib.hid (HT2.out.go hbd)
            have Htd := Lib.hid (Ht.out.go hbd)
            clear hwd hbd hod hid Hon Hin Hbn
            cases hb : msB q
            · have hh := Hsn.out (.inl hb)
              have HE := Lib.hid (show errT (byL s) k ++ errA (byL s) k (j + 1) = Y by rw [Hea.out, hh, List.append_nil]; exact HY.out)
              simp only [hb] at HMC
              clear hb hh
              go_wp2_with fail
              refine (HMC.out _ Htd.out HTd.out).mono ?_
              rintro e w5 ⟨rfl, hb5⟩
              have H5 := Lib.hid (And.intro (own_below Hod.out hb5) (And.intro (iter_below Hid2.out hb5) (below_step Hbd.out hb5)))
              clear hb5
              go_wp2
              go_roundw
              case rel => exact ⟨j + 1, u, by omega, rfl, by rw [HE.out]; exact H5.out.1, H5.out.2.1, H5.out.2.2⟩
              case measure =>
                simp only [World.iterPos, H5.out.2.1, Hit2.out]
                omega
            · by_cases hqs : q = byL s
              · have hh := Hsn.out (.inr hqs)
                have HE := Lib.hid (show errT (byL s) k ++ errA (byL s) k (j + 1) = Y by rw [Hea.out, hh, List.append_nil]; exact HY.out)
                simp only [hb] at HMC
                have hse : SE.toList = s.toList := by rw [toList_by, toList_by, Hsb.out, hqs]
                have f1 : (SE.toList == s.toList) = true := by rw [hse]; exact beq_self_eq_true _
                have f2 : (SE.toList != s.toList) = false := by rw [hse]; exact bne_self_eq_false _
                clear hb hh hqs hse
                go_wp2_with fail
                refine (HMC.out _ Htd.out HTd.out).mono ?_
                rintro e w5 ⟨rfl, hb5⟩
                have H5 := Lib.hid (And.intro (own_below Hod.out hb5) (And.intro (iter_below Hid2.out hb5) (below_step Hbd.out hb5)))
                clear hb5
                go_wp2
                go_roundw
                case rel => exact ⟨j + 1, u, by omega, rfl, by rw [HE.out]; exact H5.out.1, H5.out.2.1, H5.out.2.2⟩
                case measure =>
                  simp only [World.iterPos, H5.out.2.1, Hit2.out]
                  omega
              · have hh := Hst.out hb hqs
                have HE := Lib.hid (show errT (byL s) k ++ errA (byL s) k (j + 1) = Y ++ [msV q] by rw [Hea.out, hh, ← List.append_assoc, HY.out])
                simp only [hb] at HMC
                have hse : SE.toList ≠ s.toList := by rw [toList_by, toList_by, Hsb.out]; exact hqs
                have f1 : (SE.toList == s.toList) = false := beq_eq_false_iff_ne.2 hse
                have f2 : (SE.toList != s.toList) = true := bne_iff_ne.2 hse
                obtain ⟨M, hM⟩ : ∃ M, str (msV q) = M := ⟨_, rfl⟩
                simp only [hM] at HMC
                have HM := Lib.hid hM
                clear hb hh hqs hse hM
                obtain ⟨hi, hz0, hz1, hz2⟩ := Hi.out
                have hds := Hbd.out.size
                go_wp2_with fail
                refine (HMC.out _ Htd.out HTd.out).mono ?_
                rintro e w5 ⟨rfl, hb5⟩
                have h5s := hb5.size
                have hok5 := own_below Hod.out hb5
                have H5 := Lib.hid (And.intro (iter_below Hid2.out hb5) (below_step Hbd.out hb5))
                clear hb5
                go_wp2_with (at_builtin; refine wpList_append_own _ rfl _ _ 39 rfl w2.heap.size 9 i0 (.string ByteArray.empty) 1 16 Tryd.underlying39 hi hz0 hz1 hz2 rfl (by decide) u Y.length _ rfl (hok5.alloc _) ⟨w5.heap.size, 0, none⟩ 1 1 [.string M] rfl rfl (one_str _ _ _) (by simp [Value.oneCell']) (by unfold maxLen; omega) (by omega) (by simp; omega) ?_; intro v' w6 hown6 hg6 _)
                have hb6 : Below w2.heap.size w2 w6 := (H5.out.2.alloc (by omega) _).grown hg6 (by simp; omega) (fun r e => (hok5.lt r e).1)
                have hit6 := iter_grown (show (w5.alloc (.cells #[.string M] 9)).heap[K]? = some (.stringIter ⟨#[45, 43, 48]⟩ (j + 1)) from iter_below H5.out.1 ((Below.refl _ _).alloc (Nat.le_refl _) _)) hg6 (own_not_iter hok5 H5.out.1)
                have H6 := Lib.hid (And.intro hown6 (And.intro hit6 hb6))
                clear hown6 hit6 hb6 hg6 hok5 hi hz0 hz1 hz2
                go_roundw
                case rel => exact ⟨j + 1, v', by omega, rfl, by rw [HE.out, txCells_snoc, List.length_append, HM.out]; exact H6.out.1, H6.out.2.1, H6.out.2.2⟩
                case measure =>
                  simp only [World.iterPos, H6.out.2.1, Hit2.out]
                  omega
          · obtain rfl : j = 3 := by omega
            have hnx := fun ty => next_end (ty := ty) Hit2.out hjl
            go_wp2
            go_roundw
            case rel => exact ⟨k + 1, u, by omega, by go_num, rfl, Hok2.out, Hbk2.out⟩
            case measure => simp [intOf]; omega
      · obtain rfl : k = s.size := by omega
        have HR := Lib.hid (errT_len (byL s) s.size)
        go_wp2
        go_ret2
        rw [HV.out, byL_len]
        exact RetSX.mk (f := fun v => .tuple #[v, .bool true]) (by have := HR.out; omega) (OwnsRow.more Hok.out hs2) (Hb2.out.trans (Hbk.out.mono hs2))

end Go.Proofs.YtgnolhikphoagaaDoor
