/-
  The law FnErrors: for every code the law answers true. No condition but the tie of the card.
-/
import Derived.Test.YtgnolhikphoagaaDoorRowB
import Derived.Test.YtgnolhikphoagaaDoorRow
import Derived.ChangeMaps5
import Derived.Test.YtgnolhikphoagaaDoorDoorV
import Derived.Test.YtgnolhikphoagaaDoorTie
import Derived.Test.YtgnolhikphoagaaDoorFacD
import Derived.Test.YtgnolhikphoagaaDoorSDrawB
import Derived.Test.YtgnolhikphoagaaDoorSgN
import Derived.Test.YtgnolhikphoagaaDoorSameT
import Derived.Test.YtgnolhikphoagaaDoorErS
import Derived.Test.YtgnolhikphoagaaDoorErI
import Derived.Test.YtgnolhikphoagaaDoorSoI
import Derived.Test.YtgnolhikphoagaaDoorFaI
import Derived.Test.YtgnolhikphoagaaDoorReI
namespace Go.Proofs.YtgnolhikphoagaaDoor
open Go.ChangeShapes Go.WideShapes Go.ChangeAt Go.RowKit Go.ChangeMaps

theorem mem_step {ys : List (List UInt8)} {k : Nat} (h : k < ys.length) (r : List UInt8) : decide (r ∈ ys.take (k + 1)) = (decide (r ∈ ys.take k) || decide (ys[k]?.getD [] = r)) := by
  have e : r ∈ ys.take (k + 1) ↔ (r ∈ ys.take k ∨ ys[k] = r) := by
    rw [List.take_succ_eq_append_getElem h, List.mem_append, List.mem_singleton]
    exact ⟨fun h => h.elim .inl (fun h => .inr h.symm), fun h => h.elim .inl (fun h => .inr h.symm)⟩
  rw [List.getElem?_eq_getElem h, show decide (r ∈ ys.take (k + 1)) = decide (r ∈ ys.take k ∨ ys[k] = r) from decide_eq_decide.2 e, Bool.decide_or]
  rfl
theorem ofI {t : List UInt8} (h : ofOk t = true) (w : World) : Calls Tryd.prog 36 #[.string (str t)] w (RetB (.tuple #[.string (str (sgT t)), .bool true]) w) := by
  have h1 := implSignalOf_b (str t) w
  rw [by_str, h, ofV_yes h] at h1
  exact h1
theorem farE {s : ByteArray} {t : List UInt8} (h : hitOk (byL s) t) (w : World) (hs : s.size ≤ 80) : Calls Tryd.prog 29 #[.string (str (sgT t)), .string s] w (RetB (.int .i64 1) w) := by
  have hl := sgT_len t
  have h0 := (ofOk_true.1 h.1).1
  have h1 := implSignalFar_b (str (sgT t)) s w (by rw [str_size]; omega) (by omega)
  rw [by_str, h.2] at h1
  exact h1
theorem errI {s : ByteArray} {x : List UInt8} (e : byL s = x) (h : sigB x = true) (w : World) (hs : s.size ≤ 80) (hT : Tab w) : Calls Tryd.prog 33 #[.string s] w (RetSX 9 (fun v => .tuple #[v, .bool true]) (errL x) w) := by
  have h1 := implSignalErrors_b s w (by omega) hT
  rw [e, h] at h1
  exact h1

set_option maxRecDepth 100000 in
set_option maxHeartbeats 4000000 in
theorem fnErrors_in (A : Option Addr) (n c : Nat) (A1 : Option Addr) (n1 c1 : Nat) (w : World) (hl : n ≤ 1048576) (hnc : n ≤ c) (hb : Bytes w.heap.size w A n) (hl1 : n1 ≤ 1048576) (_ : n1 ≤ c1) (_ : Bytes w.heap.size w A1 n1) (hT : Tab w) :
    Calls Tryd.prog 9 #[.slice A n c, .slice A1 n1 c1] w (RetB (.bool true) w) := by
  have Hb := Lib.hid hb
  have tz0 := hT.lt
  have HT := Lib.hid hT
  have gn : ¬ (1048576 : Int) < (n : Int) := by omega
  have gn1 : ¬ (1048576 : Int) < (n1 : Int) := by omega
  clear hb hT
  go_enter Tryd.func9, Tryd.ntmps9
  go_wp2_with fail
  refine (DrawSignalErrors_c A n c _ (by omega) hnc Hb.out).mono ?_
  rintro e w1 ⟨s, rfl, zs, hB⟩
  replace HT := Lib.hid (HT.out.go hB)
  have Bt := Lib.hid hB
  clear hB Hb
  have zs0 := zs
  have Himpl := Lib.hid (fun W => implSignalErrors_b s W (by omega))
  have Hspec := Lib.hid (fun W => specSignalErrors_b s W (by omega))
  cases ho : sigB (byL s)
  · rw [ho, errL_no ho] at Himpl Hspec
    clear ho
    go_wp2_with fail
    refine (Himpl.out _ HT.out).mono ?_
    rintro e w2 ⟨B, d, rfl, ra, ro, rb⟩
    dsimp only
    replace Bt := Lib.hid (below_step Bt.out rb)
    have Ha := Lib.hid ra
    clear ra ro rb
    go_wp2_with fail
    refine (Hspec.out _).mono ?_
    rintro e w3 ⟨B2, d2, rfl, rh, ro, rb⟩
    dsimp only
    replace Bt := Lib.hid (below_step Bt.out rb)
    replace Ha := Lib.hid (Ha.out.go rb)
    have Hh := Lib.hid rh
    clear rh ro rb
    go_wp2_with fail
    refine (sameTexts_self B B2 d d2 [] _ Ha.out Hh.out).mono ?_
    rintro e w4 ⟨rfl, rb⟩
    replace Bt := Lib.hid (below_step Bt.out rb)
    replace Ha := Lib.hid (Ha.out.go rb)
    replace Hh := Lib.hid (Hh.out.go rb)
    clear rb
    go_wp2_with fail
    refine (sameTexts_self B B2 d d2 [] _ Ha.out Hh.out).mono ?_
    rintro e w5 ⟨rfl, rb⟩
    replace Bt := Lib.hid (below_step Bt.out rb)
    clear rb
    go_wp2
    go_ret
    exact ⟨rfl, Bt.out⟩
  have Hrd := Lib.hid (fun W => implSignalRead_b s W (by omega))
  have hen : errL (byL s) = errT (byL s) (byL s).length := errL_yes ho
  have Hel := Lib.hid (show (errL (byL s)).length ≤ 2 * s.size by rw [hen, ← byL_len]; exact errT_two ho _ (Nat.le_refl _))
  have Hok := Lib.hid (fun k (hk : k < (errL (byL s)).length) => (show hitOk (byL s) ((errL (byL s))[k]?.getD []) by
    rw [List.getElem?_eq_getElem hk]
    exact errT_ok ho _ (Nat.le_refl _) _ (hen ▸ List.getElem_mem hk)))
  have Hfd := Lib.hid (fun (h : rdB (byL s) = true) (k : Nat) (hk : k < s.size) (p : UInt8) (hp : isPul p = true) (hne : p ≠ s[k]) => err_found h (i := k) (by rw [byL_len]; exact hk) hp (by
    have e := byL_at s k hk
    rw [List.getElem?_eq_getElem (by rw [byL_len]; exact hk)] at e
    rw [Option.some.inj e]; exact hne))
  have Hpul := Lib.hid (fun (k : Nat) (hk : k < s.size) => sigB_pul ho hk)
  rw [ho] at Himpl Hspec
  obtain ⟨zs, hzs⟩ : ∃ x, errL (byL s) = x := ⟨_, rfl⟩
  simp only [hzs] at Himpl Hspec Hel Hok
  obtain ⟨T, hT⟩ : ∃ x, str (rdV (byL s)) = x := ⟨_, rfl⟩
  simp only [hT] at Hrd
  have HTT := Lib.hid hT
  clear ho hen hzs hT
  go_wp2_with fail
  refine (Himpl.out _ HT.out).mono ?_
  rintro e w2 ⟨B, d, rfl, ra, ro, rb⟩
  dsimp only
  replace HT := Lib.hid (HT.out.go rb)
  replace Bt := Lib.hid (below_step Bt.out rb)
  have Ha := Lib.hid ra
  clear ra ro rb
  go_wp2_with fail
  refine (Hspec.out _).mono ?_
  rintro e w3 ⟨B2, d2, rfl, rh, ro, rb⟩
  dsimp only
  replace HT := Lib.hid (HT.out.go rb)
  replace Bt := Lib.hid (below_step Bt.out rb)
  replace Ha := Lib.hid (Ha.out.go rb)
  have Hh := Lib.hid rh
  clear rh ro rb
  go_wp2_with fail
  refine (sameTexts_self B B2 d d2 zs _ Ha.out Hh.out).mono ?_
  rintro e w4 ⟨rfl, rb⟩
  replace HT := Lib.hid (HT.out.go rb)
  replace Bt := Lib.hid (below_step Bt.out rb)
  replace Ha := Lib.hid (Ha.out.go rb)
  clear rb Hh Himpl Hspec
  go_wp2
  go_loopw [10] (fun i wr => ∃ k : Nat, k ≤ zs.length ∧ i = .int .i64 k ∧ Tab wr ∧ ArgX wr B d zs ∧ Below w.heap.size w wr) (fun i _ => zs.length - (intOf i).toNat)
  case atStart => exact ⟨0, Nat.zero_le _, rfl, HT.out, Ha.out, Bt.out⟩
  case round =>
    clear HT Ha Bt
    obtain ⟨k, hk, rfl, ht, ha, hb⟩ := hrel
    have HT := Lib.hid ht
    have Ha := Lib.hid ha
    have Bt := Lib.hid hb
    clear ht ha hb
    by_cases hlt : k < zs.length
    · have hok := Hok.out k hlt
      obtain ⟨b, off, rfl, _, _, c1⟩ := Ha.out.rd.at_ hlt
      obtain ⟨t, htt⟩ : ∃ t, zs[k]?.getD [] = t := ⟨_, rfl⟩
      rw [htt] at hok c1
      have Hof := Lib.hid (fun W => ofI hok.1 W)
      have Hfr := Lib.hid (fun W => farE hok W zs0)
      obtain ⟨V, hV⟩ : ∃ x, str t = x := ⟨_, rfl⟩
      obtain ⟨G, hG⟩ : ∃ x, str (sgT t) = x := ⟨_, rfl⟩
      rw [hV, hG] at Hof
      rw [hG] at Hfr
      rw [hV] at c1
      have g1 : (k : Int) < (zs.length : Int) := by omega
      have g4 : (0 : Int) ≤ (k : Int) := by omega
      have q1 : IntKind.i64.wrap ((k : Int) + 1) = (k : Int) + 1 := IntWalk.i64_in _ (by have := Ha.out.len; omega)
      clear hok htt hV hG
      go_wp2_with fail
      refine (Hof.out _).mono ?_
      rintro e w6 ⟨rfl, rb⟩
      replace HT := Lib.hid (HT.out.go rb)
      replace Bt := Lib.hid (below_step Bt.out rb)
      replace Ha := Lib.hid (Ha.out.go rb)
      clear rb c1
      go_wp2_with fail
      refine (Hfr.out _).mono ?_
      rintro e w7 ⟨rfl, rb⟩
      replace HT := Lib.hid (HT.out.go rb)
      replace Bt := Lib.hid (below_step Bt.out rb)
      replace Ha := Lib.hid (Ha.out.go rb)
      clear rb
      go_wp2
      go_roundw
      case rel => exact ⟨k + 1, by omega, by go_num, HT.out, Ha.out, Bt.out⟩
      case measure => simp [intOf]; omega
    · obtain rfl : k = zs.length := by omega
      have g1 : ¬ (zs.length : Int) < (zs.length : Int) := by omega
      have z1 : (zs.length : Int) ≤ 2 * (s.size : Int) := by have := Hel.out; omega
      have z2 : IntKind.i64.wrap (2 * (s.size : Int)) = 2 * (s.size : Int) := IntWalk.i64_in _ (by omega)
      have z3 : decide ((zs.length : Int) ≤ 2 * (s.size : Int)) = true := decide_eq_true z1
      clear Ha
      go_wp2_with fail
      refine (Hrd.out _ HT.out).mono ?_
      rintro e w6 ⟨rfl, rb⟩
      replace HT := Lib.hid (HT.out.go rb)
      replace Bt := Lib.hid (below_step Bt.out rb)
      clear rb Hrd
      cases ho : rdB (byL s)
      · clear ho
        go_wp2
        go_ret
        exact ⟨rfl, Bt.out⟩
      by_cases h0 : s.size = 0
      · have hnl : byL s = [] := List.eq_nil_of_length_eq_zero (by rw [byL_len]; exact h0)
        have e1 : s.toList.isEmpty = true := by rw [toList_by, hnl]; rfl
        have e2 : (s.toList == (⟨#[]⟩ : ByteArray).toList) = true := by rw [toList_by, toList_by, hnl]; rfl
        have hd : decide (zs = []) = true := decide_eq_true (List.eq_nil_of_length_eq_zero (by have := Hel.out; omega))
        clear hnl ho
        go_wp2
        go_ret
        exact ⟨rfl, Bt.out⟩
      have hne : byL s ≠ [] := fun e => h0 (by rw [← byL_len, e]; rfl)
      have e1 : s.toList.isEmpty = false := by rw [toList_by]; cases h : byL s with | nil => exact absurd h hne | cons a b => rfl
      have e2 : (s.toList == (⟨#[]⟩ : ByteArray).toList) = false := by
        rw [toList_by, toList_by, beq_eq_false_iff_ne]
        exact hne
      have h0i : ((s.size : Int) == 0) = false := by rw [beq_eq_false_iff_ne]; omega
      have h0j : ((s.size : Int) = 0) = False := eq_false (by omega)
      obtain ⟨d5, hd5⟩ : ∃ d, n1 % s.size = d := ⟨_, rfl⟩
      have hds : d5 < s.size := by rw [← hd5]; exact Nat.mod_lt _ (by omega)
      have q5 : (n1 : Int).tmod (s.size : Int) = (d5 : Int) := by
        rw [Int.tmod_eq_emod_of_nonneg (by omega), ← hd5]
        simp
      have q7 : IntKind.i64.wrap (d5 : Int) = (d5 : Int) := IntWalk.i64_in _ (by omega)
      have q8 : IntKind.i64.wrap ((d5 : Int) + 1) = (d5 : Int) + 1 := IntWalk.i64_in _ (by omega)
      have s0 : (0 : Int) ≤ (d5 : Int) := by omega
      have s1 : (d5 : Int) ≤ (s.size : Int) := by omega
      have s1' : (d5 : Int) < (s.size : Int) := by omega
      have s2 : (0 : Int) ≤ (d5 : Int) + 1 := by omega
      have s3 : (d5 : Int) + 1 ≤ (s.size : Int) := by omega
      have s4 : ((d5 : Int) + 1).toNat = d5 + 1 := by omega
      clear hne hd5
      have Hfd2 := Lib.hid (fun p hp hne => Hfd.out ho d5 hds p hp hne)
      have Hby := Lib.hid (fun p => congrArg byL (subP_str (s := s) (i := d5) p))
      have Hsz := Lib.hid (fun p => congrArg ByteArray.size (subP_str (s := s) (i := d5) p))
      have Hsz2 := Lib.hid (fun p => subP_len (l := byL s) (i := d5) p (by rw [byL_len]; exact hds))
      clear ho
      obtain ⟨P, hP⟩ : ∃ x, s.extract 0 d5 = x := ⟨_, rfl⟩
      obtain ⟨Q, hQ⟩ : ∃ x, s.extract (d5 + 1) s.size = x := ⟨_, rfl⟩
      have zp : P.size = d5 := by rw [← hP, ByteArray.size_extract]; omega
      have zq : Q.size = s.size - (d5 + 1) := by rw [← hQ, ByteArray.size_extract]; omega
      simp only [hP, hQ] at Hby Hsz
      have zo : (⟨#[48]⟩ : ByteArray).size = 1 := rfl
      have zo2 : (⟨#[43]⟩ : ByteArray).size = 1 := rfl
      have c1 : (P.size : Int) ≤ 8388608 := by omega
      have c2 : (Q.size : Int) ≤ 8388608 := by omega
      have c3 : ¬ 9223372036854775807 < P.size + (⟨#[48]⟩ : ByteArray).size := by omega
      have c4 : ¬ 9223372036854775807 < (P ++ ⟨#[48]⟩).size + Q.size := by rw [ByteArray.size_append]; omega
      have c5 : ¬ 9223372036854775807 < P.size + (⟨#[43]⟩ : ByteArray).size := by omega
      have c6 : ¬ 9223372036854775807 < (P ++ ⟨#[43]⟩).size + Q.size := by rw [ByteArray.size_append]; omega
      obtain ⟨x, hx⟩ : ∃ x : UInt8, s[d5]'hds = x := ⟨_, rfl⟩
      clear zo zo2
      by_cases hx48 : x = 48
      · have f1 : ((x.toNat : Int) == 48) = true := by rw [hx48]; rfl
        obtain ⟨hsg, hmem⟩ := Hfd2.out 43 rfl (by rw [hx, hx48]; decide)
        have Her := Lib.hid (fun W => errI (s := P ++ ⟨#[43]⟩ ++ Q) (x := subP (byL s) d5 43) ((Hby.out 43).trans (by_str _)) hsg W (by have h1 := Hsz.out 43; rw [str_size, Hsz2.out 43, byL_len] at h1; have h2 : (P ++ ⟨#[43]⟩ ++ Q).size = s.size := h1; omega))
        clear hx48 hsg Hby Hsz Hsz2 Hfd2
        have Htb := Lib.hid (fun q => HT.out.drewN q)
        have Hbb := Lib.hid (fun q => below_drewN Bt.out q)
        go_wp2_with fail
        repeat (go_quiet (fail); go_wp2_with fail)
        refine (Her.out _ (Htb.out _)).mono ?_
        rintro e w7 ⟨B6, d6, rfl, ra, ro, rb⟩
        dsimp only
        have Bt7 := Lib.hid (below_step (Hbb.out _) rb)
        obtain ⟨ys, hys⟩ : ∃ x, errL (subP (byL s) d5 43) = x := ⟨_, rfl⟩
        rw [hys] at ra hmem
        rw [hys]
        have Hy := Lib.hid ra
        have Hmem := Lib.hid hmem
        have hlen := ra.len
        clear ra ro rb hys hmem Her Htb Hbb
        go_wp2
        go_loopw [19, 20] (fun f i wr => ∃ k q : Nat, k ≤ ys.length ∧ i = .int .i64 k ∧ f = .bool (decide (rdV (byL s) ∈ ys.take k)) ∧ wr = w7.drewN q) (fun _ i _ => ys.length - (intOf i).toNat)
        case atStart => exact ⟨0, 0, Nat.zero_le _, rfl, by simp, rfl⟩
        case round =>
          obtain ⟨k, q, hk, rfl, rfl, rfl⟩ := hrel
          by_cases hlt : k < ys.length
          · obtain ⟨b, off, rfl, _, _, cc⟩ := Hy.out.rd.at_ hlt
            have hstep := mem_step hlt (rdV (byL s))
            obtain ⟨t, htt⟩ : ∃ t, ys[k]?.getD [] = t := ⟨_, rfl⟩
            rw [htt] at cc hstep
            have heq : ((str t).toList == T.toList) = decide (t = rdV (byL s)) := by
              rw [← HTT.out, str_list, str_list]
              by_cases h : t = rdV (byL s)
              · rw [h, decide_eq_true rfl]; exact beq_self_eq_true _
              · rw [decide_eq_false h]; exact beq_eq_false_iff_ne.2 h
            obtain ⟨V, hV⟩ : ∃ x, str t = x := ⟨_, rfl⟩
            rw [hV] at cc heq
            obtain ⟨fb, hfb⟩ : ∃ x, decide (rdV (byL s) ∈ ys.take k) = x := ⟨_, rfl⟩
            obtain ⟨gb, hgb⟩ : ∃ x, decide (t = rdV (byL s)) = x := ⟨_, rfl⟩
            rw [hfb, hgb] at hstep
            rw [hgb] at heq
            rw [hfb]
            have Hs := Lib.hid hstep
            have g1 : (k : Int) < (ys.length : Int) := by omega
            have g4 : (0 : Int) ≤ (k : Int) := by omega
            have q1 : IntKind.i64.wrap ((k : Int) + 1) = (k : Int) + 1 := IntWalk.i64_in _ (by omega)
            clear hV htt hstep hfb hgb
            cases fb <;> cases gb
            all_goals
              go_wp2
              repeat (go_quiet (fail); go_wp2)
              go_roundw
              case rel => exact ⟨k + 1, _, by omega, by go_num, by rw [Hs.out]; rfl, by first | exact World.drewN_drewN _ _ _ | rfl⟩
              case measure => simp [intOf]; omega
          · obtain rfl : k = ys.length := by omega
            have g1 : ¬ (ys.length : Int) < (ys.length : Int) := by omega
            have hall : decide (rdV (byL s) ∈ ys.take ys.length) = true := by rw [List.take_length]; exact decide_eq_true Hmem.out
            rw [hall]
            go_wp2
            go_ret
            exact ⟨rfl, below_drewN Bt7.out _⟩
      · have f1 : ((x.toNat : Int) == 48) = false := by rw [beq_eq_false_iff_ne]; intro h; exact hx48 (UInt8.toNat_inj.1 (by have : (48 : UInt8).toNat = 48 := rfl; omega))
        obtain ⟨hsg, hmem⟩ := Hfd2.out 48 rfl (by rw [hx]; exact fun e => hx48 e.symm)
        have Her := Lib.hid (fun W => errI (s := P ++ ⟨#[48]⟩ ++ Q) (x := subP (byL s) d5 48) ((Hby.out 48).trans (by_str _)) hsg W (by have h1 := Hsz.out 48; rw [str_size, Hsz2.out 48, byL_len] at h1; have h2 : (P ++ ⟨#[48]⟩ ++ Q).size = s.size := h1; omega))
        clear hx48 hsg Hby Hsz Hsz2 Hfd2
        have Htb := Lib.hid (fun q => HT.out.drewN q)
        have Hbb := Lib.hid (fun q => below_drewN Bt.out q)
        go_wp2_with fail
        repeat (go_quiet (fail); go_wp2_with fail)
        refine (Her.out _ (Htb.out _)).mono ?_
        rintro e w7 ⟨B6, d6, rfl, ra, ro, rb⟩
        dsimp only
        have Bt7 := Lib.hid (below_step (Hbb.out _) rb)
        obtain ⟨ys, hys⟩ : ∃ x, errL (subP (byL s) d5 48) = x := ⟨_, rfl⟩
        rw [hys] at ra hmem
        rw [hys]
        have Hy := Lib.hid ra
        have Hmem := Lib.hid hmem
        have hlen := ra.len
        clear ra ro rb hys hmem Her Htb Hbb
        go_wp2
        go_loopw [19, 20] (fun f i wr => ∃ k q : Nat, k ≤ ys.length ∧ i = .int .i64 k ∧ f = .bool (decide (rdV (byL s) ∈ ys.take k)) ∧ wr = w7.drewN q) (fun _ i _ => ys.length - (intOf i).toNat)
        case atStart => exact ⟨0, 0, Nat.zero_le _, rfl, by simp, rfl⟩
        case round =>
          obtain ⟨k, q, hk, rfl, rfl, rfl⟩ := hrel
          by_cases hlt : k < ys.length
          · obtain ⟨b, off, rfl, _, _, cc⟩ := Hy.out.rd.at_ hlt
            have hstep := mem_step hlt (rdV (byL s))
            obtain ⟨t, htt⟩ : ∃ t, ys[k]?.getD [] = t := ⟨_, rfl⟩
            rw [htt] at cc hstep
            have heq : ((str t).toList == T.toList) = decide (t = rdV (byL s)) := by
              rw [← HTT.out, str_list, str_list]
              by_cases h : t = rdV (byL s)
              · rw [h, decide_eq_true rfl]; exact beq_self_eq_true _
              · rw [decide_eq_false h]; exact beq_eq_false_iff_ne.2 h
            obtain ⟨V, hV⟩ : ∃ x, str t = x := ⟨_, rfl⟩
            rw [hV] at cc heq
            obtain ⟨fb, hfb⟩ : ∃ x, decide (rdV (byL s) ∈ ys.take k) = x := ⟨_, rfl⟩
            obtain ⟨gb, hgb⟩ : ∃ x, decide (t = rdV (byL s)) = x := ⟨_, rfl⟩
            rw [hfb, hgb] at hstep
            rw [hgb] at heq
            rw [hfb]
            have Hs := Lib.hid hstep
            have g1 : (k : Int) < (ys.length : Int) := by omega
            have g4 : (0 : Int) ≤ (k : Int) := by omega
            have q1 : IntKind.i64.wrap ((k : Int) + 1) = (k : Int) + 1 := IntWalk.i64_in _ (by omega)
            clear hV htt hstep hfb hgb
            cases fb <;> cases gb
            all_goals
              go_wp2
              repeat (go_quiet (fail); go_wp2)
              go_roundw
              case rel => exact ⟨k + 1, _, by omega, by go_num, by rw [Hs.out]; rfl, by first | exact World.drewN_drewN _ _ _ | rfl⟩
              case measure => simp [intOf]; omega
          · obtain rfl : k = ys.length := by omega
            have g1 : ¬ (ys.length : Int) < (ys.length : Int) := by omega
            have hall : decide (rdV (byL s) ∈ ys.take ys.length) = true := by rw [List.take_length]; exact decide_eq_true Hmem.out
            rw [hall]
            go_wp2
            go_ret
            exact ⟨rfl, below_drewN Bt7.out _⟩

theorem fnErrors_walk (A0 : Option Addr) (n0 c0 : Nat) (A1 : Option Addr) (n1 c1 : Nat) (w : World) (hb0 : Byt0 w A0 n0 c0) (hb1 : Byt0 w A1 n1 c1) (hT : Tab w) :
    Calls Tryd.prog 9 #[.slice A0 n0 c0, .slice A1 n1 c1] w (RetB (.bool true) w) := by
  by_cases hl0 : 1048576 < n0
  · have hg0 : (1048576 : Int) < (n0 : Int) := by omega
    clear hb0 hb1 hT
    go_enter Tryd.func9, Tryd.ntmps9
    go_wp2
    go_ret
    exact ⟨rfl, Below.refl _ _⟩
  have gn0 : ¬ (1048576 : Int) < (n0 : Int) := by omega
  by_cases hl1 : 1048576 < n1
  · have hg1 : (1048576 : Int) < (n1 : Int) := by omega
    clear hb0 hb1 hT
    go_enter Tryd.func9, Tryd.ntmps9
    go_wp2
    go_ret
    exact ⟨rfl, Below.refl _ _⟩
  have gn1 : ¬ (1048576 : Int) < (n1 : Int) := by omega
  exact fnErrors_in A0 n0 c0 A1 n1 c1 w (by omega) hb0.1 hb0.2.2 (by omega) hb1.1 hb1.2.2 hT

set_option maxRecDepth 100000 in
theorem fnErrors_lifted (os : Os) (started : os.Started) (H : Type) (enc : TypeId × Value → H) :
    ReturnsInHanded {} Tryd.checked os 9 .any (fun w args => (Rows.fnErrorsSpec.pre enc Tryd.prog Tryd.f9 [] false w args ∧ laidMetH Tryd.prog Rows.fnErrorsRow.laid w) ∧ sizedMet enc Tryd.prog Tryd.f9 (OpenSpec.ofChange Rows.fnErrorsSpec) false w args)
      (Rows.fnErrorsSpec.post enc Tryd.prog Tryd.f9 false true false false) := by
  refine handed_shaped started (by kernel_rfl) Tryd.func9
    (ChangeSpec.witness_shaped (enc := enc) (C := Tryd.checked) (os := os) (X := fun w _ => laidMetH Tryd.prog laidU w) false (doorW os) #[.slice none 0 0, .slice none 0 0] 8 (doorW_os os) (door_shaped os _) (by kernel_rfl) (by kernel_rfl) (by kernel_rfl) (door_laid os _)) ?_
  intro W base args ds gs before hval0 hW hT
  have hval : ∀ (j : Nat) t v, Tryd.f9.params[j]? = some t → args[j]? = some v → Value.okWide Tryd.prog W .any base t v := hval0
  have hW' := hW
  obtain ⟨p, q, hA0, hV, rfl, _, _⟩ := hW
  have hA : DataW.TrodAll enc Tryd.prog W 0 (fun _ => true) true Tryd.f9.params.toList args.toList ds p := hA0
  rw [Tryd.params9] at hA hval
  obtain ⟨v0, vs0, d0, ds0, p0, q0, hargs, rfl, rfl, h0, r0⟩ := trodAll_cons hA
  obtain ⟨v1, vs1, d1, ds1, p1, q1, rfl, rfl, rfl, h1, r1⟩ := trodAll_cons r0
  obtain ⟨rfl, rfl, rfl⟩ := trodAll_nil r1
  obtain rfl : args = #[v0, v1] := by cases args; simp_all
  obtain ⟨rfl, rfl⟩ := trodVars_none hV
  have hlt0 : ∀ x ∈ p0, x.block < W.heap.size := fun x hx => by exact hW'.lt x (by simp [hx])
  obtain ⟨A0, n0, c0, rfl, hb0⟩ := open_bytes (hval 0 22 v0 rfl rfl) h0 hlt0
  have hlt1 : ∀ x ∈ p1, x.block < W.heap.size := fun x hx => by exact hW'.lt x (by simp [hx])
  obtain ⟨A1, n1, c1, rfl, hb1⟩ := open_bytes (hval 1 22 v1 rfl rfl) h1 hlt1
  clear hA0 hval0
  refine (fnErrors_walk A0 n0 c0 A1 n1 c1 W hb0 hb1 hT).mono fun e W' ⟨he, hb⟩ => ?_
  subst he
  exact ⟨_, rfl, _, _, _, [], _, [], hW', (trodAll_cons_mk (shut_bool Tryd.underlying4 _) trodAll_mk0), (trodAll_cons_mk (read_again_bytes h0 hlt0 hb) (trodAll_cons_mk (read_again_bytes h1 hlt1 hb) trodAll_mk0)), rfl, hb.frame _, fun h => by cases h⟩

set_option maxRecDepth 100000 in
theorem fnErrors_closed : joinedFacts Tryd.prog 9 Tryd.f9 Rows.fnErrorsSpec Rows.fnErrorsRow = true := by
  unfold joinedFacts
  repeat' (with_reducible apply facAnd)
  all_goals first | (with_reducible exact facEnter) | (with_reducible exact facLaid) | (with_reducible exact facMaps) | (with_reducible exact facStops) | (with_reducible exact facKnobs) | (with_reducible exact facHeard) | (rw [facLifts]; as_aux_lemma => kernel_rfl) | (rw [facMake]; as_aux_lemma => kernel_rfl) | (as_aux_lemma => kernel_rfl)

/-- the bare row -/
theorem fnErrors_row : Rows.FnErrorsSaid :=
  OpenClaim.holds_of_wide 9 Tryd.f9 rfl rfl rfl rfl rfl rfl rfl ⟨rfl, rfl, rfl, rfl, rfl⟩ rfl rfl rfl rfl rfl (by kernel_rfl) Tryd.func9 fnErrors_closed
    (of_decide_eq_true (by kernel_rfl)) (by unfold Func.isWrapper; first | (rw [if_pos (by decide +kernel)]; kernel_rfl) | (rw [if_neg (by decide +kernel)]; exact ⟨rfl, rfl⟩))
    (fun os started H enc _ => fnErrors_lifted os started H enc)

/-- THE STATEMENT: the card -/
theorem fnErrors_holds : Rows.FnErrorsCardSaid :=
  Claim7.holds_tied_plain_at .later [] [.data, .pinned] true Rows.fnErrorsCard.stood.harness false
    fnErrors_row (fun _ h => by cases h) (by kernel_rfl) (fun _ h => by cases h) fnErrors_row_tie rfl ⟨rfl, rfl⟩ door_main rfl
    (fun f fn hf hfn => by
      obtain rfl : f = 9 := Option.some.inj ((show Tryd.prog.funcNamed Rows.fnErrorsRow.func = some 9 by kernel_rfl).symm.trans hf) |>.symm
      obtain rfl : fn = Tryd.f9 := (Option.some.inj (Tryd.func9.symm.trans hfn)).symm
      exact ⟨door_looks, fun j t ht => by
        rw [Tryd.params9] at ht
        have hm : t ∈ [22, 22] := by simpa using Array.mem_of_getElem? ht
        have hall : ([22, 22].all fun u => !Tryd.prog.wantsStandIn u) = true := by kernel_rfl
        exact (show Tryd.prog.wantsStandIn t = false by simpa using List.all_eq_true.1 hall t hm)⟩)
    (by kernel_rfl)
#print axioms fnErrors_holds
end Go.Proofs.YtgnolhikphoagaaDoor
