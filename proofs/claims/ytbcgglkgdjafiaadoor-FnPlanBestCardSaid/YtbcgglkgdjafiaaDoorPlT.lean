/-
  A pure call may be taken first in a region that draws its order. / The model's l6rLeast. Written by genplt.py. / PlanBest of the model. Written by genplt2.py.
-/
import Derived.OrdersHeld
import Derived.Deep.QuietTactic
import Derived.Test.YtbcgglkgdjafiaaDoorPlnB
import Derived.Test.YtbcgglkgdjafiaaDoorPlV
import Derived.Test.YtbcgglkgdjafiaaDoorFcS
import Derived.Test.YtbcgglkgdjafiaaDoorApI0
import Derived.Test.YtbcgglkgdjafiaaDoorTkH0
import Derived.Test.YtbcgglkgdjafiaaDoorKeep
import Derived.Deep.RegionHeld3
import Derived.Test.YtbcgglkgdjafiaaDoorPlE
namespace Go.Proofs.YtbcgglkgdjafiaaDoor

section
variable {P : Program} {ops : Array Oper} {Q : Exit → Act → World → Prop} {md : Region.Mode} {S : World → Prop}

/-- from every world that meets S the operation is a call that hands back v in the world that it got -/
def PureC (P : Program) (ops : Array Oper) (S : World → Prop) (o : Oper) (v : Value) (a : Act) : Prop :=
  Region.wanted o (yielded ops a.tmps) = true ∧ ∀ w, S w → o.quietAt P a (fun w' => w' = w) w v
/-- the frame behind another operation: something is put into its slot -/
def Behind (o : Oper) (a a' : Act) : Prop := ∃ ds u, a' = Act.put { a with defers := ds } o.dst u

theorem PureC.behind {oi oj : Oper} {v : Value} {a a' : Act} (hs : ∀ cs b, oi.op ≠ .select cs b) (hap : oi.apart ops oj = true) (h : PureC P ops S oi v a) (hb : Behind oj a a') : PureC P ops S oi v a' := by
  obtain ⟨ds, u, rfl⟩ := hb
  have h3 := (Oper.apart_spec hap).2.2
  refine ⟨(wanted_put oi _ oj.dst u h3).trans h.1, fun w hw => ?_⟩
  have := h.2 w hw
  unfold Oper.quietAt at this ⊢
  rw [execOp_put oi hs _ oj.dst u h3]
  exact this
theorem PureC.op {i : Nat} {o : Oper} {v : Value} {a : Act} (hi : ops[i]? = some o) (hy : PureC P ops S o v a) {K : Act → World → Prop} {w : World} (hS : S w) (h : K (a.put o.dst v) w) : wpOp P ops Q i K a w := by
  unfold wpOp
  rw [hi]
  dsimp only
  rw [if_pos hy.1]
  exact .inl (Oper.wp_of_quiet (C := fun w' => w' = w) (K := fun a' => a' = a.put o.dst v) rfl (fun a' w' e1 e2 => by rw [e1, e2]; exact h) ⟨v, fun w' e => by subst e; exact hy.2 _ hS, rfl⟩)
theorem upon_apart {oj : Oper} {dst : Option Tmp} {v : Value} {a : Act} {K : Act → World → Prop} (h2 : ∀ d, dst = some d → oj.dst ≠ some d) (hQ : ∀ c a w, Q (.panic c) (a.put dst v) w → Q (.panic c) a w)
    (r : Result Next) (h : oj.upon P (a.put dst v) K Q r) : oj.upon P a (fun a' w' => Behind oj a a' ∧ K (a'.put dst v) w') Q r := by
  have on : ∀ (ds : List Deferred) (u : Value) (w' : World), K (({ a with defers := ds } : Act).put dst v |>.put oj.dst u) w' → Behind oj a (Act.put { a with defers := ds } oj.dst u) ∧ K ((Act.put { a with defers := ds } oj.dst u).put dst v) w' := fun ds u w' hk => ⟨⟨ds, u, rfl⟩, by rw [← Act.put_comm _ v u h2]; exact hk⟩
  have eds : ({ a with defers := a.defers } : Act) = a := rfl
  match r, h with
  | .ok (.value u) w', h => exact on a.defers u w' h
  | .ok .skip w', h => exact on a.defers undef w' h
  | .ok (.defer d) w', h =>
    refine on (d :: a.defers) undef w' ?_
    rw [← Act.put_defers]
    exact h
  | .ok (.enter f args) w', h =>
    refine Calls.mono h fun e w'' he => ?_
    match e, he with
    | .returned u, he => exact on a.defers u w'' he
    | .panicked c, he => exact hQ _ _ _ he
    | .outgrown, he => exact he
  | .ok (.row row args) w', h => exact Rows.mono h fun u w'' he => on a.defers u w'' he
  | .halt (.panic u) w', h => exact hQ _ _ _ h
theorem op_apart {j : Nat} {oi oj : Oper} {v : Value} (hj : ops[j]? = some oj) (hap : oi.apart ops oj = true) (hsj : ∀ cs b, oj.op ≠ .select cs b)
    (hQ : ∀ c a w, Q (.panic c) (a.put oi.dst v) w → Q (.panic c) a w) {K : Act → World → Prop} {a : Act} {w : World}
    (h : wpOp P ops Q j K (a.put oi.dst v) w) : wpOp P ops Q j (fun a' w' => Behind oj a a' ∧ K (a'.put oi.dst v) w') a w := by
  obtain ⟨h1, h2, _⟩ := Oper.apart_spec hap
  unfold wpOp at h ⊢
  rw [hj] at h ⊢
  dsimp only at h ⊢
  rw [wanted_put oj a oi.dst v h1] at h
  by_cases hw : Region.wanted oj (yielded ops a.tmps) = true
  · rw [if_pos hw] at h ⊢
    unfold Oper.wp Oper.asks at *
    rw [execOp_put oj hsj a oi.dst v h1] at h
    exact h.imp (upon_apart h2 hQ _) id
  · rw [if_neg hw] at h ⊢
    exact ⟨⟨a.defers, undef, rfl⟩, by rw [← Act.put_comm a v undef h2]; exact h⟩

theorem wpAnyH_pure {i : Nat} {oi : Oper} {v : Value} (hi : ops[i]? = some oi) (hsel : Region.noSelect ops = true) (hQ : ∀ c a w, Q (.panic c) (a.put oi.dst v) w → Q (.panic c) a w) :
    ∀ (fuel : Nat) (listed : Array Bool) (a : Act) (w : World),
      (∀ j oj, ops[j]? = some oj → j ≠ i → listed.getD j true = false → (∀ e ∈ oj.after, Region.binds md e = true → e.on ≠ i) → oi.apart ops oj = true) →
      i ∈ Region.ready md ops listed → PureC P ops S oi v a → S w →
      wpAnyH P md ops Q S fuel (listed.setIfInBounds i true) (a.put oi.dst v) w → wpAnyH P md ops Q S (fuel + 1) listed a w := by
  intro fuel
  induction fuel with
  | zero =>
    intro listed a w _ hr hy hS H
    refine ⟨fun e => (by rw [e] at hr; exact absurd hr List.not_mem_nil), fun j hj => ?_⟩
    rcases Decidable.em (j = i) with rfl | hne
    · exact hy.op hi hS ⟨hS, H⟩
    · have h9 := ready_mono hj hne
      rw [H.1] at h9
      exact absurd h9 List.not_mem_nil
  | succ fuel ih =>
    intro listed a w hfree hr hy hS H
    refine ⟨fun e => (by rw [e] at hr; exact absurd hr List.not_mem_nil), fun j hj => ?_⟩
    rcases Decidable.em (j = i) with rfl | hne
    · exact hy.op hi hS ⟨hS, H⟩
    obtain ⟨hun, oj, hoj, hall⟩ := mem_ready.1 hj
    have hun0 := (mem_ready.1 hr).1
    have hno : ∀ e ∈ oj.after, Region.binds md e = true → e.on ≠ i := by
      intro e he hb heq
      have h1 := hall e he hb
      rw [heq] at h1
      rw [Array.getD_eq_getD_getElem?] at h1 hun0
      cases hc : listed[i]? with
      | none => rw [hc] at hun0; cases hun0
      | some x => rw [hc] at h1 hun0; exact absurd (h1.symm.trans hun0) (by simp)
    have hap := hfree j oj hoj hne hun hno
    refine wpOp_mono (fun a' w' h => ?_) (op_apart hoj hap (Region.noSelect_spec hsel j oj · · hoj) hQ (H.2 j (ready_mono hj hne)))
    refine ⟨h.2.1, ih _ a' w' (fun k ok hk hki hku hkn => hfree k ok hk hki ?_ hkn) (ready_mono hr (Ne.symm hne)) (hy.behind (Region.noSelect_spec hsel i oi · · hi) hap h.1) h.2.1 ?_⟩
    · rcases Decidable.em (j = k) with rfl | hjk
      · exact hun
      · rwa [getD_set_ne true hjk] at hku
    · rw [Array.setIfInBounds_comm _ _ hne]
      exact h.2.2

/-- a pure call that may come up is taken first -/
theorem wpAnyH_call {i : Nat} {oi : Oper} {v : Value} {fuel : Nat} {listed : Array Bool} {a : Act} {w : World} (hi : ops[i]? = some oi)
    (hs : Region.noSelect ops = true) (hf : Region.free md ops listed i = true) (hr : (Region.ready md ops listed).contains i = true)
    (hQ : ∀ c a w, Q (.panic c) (a.put oi.dst v) w → Q (.panic c) a w) (hy : PureC P ops S oi v a) (hS : S w)
    (h : wpAnyH P md ops Q S fuel (listed.setIfInBounds i true) (a.put oi.dst v) w) : wpAnyH P md ops Q S (fuel + 1) listed a w :=
  wpAnyH_pure hi hs hQ fuel listed a w (Region.free_spec hi hf) (by simpa using hr) hy hS h
end
end Go.Proofs.YtbcgglkgdjafiaaDoor

namespace Go.Proofs.YtbcgglkgdjafiaaDoor
open Go.RowKit

theorem fromP_rw {n : Nat} : ∀ (j : Nat) (r x : List Int), r.length + j = n → rwP n r → x ∈ fromP n r → rwP n x ∧ x.length = n
  | 0, r, x, h, hr, hx => by
    rw [fromP_end (by omega)] at hx
    simp at hx; subst hx
    exact ⟨hr, by omega⟩
  | j + 1, r, x, h, hr, hx => by
    rw [fromP_on (by omega), List.mem_flatMap] at hx
    obtain ⟨y, hy, hx⟩ := hx
    obtain ⟨i, hi, hf, rfl⟩ := ext_mem.1 hy
    exact fromP_rw j _ x (by simp; omega) (rwP_snoc hr hi (pf_true.1 hf)) hx
/-- the work of a row never comes to more than the open days -/
theorem wk_room {L : List UInt8} {J : List Jbs} (ht : timeB L J = true) {r : List Int} (hr : rwP J.length r) (hl : r.length ≤ J.length) : 0 ≤ wkP J r ∧ wkP J r ≤ (opT L L.length : Int) := by
  obtain ⟨x, hx⟩ := fromP_ne (n := J.length) (J.length - r.length) r (by omega)
  obtain ⟨⟨h1, h2⟩, h3⟩ := fromP_rw (J.length - r.length) r x (by omega) hr hx
  obtain ⟨t, rfl, _⟩ := fromP_pre (J.length - r.length) r x (by omega) hx
  obtain ⟨_, h5, _⟩ := timeB_true.1 ht
  have h6 := (jbB_true.1 h5).1
  have hp : planB L J (r ++ t) = true := planB_true.2 ⟨ht, ordB_true.2 ⟨by omega, h1, fun i hi => by have := h2 i hi; omega⟩, h3⟩
  have h7 := (wkT_le hp (k := r.length) (by simp)).2
  rw [wkT_left J r t _ (Nat.le_refl _)] at h7
  exact ⟨(wkT_bd h5 r r.length).1, h7⟩
theorem dy_room {L : List UInt8} {J : List Jbs} (ht : timeB L J = true) {r : List Int} (hr : rwP J.length r) (hl : r.length < J.length) {k : Nat} (hk : k < J.length) (hm : (k : Int) ∉ r) :
    dyV L (wkP J r + (jbsAt J k).d) = dyI L (wkP J r + (jbsAt J k).d) ∧ 0 ≤ wkP J r + (jbsAt J k).d ∧ wkP J r + (jbsAt J k).d ≤ 30 := by
  have h := wk_room ht (rwP_snoc hr hk hm) (by simp; omega)
  rw [wkP_snoc, Int.toNat_natCast] at h
  have h2 := (timeB_true.1 ht).1
  have h3 := opT_all L
  have h4 := fc_l30 h2
  exact ⟨dyV_yes h2 (inB_true.2 h), h.1, by omega⟩

/-- append(own, ints...) as a step of a region that draws -/
theorem step_append_ints {P : Program} {w : World} {ops : Array Oper} {o : Oper} {a : Act} {K : Act → World → Prop} {Q : Exit → Act → World → Prop} {E : Prop} (hgd : o.guard = none) (s x : Operand) (t : TypeId)
    (ho : o.op = .call { callee := .builtin .append, args := #[s, x], argTypes := #[t, t] })
    (base : Nat) (e : TypeId) (i : TypeInfo) (z : Value) (ht : P.underlying t = some (.slice e)) (hi : P.info? e = some i) (hz : i.zero = some z)
    (hsize : i.size = 1) (hby : i.bytes = 8) (hzs : z.cells.size = 1)
    (v : Value) (xs : List Int) (hs : a.eval s = v) (hown : w.ownsRow base e 1 v xs.length (xs.map (Value.int .i64)))
    (A : Option Addr) (c : Nat) (ss : List Int) (hx : a.eval x = .slice A ss.length c) (ha : Arg w A c ss)
    (h63 : xs.length + ss.length ≤ 8388608) (hbase : base ≤ w.heap.size)
    (h : ∀ v' w', w'.ownsRow base e 1 v' (xs ++ ss).length ((xs ++ ss).map (Value.int .i64)) → w.grownBy w' v.ownBlock → K (a.put o.dst v') w') :
    if Region.wanted o (yielded ops a.tmps) = true then Oper.wp P o a w K Q else E := by
  have hw : Region.wanted o (yielded ops a.tmps) = true := by simp [Region.wanted, hgd]
  rw [if_pos hw]
  rw [List.length_append, List.map_append] at h
  have fin : ∀ (v' : Value) (w' : World), (Builtin.append_ #[t, t] o.type #[v, .slice A ss.length c]).run P w = .ok v' w' → K (a.put o.dst v') w' → Oper.wp P o a w K Q := by
    intro v' w' hr hk
    unfold Oper.wp execOp
    simp only [ho, resolve, invoke, builtin, Sem.run_bind, Sem.run_pure, Result.andThen_ok, List.map_toArray, List.map_cons, List.map_nil, hs, hx, hr]
    exact hk
  have some_ : ∀ (ad : Addr), A = some ad → (∀ j u, (ss.map (Value.int .i64))[j]? = some u → w.cell? (ad.add j) = some u) → Oper.wp P o a w K Q := by
    intro ad e hc
    subst e
    obtain ⟨v', w', hr, h2, h3, _⟩ := run_append_own (P := P) w base t o.type e i z 1 8 ht hi hz hsize hby hzs (by omega) v xs.length (xs.map (Value.int .i64)) hown ad ss.length c (ss.map (Value.int .i64)) (by simp) hc (intsOne ss) (by unfold maxLen; omega) (by omega) hbase
    exact fin v' w' hr (h v' w' h2 h3)
  cases A with
  | none =>
    have h0 : ss = [] := by
      rcases Nat.lt_or_ge 0 ss.length with hp | hp
      · obtain ⟨b, o, e, _⟩ := ha.rd hp
        cases e
      · exact List.eq_nil_of_length_eq_zero (by omega)
    subst h0
    exact fin v w (run_append_none_i base t o.type e i 1 ht hi v xs.length c (xs.map (Value.int .i64)) hown) (h v w (by simpa using hown) (World.grownBy.refl _ _))
  | some ad =>
    by_cases hn : ss.length = 0
    · have h0 : ss = [] := List.eq_nil_of_length_eq_zero hn
      subst h0
      exact some_ ad rfl (fun j u hu => by simp at hu)
    · obtain ⟨b, off, e1, _⟩ := ha.rd (by omega)
      injection e1 with e1
      subst e1
      exact some_ _ rfl (argI_cells ha)
/-- what the first append leaves where the one int lies behind the empty row -/
theorem next1b {w w3 : World} {t : TypeId} {v1 : Value} {r : List Int} {i : Int} (hown : w3.ownsRow w.heap.size t 1 v1 ([] ++ r).length (([] ++ r).map (Value.int .i64)))
    (hg : ((w.alloc (.cells #[] t)).alloc (.cells #[.int .i64 i] t)).grownBy w3 (Value.ownBlock (.slice (some ⟨w.heap.size, 0, none⟩) 0 0))) :
    w3.ownsRow w.heap.size t 1 v1 r.length (r.map (Value.int .i64)) ∧ Below w.heap.size w w3 ∧ Arg w3 (some ⟨w.heap.size + 1, 0, none⟩) 1 [i] := by
  rw [List.nil_append] at hown
  have ha := arg_one (w.alloc (.cells #[] t)) i t
  rw [World.size_alloc] at ha
  refine ⟨hown, ((below_none w t).alloc (by simp) _).grown hg (by simp; omega) (fun k e => by simp [Value.ownBlock] at e; omega), ?_⟩
  refine ha.grown (lo := w.heap.size + 1) (hi := w.heap.size + 2) ?_ (by simp) hg (fun k e => by simp [Value.ownBlock] at e; omega)
  exact fun _ => ⟨w.heap.size + 1, 0, rfl, Nat.le_refl _, by omega, fun j hj => by
    obtain ⟨b', o', e, _, _, h0⟩ := ha.rd.at_ hj
    injection e with e
    injection e with e1 e2 _
    subst e1; subst e2
    exact h0⟩
theorem next2b {w w3 w4 : World} {B : Nat} (hB : B ≤ w.heap.size) {t : TypeId} {v1 v2 : Value} {r r' : List Int} (h : w3.ownsRow B t 1 v1 r.length (r.map (Value.int .i64))) (hb : Below B w w3) {i : Int} (hr : r ++ [i] = r') (hl : r'.length ≤ 2097152)
    (hown : w4.ownsRow B t 1 v2 (r ++ [i]).length ((r ++ [i]).map (Value.int .i64))) (hg : w3.grownBy w4 v1.ownBlock) :
    ∃ A c, v2 = .slice A r'.length c ∧ Arg w4 A c r' ∧ Below B w w4 := by
  rw [hr] at hown
  have ho := Ow.of_own hown
  obtain ⟨A, c, rfl, _, _, _⟩ := ho.form
  exact ⟨A, c, rfl, ho.arg hl (Nat.le_refl _), hb.grown hg (Nat.le_trans hB hb.size) (fun k e => (h.lt k e).1)⟩

set_option maxRecDepth 100000 in
set_option maxHeartbeats 4000000 in
theorem l6rLeast_c (s : ByteArray) (hs : s.size ≤ 2097152) (A : Option Addr) (c : Nat) (J : List Jbs) (ht : timeB (byL s) J = true) : ∀ (j : Nat) (r : List Int) (A2 : Option Addr) (c2 : Nat) (w : World), r.length + j = J.length → rwP J.length r → ArgJ w A c J → Arg w A2 c2 r →
    Calls Tryd.prog 66 #[.string s, .slice A J.length c, .slice A2 r.length c2, .int .i64 (wkP J r)] w (RetB (.int .i64 (lstP (byL s) J r)) w)
  | 0, r, A2, c2, w, hj, hx, h1, h2 => by
    have hl := h2.len
    have g0 : (r.length : Int) = (J.length : Int) := by omega
    have He := Lib.hid (lstP_end (L := byL s) (J := J) (r := r) (by omega))
    clear h1 h2 hx
    go_enter Tryd.func66, Tryd.ntmps66
    go_wp2
    go_ret
    exact ⟨by rw [He.out]; rfl, Below.refl _ _⟩
  | j + 1, r, A2, c2, w, hj, hx, h1, h2 => by
    obtain ⟨i0, hi, hz0, hz1, hz2⟩ := info_parts intInf
    have hl := h2.len
    obtain ⟨hbL, hbJ, _⟩ := timeB_true.1 ht
    have hj6 := (jbB_true.1 hbJ).1
    have hr : r.length < J.length := by omega
    have g0 : ¬ (r.length : Int) = (J.length : Int) := by omega
    have gb : ((r.length : Int) == (J.length : Int)) = false := beq_false_of_ne g0
    have hend := lstTo_all (L := byL s) hr
    have IH := Lib.hid (l6rLeast_c s hs A c J ht j)
    have H1 := Lib.hid h1
    have H2 := Lib.hid h2
    have Hx := Lib.hid hx
    have HbL := Lib.hid hbL
    have HbJ := Lib.hid hbJ
    have Ht := Lib.hid ht
    have Hend := Lib.hid hend
    have Hdy := Lib.hid (fun (k : Nat) hk hm => dy_room ht hx hr (k := k) hk hm)
    have Hwk := Lib.hid (fun (k : Nat) => wkP_snoc J r (k : Int))
    have hwk0 := wk_room ht hx (Nat.le_of_lt hr)
    have hop := opT_all (byL s)
    have hl30 := fc_l30 hbL
    obtain ⟨W, hW⟩ : ∃ W, wkP J r = W := ⟨_, rfl⟩
    rw [hW] at Hdy Hwk hwk0 ⊢
    have HW := Lib.hid hW
    have hw30 : W ≤ 30 := by omega
    obtain ⟨hw0, _⟩ := hwk0
    clear h1 h2 hx hbL hbJ ht hend hop hl30 hW
    go_enter Tryd.func66, Tryd.ntmps66
    go_wp2
    go_loopw [9, 10] (fun q i wr => ∃ k : Nat, k ≤ J.length ∧ i = .int .i64 k ∧ q = .int .i64 (lstTo (byL s) J r k) ∧ Below w.heap.size w wr) (fun _ i _ => J.length - (intOf i).toNat)
    case atStart => exact ⟨0, Nat.zero_le _, rfl, rfl, Below.refl _ _⟩
    case round =>
      obtain ⟨k, hk, rfl, rfl, hb⟩ := hrel
      have Hb := Lib.hid hb
      clear hb
      by_cases hlt : k < J.length
      case neg =>
        obtain rfl : k = J.length := by omega
        go_wp2
        go_ret
        exact ⟨by rw [Hend.out]; rfl, Hb.out⟩
      case pos =>
        have g1 : (k : Int) < (J.length : Int) := by omega
        have hhas := l4Has_c A2 c2 r (k : Int) wr (H2.out.go Hb.out)
        by_cases hm : (k : Int) ∈ r
        case pos =>
          rw [decide_eq_true hm] at hhas
          have Hhas := Lib.hid hhas
          have Hn := Lib.hid (lstTo_no (L := byL s) (J := J) hm)
          clear hm hhas
          go_wp2_with fail
          refine Hhas.out.mono ?_
          rintro e w1 ⟨rfl, rfl⟩
          go_wp2
          go_roundw
          case rel => exact ⟨k + 1, by omega, by go_num, by rw [Hn.out], Hb.out⟩
          case measure => simp [intOf]; omega
        rw [decide_eq_false hm] at hhas
        have Hhas := Lib.hid hhas
        have hn := lstTo_yes (r := r) HbL.out HbJ.out hr hlt hm
        have hbd := lstTo_bd HbL.out HbJ.out hr k hk
        obtain ⟨hdy, hd0, hd30⟩ := Hdy.out k hlt hm
        have hnb := nxt_bd (r := r) HbL.out HbJ.out k
        have hxr := rwP_snoc Hx.out hlt hm
        have hmb := lstP_bd (r := r ++ [(k : Int)]) HbL.out HbJ.out (by simp; omega)
        have hwr := Hwk.out k
        have hnd : nxtP (byL s) J r k = (jbsAt J k).g * dyI (byL s) (W + (jbsAt J k).d) := by unfold nxtP; rw [HW.out]
        rw [Int.toNat_natCast] at hwr
        have a1 := H1.out.go Hb.out
        have hjl := a1.len
        obtain ⟨b0, off0, rfl, _, hbw0, he0, he1⟩ := a1.rd.at_ hlt
        obtain ⟨r', hr'⟩ : ∃ r', r ++ [(k : Int)] = r' := ⟨_, rfl⟩
        have hl' : r'.length = r.length + 1 := by rw [← hr']; simp
        have ihr := fun (A3 : Option Addr) (c3 : Nat) (W9 : World) => IH.out r' A3 c3 W9 (by omega) (by rw [← hr']; exact hxr)
        rw [hr'] at hn hmb hwr hxr
        obtain ⟨D, hD⟩ : ∃ D, (jbsAt J k).d = D := ⟨_, rfl⟩
        obtain ⟨y, hy⟩ : ∃ y, (jbsAt J k).g = y := ⟨_, rfl⟩
        rw [hD] at hdy hd0 hd30 hwr hnd he0
        rw [hy] at hnd he1
        rw [hwr, hl'] at ihr
        obtain ⟨U, hU⟩ : ∃ U, W + D = U := ⟨_, rfl⟩
        rw [hU] at hdy hd0 hd30 hnd ihr
        have q3 : IntKind.i64.wrap (W + D) = U := by rw [hU]; exact IntWalk.i64_in _ (by omega)
        obtain ⟨v, hv⟩ : ∃ v, dyI (byL s) U = v := ⟨_, rfl⟩
        rw [hv] at hdy hnd
        obtain ⟨n, hn0⟩ : ∃ n, nxtP (byL s) J r k = n := ⟨_, rfl⟩
        rw [hn0] at hn hnb hnd
        obtain ⟨m, hm0⟩ : ∃ m, lstP (byL s) J r' = m := ⟨_, rfl⟩
        rw [hm0] at hn hmb ihr
        obtain ⟨q, hq⟩ : ∃ q, lstTo (byL s) J r k = q := ⟨_, rfl⟩
        rw [hq] at hn hbd ⊢
        have hfc := specForecastDay_c s hs U
        rw [hdy] at hfc
        have q1 : IntKind.i64.wrap (y * v) = n := by rw [hnd]; exact IntWalk.i64_in _ (by omega)
        have q2 : IntKind.i64.wrap (n + m) = n + m := IntWalk.i64_in _ (by omega)
        have Hfc := Lib.hid hfc
        have Hn := Lib.hid hn
        have Ihr := Lib.hid ihr
        have Hr' := Lib.hid hr'
        obtain ⟨hn1, hn2⟩ := hnb
        obtain ⟨hm1, hm2⟩ := hmb
        clear hhas hn hdy hxr hwr hnd ihr hr' hD hy hU hv hn0 hm0 hq hfc hm a1
        go_wp2_with fail
        refine Hhas.out.mono ?_
        rintro e w1 ⟨rfl, rfl⟩
        go_wp2
        refine wp_region_held_drew (S := (fun w9 => w9.cell? ⟨b0, off0 + k * 2 + 1, none⟩ = some (.int .i64 y))) (by kernel_rfl) (by exact he1) (fun hHeld => ?_)
        generalize hwd : wr.drew = wd at hHeld
        have Hbd := Lib.hid (show Below w.heap.size w wd by rw [← hwd]; exact below_drewN Hb.out 1)
        have Hpk := Lib.hid (fun (w2 : World) (h : Below wd.heap.size wd w2) => (show w2.cell? ⟨b0, off0 + k * 2 + 1, none⟩ = some (.int .i64 y) from below_cell (x := ⟨b0, off0 + k * 2 + 1, none⟩) h (by rw [← hwd]; exact hbw0) hHeld))
        have Hgo := Lib.hid (fun (W9 : World) (h : Below wd.heap.size wd W9) => And.intro ((H1.out.go Hbd.out).go h) ((H2.out.go Hbd.out).go h))
        clear hwd he0 he1 hbw0
        refine wpAnyH_take (i := 0) (oi := { dst := some 34, op := _, type := _, pos := _, after := _, guard := _ }) (v := ?v0x1) rfl (by kernel_rfl) (by kernel_rfl) (by kernel_rfl) (fun _ _ _ h => h) (Or.inl ⟨by kernel_rfl, ?y0x1⟩) (by assumption) ?r0x1
        case y0x1 => intro w hSw; (try dsimp only at hSw); go_simp; try with_reducible rfl
        try simp only [Act.put, List.setIfInBounds_toArray, List.set_cons_zero, List.set_cons_succ]
        refine wpAnyH_take (i := 1) (oi := { dst := some 35, op := _, type := _, pos := _, after := _, guard := _ }) (v := ?v1x2) rfl (by kernel_rfl) (by kernel_rfl) (by kernel_rfl) (fun _ _ _ h => h) (Or.inl ⟨by kernel_rfl, ?y1x2⟩) (by assumption) ?r1x2
        case y1x2 => intro w hSw; (try dsimp only at hSw); go_simp; try with_reducible rfl
        try simp only [Act.put, List.setIfInBounds_toArray, List.set_cons_zero, List.set_cons_succ]
        refine wpAnyH_take (i := 2) (oi := { dst := some 36, op := _, type := _, pos := _, after := _, guard := _ }) (v := ?v2x3) rfl (by kernel_rfl) (by kernel_rfl) (by kernel_rfl) (fun _ _ _ h => h) (Or.inl ⟨by kernel_rfl, ?y2x3⟩) (by assumption) ?r2x3
        case y2x3 => intro w hSw; (try dsimp only at hSw); go_simp; try with_reducible rfl
        try simp only [Act.put, List.setIfInBounds_toArray, List.set_cons_zero, List.set_cons_succ]
        refine wpAnyH_take (i := 3) (oi := { dst := some 37, op := _, type := _, pos := _, after := _, guard := _ }) (v := ?v3x4) rfl (by kernel_rfl) (by kernel_rfl) (by kernel_rfl) (fun _ _ _ h => h) (Or.inl ⟨by kernel_rfl, ?y3x4⟩) (by assumption) ?r3x4
        case y3x4 => intro w hSw; (try dsimp only at hSw); go_simp; try with_reducible rfl
        try simp only [Act.put, List.setIfInBounds_toArray, List.set_cons_zero, List.set_cons_succ]
        refine wpAnyH_take (i := 4) (oi := { dst := some 38, op := _, type := _, pos := _, after := _, guard := _ }) (v := ?v4x5) rfl (by kernel_rfl) (by kernel_rfl) (by kernel_rfl) (fun _ _ _ h => h) (Or.inl ⟨by kernel_rfl, ?y4x5⟩) (by assumption) ?r4x5
        case y4x5 => intro w hSw; (try dsimp only at hSw); go_simp; try with_reducible rfl
        try simp only [Act.put, List.setIfInBounds_toArray, List.set_cons_zero, List.set_cons_succ]
        refine wpAnyH_take (i := 5) (oi := { dst := some 39, op := _, type := _, pos := _, after := _, guard := _ }) (v := ?v5x6) rfl (by kernel_rfl) (by kernel_rfl) (by kernel_rfl) (fun _ _ _ h => h) (Or.inl ⟨by kernel_rfl, ?y5x6⟩) (by assumption) ?r5x6
        case y5x6 => intro w hSw; (try dsimp only at hSw); go_simp; try with_reducible rfl
        try simp only [Act.put, List.setIfInBounds_toArray, List.set_cons_zero, List.set_cons_succ]
        refine wpAnyH_take (i := 6) (oi := { dst := some 40, op := _, type := _, pos := _, after := _, guard := _ }) (v := ?v6x7) rfl (by kernel_rfl) (by kernel_rfl) (by kernel_rfl) (fun _ _ _ h => h) (Or.inl ⟨by kernel_rfl, ?y6x7⟩) (by assumption) ?r6x7
        case y6x7 => intro w hSw; (try dsimp only at hSw); go_simp; try with_reducible rfl
        try simp only [Act.put, List.setIfInBounds_toArray, List.set_cons_zero, List.set_cons_succ]
        refine wpAnyH_call (i := 7) (oi := { dst := some 41, op := _, type := _, pos := _, after := _, guard := _ }) (v := .int .i64 v) rfl (by kernel_rfl) (by kernel_rfl) (by kernel_rfl) (fun _ _ _ h => h) ⟨by kernel_rfl, ?y7⟩ (by assumption) ?r7
        case y7 => intro w hSw; go_simp; exact (Hfc.out w).mono fun e w2 h => ⟨h.1, h.2.symm⟩
        try simp only [Act.put, List.setIfInBounds_toArray, List.set_cons_zero, List.set_cons_succ]
        refine wpAnyH_take (i := 8) (oi := { dst := some 42, op := _, type := _, pos := _, after := _, guard := _ }) (v := ?v8x8) rfl (by kernel_rfl) (by kernel_rfl) (by kernel_rfl) (fun _ _ _ h => h) (Or.inl ⟨by kernel_rfl, ?y8x8⟩) (by assumption) ?r8x8
        case y8x8 => intro w hSw; (try dsimp only at hSw); go_simp; try with_reducible rfl
        try simp only [Act.put, List.setIfInBounds_toArray, List.set_cons_zero, List.set_cons_succ]
        refine wpAnyH_take (i := 9) (oi := { dst := some 43, op := _, type := _, pos := _, after := _, guard := _ }) (v := ?v9x9) rfl (by kernel_rfl) (by kernel_rfl) (by kernel_rfl) (fun _ _ _ h => h) (Or.inl ⟨by kernel_rfl, ?y9x9⟩) (by assumption) ?r9x9
        case y9x9 => intro w hSw; (try dsimp only at hSw); go_simp; try with_reducible rfl
        try simp only [Act.put, List.setIfInBounds_toArray, List.set_cons_zero, List.set_cons_succ]
        refine wpAnyH_take (i := 10) (oi := { dst := some 44, op := _, type := _, pos := _, after := _, guard := _ }) (v := ?v10x10) rfl (by kernel_rfl) (by kernel_rfl) (by kernel_rfl) (fun _ _ _ h => h) (Or.inl ⟨by kernel_rfl, ?y10x10⟩) (by assumption) ?r10x10
        case y10x10 => intro w hSw; (try dsimp only at hSw); go_simp; try with_reducible rfl
        try simp only [Act.put, List.setIfInBounds_toArray, List.set_cons_zero, List.set_cons_succ]
        refine wpAnyH_take (i := 12) (oi := { dst := some 46, op := _, type := _, pos := _, after := _, guard := _ }) (v := ?v12x11) rfl (by kernel_rfl) (by kernel_rfl) (by kernel_rfl) (fun _ _ _ h => h) (Or.inl ⟨by kernel_rfl, ?y12x11⟩) (by assumption) ?r12x11
        case y12x11 => intro w hSw; (try dsimp only at hSw); go_simp; try with_reducible rfl
        try simp only [Act.put, List.setIfInBounds_toArray, List.set_cons_zero, List.set_cons_succ]
        refine wpAnyH_take (i := 14) (oi := { dst := some 48, op := _, type := _, pos := _, after := _, guard := _ }) (v := ?v14x12) rfl (by kernel_rfl) (by kernel_rfl) (by kernel_rfl) (fun _ _ _ h => h) (Or.inl ⟨by kernel_rfl, ?y14x12⟩) (by assumption) ?r14x12
        case y14x12 => intro w hSw; (try dsimp only at hSw); go_simp; try with_reducible rfl
        try simp only [Act.put, List.setIfInBounds_toArray, List.set_cons_zero, List.set_cons_succ]
        refine wpAnyH_take (i := 17) (oi := { dst := some 51, op := _, type := _, pos := _, after := _, guard := _ }) (v := ?v17x13) rfl (by kernel_rfl) (by kernel_rfl) (by kernel_rfl) (fun _ _ _ h => h) (Or.inl ⟨by kernel_rfl, ?y17x13⟩) (by assumption) ?r17x13
        case y17x13 => intro w hSw; (try dsimp only at hSw); go_simp; try with_reducible rfl
        try simp only [Act.put, List.setIfInBounds_toArray, List.set_cons_zero, List.set_cons_succ]
        refine wpAnyH_ready (rs := [11, 15]) (by kernel_rfl) (by simp) ?_
        refine AllReadyH.cons (o := { dst := some 45, op := _, type := _, pos := _, after := _, guard := _ }) rfl (fun K hK => ?_) (AllReadyH.cons (o := { dst := some 49, op := _, type := _, pos := _, after := _, guard := _ }) rfl (fun K hK => ?_) AllReadyH.nil)
        · go_simp
          refine hK.out _ _ (Hpk.out _ ((Below.refl wd.heap.size wd).alloc (Nat.le_refl _) _)) (fun hHeld2 => ?_)
          clear hK K
          try simp only [Act.put, List.setIfInBounds_toArray, List.set_cons_zero, List.set_cons_succ]
          refine wpAnyH_ready (rs := [13, 15]) (by kernel_rfl) (by simp) ?_
          refine AllReadyH.cons (o := { dst := some 47, op := _, type := _, pos := _, after := _, guard := _ }) rfl (fun K hK => ?_) (AllReadyH.cons (o := { dst := some 49, op := _, type := _, pos := _, after := _, guard := _ }) rfl (fun K hK => ?_) AllReadyH.nil)
          · refine step_append_ints rfl (.tmp 45) (.tmp 46) 31 rfl wd.heap.size 3 i0 (.int .i64 0) Tryd.underlying31 hi hz0 hz1 hz2 rfl (.slice (some ⟨wd.heap.size, 0, none⟩) 0 0) [] (by simp [Act.eval]) (own_none wd _) A2 c2 r (by simp [Act.eval]) ((Hgo.out _ ((Below.refl wd.heap.size wd).alloc (Nat.le_refl _) _)).2) (by simp; omega) (by simp) ?_
            intro v1 w3 hown3 hg3
            have h3 := next1 hown3 hg3
            have H3 := Lib.hid h3
            clear hown3 hg3
            refine hK.out _ _ (Hpk.out _ (h3.2)) (fun hHeld2 => ?_)
            clear hK K
            try simp only [Act.put, List.setIfInBounds_toArray, List.set_cons_zero, List.set_cons_succ]
            clear h3
            refine wpAnyH_ready (rs := [15]) (by kernel_rfl) (by simp) ?_
            refine AllReadyH.cons (o := { dst := some 49, op := _, type := _, pos := _, after := _, guard := _ }) rfl (fun K hK => ?_) AllReadyH.nil
            go_simp
            refine hK.out _ _ (Hpk.out _ (H3.out.2.alloc H3.out.2.size _)) (fun hHeld2 => ?_)
            clear hK K
            try simp only [Act.put, List.setIfInBounds_toArray, List.set_cons_zero, List.set_cons_succ]
            refine wpAnyH_ready (rs := [16]) (by kernel_rfl) (by simp) ?_
            refine AllReadyH.cons (o := { dst := some 50, op := _, type := _, pos := _, after := _, guard := _ }) rfl (fun K hK => ?_) AllReadyH.nil
            refine step_append_ints rfl (.tmp 47) (.tmp 49) 31 rfl wd.heap.size 3 i0 (.int .i64 0) Tryd.underlying31 hi hz0 hz1 hz2 rfl (v1) r (by simp [Act.eval]) (H3.out.1.alloc _) (some ⟨w3.heap.size, 0, none⟩) 1 [(k : Int)] (by simp [Act.eval]) (arg_one w3 (k : Int) _) (by simp; omega) (by simp; have := H3.out.2.size; omega) ?_
            intro v2 w4 hown4 hg4
            obtain ⟨A3, c3, rfl, ra4, _, rb4⟩ := next2 H3.out Hr'.out (by omega) hown4 hg4
            have Ha4 := Lib.hid ra4
            have Hb4 := Lib.hid rb4
            clear hown4 hg4 ra4
            refine hK.out _ _ (Hpk.out _ (rb4)) (fun hHeld2 => ?_)
            clear hK K
            try simp only [Act.put, List.setIfInBounds_toArray, List.set_cons_zero, List.set_cons_succ]
            clear rb4
            refine wpAnyH_ready (rs := [18]) (by kernel_rfl) (by simp) ?_
            refine AllReadyH.cons (o := { dst := some 52, op := _, type := _, pos := _, after := _, guard := _ }) rfl (fun K hK => ?_) AllReadyH.nil
            go_simp
            refine (Ihr.out A3 c3 w4 ((Hgo.out _ Hb4.out).1) Ha4.out).mono ?_
            rintro e w5 ⟨rfl, hb5⟩
            have hw5 := below_step Hb4.out hb5
            have Hw5 := Lib.hid hw5
            have pk5 := Hpk.out _ hw5
            clear hb5 hw5
            refine hK.out _ _ (pk5) (fun hHeld2 => ?_)
            clear hK K
            try simp only [Act.put, List.setIfInBounds_toArray, List.set_cons_zero, List.set_cons_succ]
            refine wpAnyH_take (i := 19) (oi := { dst := some 53, op := _, type := _, pos := _, after := _, guard := _ }) (v := ?v19x14) rfl (by kernel_rfl) (by kernel_rfl) (by kernel_rfl) (fun _ _ _ h => h) (Or.inl ⟨by kernel_rfl, ?y19x14⟩) (by assumption) ?r19x14
            case y19x14 => intro w hSw; (try dsimp only at hSw); go_simp; try with_reducible rfl
            try simp only [Act.put, List.setIfInBounds_toArray, List.set_cons_zero, List.set_cons_succ]
            refine wpAnyH_take (i := 20) (oi := { dst := some 12, op := _, type := _, pos := _, after := _, guard := _ }) (v := ?v20x15) rfl (by kernel_rfl) (by kernel_rfl) (by kernel_rfl) (fun _ _ _ h => h) (Or.inl ⟨by kernel_rfl, ?y20x15⟩) (by assumption) ?r20x15
            case y20x15 => intro w hSw; (try dsimp only at hSw); go_simp; try with_reducible rfl
            try simp only [Act.put, List.setIfInBounds_toArray, List.set_cons_zero, List.set_cons_succ]
            refine wpAnyH_done (by kernel_rfl) ?_ _
            skip
            by_cases x1 : q < 0
            · have x1d : decide (q < 0) = true := decide_eq_true x1
              have Hn1 := Lib.hid (Hn.out.trans (if_pos (.inl x1)))
              go_wp2
              go_roundw
              case rel => exact ⟨k + 1, by omega, by go_num, by rw [Hn1.out], below_step Hbd.out Hw5.out⟩
              case measure => simp [intOf]; omega
            · have x1d : decide (q < 0) = false := decide_eq_false x1
              by_cases x2 : n + m < q
              · have Hn1 := Lib.hid (Hn.out.trans (if_pos (.inr x2)))
                go_wp2
                go_roundw
                case rel => exact ⟨k + 1, by omega, by go_num, by rw [Hn1.out], below_step Hbd.out Hw5.out⟩
                case measure => simp [intOf]; omega
              · have Hn1 := Lib.hid (Hn.out.trans (if_neg (by omega)))
                go_wp2
                go_roundw
                case rel => exact ⟨k + 1, by omega, by go_num, by rw [Hn1.out], below_step Hbd.out Hw5.out⟩
                case measure => simp [intOf]; omega
          · go_simp
            refine hK.out _ _ (Hpk.out _ (((Below.refl wd.heap.size wd).alloc (Nat.le_refl _) _).alloc (by simp) _)) (fun hHeld2 => ?_)
            clear hK K
            try simp only [Act.put, List.setIfInBounds_toArray, List.set_cons_zero, List.set_cons_succ]
            refine wpAnyH_ready (rs := [13]) (by kernel_rfl) (by simp) ?_
            refine AllReadyH.cons (o := { dst := some 47, op := _, type := _, pos := _, after := _, guard := _ }) rfl (fun K hK => ?_) AllReadyH.nil
            refine step_append_ints rfl (.tmp 45) (.tmp 46) 31 rfl wd.heap.size 3 i0 (.int .i64 0) Tryd.underlying31 hi hz0 hz1 hz2 rfl (.slice (some ⟨wd.heap.size, 0, none⟩) 0 0) [] (by simp [Act.eval]) ((own_none wd _).alloc _) A2 c2 r (by simp [Act.eval]) ((Hgo.out _ (((Below.refl wd.heap.size wd).alloc (Nat.le_refl _) _).alloc (by simp) _)).2) (by simp; omega) (by simp; omega) ?_
            intro v1 w3 hown3 hg3
            obtain ⟨h3a, h3b, h3c⟩ := next1b hown3 hg3
            have H3 := Lib.hid (And.intro h3a (And.intro h3b h3c))
            clear hown3 hg3 h3a h3c
            refine hK.out _ _ (Hpk.out _ (h3b)) (fun hHeld2 => ?_)
            clear hK K
            try simp only [Act.put, List.setIfInBounds_toArray, List.set_cons_zero, List.set_cons_succ]
            clear h3b
            refine wpAnyH_ready (rs := [16]) (by kernel_rfl) (by simp) ?_
            refine AllReadyH.cons (o := { dst := some 50, op := _, type := _, pos := _, after := _, guard := _ }) rfl (fun K hK => ?_) AllReadyH.nil
            refine step_append_ints rfl (.tmp 47) (.tmp 49) 31 rfl wd.heap.size 3 i0 (.int .i64 0) Tryd.underlying31 hi hz0 hz1 hz2 rfl (v1) r (by simp [Act.eval]) (H3.out.1) (some ⟨wd.heap.size + 1, 0, none⟩) 1 [(k : Int)] (by simp [Act.eval]) H3.out.2.2 (by simp; omega) (by have := H3.out.2.1.size; omega) ?_
            intro v2 w4 hown4 hg4
            obtain ⟨A3, c3, rfl, ra4, rb4⟩ := next2b (Nat.le_refl _) H3.out.1 H3.out.2.1 Hr'.out (by omega) hown4 hg4
            have Ha4 := Lib.hid ra4
            have Hb4 := Lib.hid rb4
            clear hown4 hg4 ra4
            refine hK.out _ _ (Hpk.out _ (rb4)) (fun hHeld2 => ?_)
            clear hK K
            try simp only [Act.put, List.setIfInBounds_toArray, List.set_cons_zero, List.set_cons_succ]
            clear rb4
            refine wpAnyH_ready (rs := [18]) (by kernel_rfl) (by simp) ?_
            refine AllReadyH.cons (o := { dst := some 52, op := _, type := _, pos := _, after := _, guard := _ }) rfl (fun K hK => ?_) AllReadyH.nil
            go_simp
            refine (Ihr.out A3 c3 w4 ((Hgo.out _ Hb4.out).1) Ha4.out).mono ?_
            rintro e w5 ⟨rfl, hb5⟩
            have hw5 := below_step Hb4.out hb5
            have Hw5 := Lib.hid hw5
            have pk5 := Hpk.out _ hw5
            clear hb5 hw5
            refine hK.out _ _ (pk5) (fun hHeld2 => ?_)
            clear hK K
            try simp only [Act.put, List.setIfInBounds_toArray, List.set_cons_zero, List.set_cons_succ]
            refine wpAnyH_take (i := 19) (oi := { dst := some 53, op := _, type := _, pos := _, after := _, guard := _ }) (v := ?v19x16) rfl (by kernel_rfl) (by kernel_rfl) (by kernel_rfl) (fun _ _ _ h => h) (Or.inl ⟨by kernel_rfl, ?y19x16⟩) (by assumption) ?r19x16
            case y19x16 => intro w hSw; (try dsimp only at hSw); go_simp; try with_reducible rfl
            try simp only [Act.put, List.setIfInBounds_toArray, List.set_cons_zero, List.set_cons_succ]
            refine wpAnyH_take (i := 20) (oi := { dst := some 12, op := _, type := _, pos := _, after := _, guard := _ }) (v := ?v20x17) rfl (by kernel_rfl) (by kernel_rfl) (by kernel_rfl) (fun _ _ _ h => h) (Or.inl ⟨by kernel_rfl, ?y20x17⟩) (by assumption) ?r20x17
            case y20x17 => intro w hSw; (try dsimp only at hSw); go_simp; try with_reducible rfl
            try simp only [Act.put, List.setIfInBounds_toArray, List.set_cons_zero, List.set_cons_succ]
            refine wpAnyH_done (by kernel_rfl) ?_ _
            skip
            by_cases x1 : q < 0
            · have x1d : decide (q < 0) = true := decide_eq_true x1
              have Hn1 := Lib.hid (Hn.out.trans (if_pos (.inl x1)))
              go_wp2
              go_roundw
              case rel => exact ⟨k + 1, by omega, by go_num, by rw [Hn1.out], below_step Hbd.out Hw5.out⟩
              case measure => simp [intOf]; omega
            · have x1d : decide (q < 0) = false := decide_eq_false x1
              by_cases x2 : n + m < q
              · have Hn1 := Lib.hid (Hn.out.trans (if_pos (.inr x2)))
                go_wp2
                go_roundw
                case rel => exact ⟨k + 1, by omega, by go_num, by rw [Hn1.out], below_step Hbd.out Hw5.out⟩
                case measure => simp [intOf]; omega
              · have Hn1 := Lib.hid (Hn.out.trans (if_neg (by omega)))
                go_wp2
                go_roundw
                case rel => exact ⟨k + 1, by omega, by go_num, by rw [Hn1.out], below_step Hbd.out Hw5.out⟩
                case measure => simp [intOf]; omega
        · go_simp
          refine hK.out _ _ (Hpk.out _ ((Below.refl wd.heap.size wd).alloc (Nat.le_refl _) _)) (fun hHeld2 => ?_)
          clear hK K
          try simp only [Act.put, List.setIfInBounds_toArray, List.set_cons_zero, List.set_cons_succ]
          refine wpAnyH_ready (rs := [11]) (by kernel_rfl) (by simp) ?_
          refine AllReadyH.cons (o := { dst := some 45, op := _, type := _, pos := _, after := _, guard := _ }) rfl (fun K hK => ?_) AllReadyH.nil
          go_simp
          refine hK.out _ _ (Hpk.out _ (((Below.refl wd.heap.size wd).alloc (Nat.le_refl _) _).alloc (by simp) _)) (fun hHeld2 => ?_)
          clear hK K
          try simp only [Act.put, List.setIfInBounds_toArray, List.set_cons_zero, List.set_cons_succ]
          refine wpAnyH_ready (rs := [13]) (by kernel_rfl) (by simp) ?_
          refine AllReadyH.cons (o := { dst := some 47, op := _, type := _, pos := _, after := _, guard := _ }) rfl (fun K hK => ?_) AllReadyH.nil
          obtain ⟨wk, hwk⟩ : ∃ wk, wd.alloc (.cells #[.int .i64 (k : Int)] 3) = wk := ⟨_, rfl⟩
          have hbk : Below wd.heap.size wd wk := by rw [← hwk]; exact (Below.refl wd.heap.size wd).alloc (Nat.le_refl _) _
          have hak := arg_one wd (k : Int) 3
          rw [hwk] at hak
          have hwz : wk.heap.size = wd.heap.size + 1 := by rw [← hwk]; simp
          have Hbk := Lib.hid hbk
          have Hak := Lib.hid hak
          have Hwz := Lib.hid hwz
          rw [hwk]
          clear hwk hbk hak hwz
          refine step_append_ints rfl (.tmp 45) (.tmp 46) 31 rfl wk.heap.size 3 i0 (.int .i64 0) Tryd.underlying31 hi hz0 hz1 hz2 rfl (.slice (some ⟨wk.heap.size, 0, none⟩) 0 0) [] (by simp [Act.eval, Hwz.out]) (own_none wk _) A2 c2 r (by simp [Act.eval]) ((Hgo.out _ (Hbk.out.alloc Hbk.out.size _)).2) (by simp; omega) (by simp) ?_
          intro v1 w3 hown3 hg3
          have h3 := next1 hown3 hg3
          have hb3 := below_step Hbk.out h3.2
          have H3 := Lib.hid h3
          have Hb3 := Lib.hid hb3
          clear hown3 hg3 h3
          refine hK.out _ _ (Hpk.out _ (hb3)) (fun hHeld2 => ?_)
          clear hK K
          try simp only [Act.put, List.setIfInBounds_toArray, List.set_cons_zero, List.set_cons_succ]
          clear hb3
          refine wpAnyH_ready (rs := [16]) (by kernel_rfl) (by simp) ?_
          refine AllReadyH.cons (o := { dst := some 50, op := _, type := _, pos := _, after := _, guard := _ }) rfl (fun K hK => ?_) AllReadyH.nil
          refine step_append_ints rfl (.tmp 47) (.tmp 49) 31 rfl wk.heap.size 3 i0 (.int .i64 0) Tryd.underlying31 hi hz0 hz1 hz2 rfl (v1) r (by simp [Act.eval]) (H3.out.1) (some ⟨wd.heap.size, 0, none⟩) 1 [(k : Int)] (by simp [Act.eval]) (Hak.out.go H3.out.2) (by simp; omega) (by exact H3.out.2.size) ?_
          intro v2 w4 hown4 hg4
          obtain ⟨A3, c3, rfl, ra4, rb4⟩ := next2b (Nat.le_refl _) H3.out.1 H3.out.2 Hr'.out (by omega) hown4 hg4
          replace rb4 := below_step Hbk.out rb4
          have Ha4 := Lib.hid ra4
          have Hb4 := Lib.hid rb4
          clear hown4 hg4 ra4
          refine hK.out _ _ (Hpk.out _ (rb4)) (fun hHeld2 => ?_)
          clear hK K
          try simp only [Act.put, List.setIfInBounds_toArray, List.set_cons_zero, List.set_cons_succ]
          clear rb4
          refine wpAnyH_ready (rs := [18]) (by kernel_rfl) (by simp) ?_
          refine AllReadyH.cons (o := { dst := some 52, op := _, type := _, pos := _, after := _, guard := _ }) rfl (fun K hK => ?_) AllReadyH.nil
          go_simp
          refine (Ihr.out A3 c3 w4 ((Hgo.out _ Hb4.out).1) Ha4.out).mono ?_
          rintro e w5 ⟨rfl, hb5⟩
          have hw5 := below_step Hb4.out hb5
          have Hw5 := Lib.hid hw5
          have pk5 := Hpk.out _ hw5
          clear hb5 hw5
          refine hK.out _ _ (pk5) (fun hHeld2 => ?_)
          clear hK K
          try simp only [Act.put, List.setIfInBounds_toArray, List.set_cons_zero, List.set_cons_succ]
          refine wpAnyH_take (i := 19) (oi := { dst := some 53, op := _, type := _, pos := _, after := _, guard := _ }) (v := ?v19x18) rfl (by kernel_rfl) (by kernel_rfl) (by kernel_rfl) (fun _ _ _ h => h) (Or.inl ⟨by kernel_rfl, ?y19x18⟩) (by assumption) ?r19x18
          case y19x18 => intro w hSw; (try dsimp only at hSw); go_simp; try with_reducible rfl
          try simp only [Act.put, List.setIfInBounds_toArray, List.set_cons_zero, List.set_cons_succ]
          refine wpAnyH_take (i := 20) (oi := { dst := some 12, op := _, type := _, pos := _, after := _, guard := _ }) (v := ?v20x19) rfl (by kernel_rfl) (by kernel_rfl) (by kernel_rfl) (fun _ _ _ h => h) (Or.inl ⟨by kernel_rfl, ?y20x19⟩) (by assumption) ?r20x19
          case y20x19 => intro w hSw; (try dsimp only at hSw); go_simp; try with_reducible rfl
          try simp only [Act.put, List.setIfInBounds_toArray, List.set_cons_zero, List.set_cons_succ]
          refine wpAnyH_done (by kernel_rfl) ?_ _
          skip
          by_cases x1 : q < 0
          · have x1d : decide (q < 0) = true := decide_eq_true x1
            have Hn1 := Lib.hid (Hn.out.trans (if_pos (.inl x1)))
            go_wp2
            go_roundw
            case rel => exact ⟨k + 1, by omega, by go_num, by rw [Hn1.out], below_step Hbd.out Hw5.out⟩
            case measure => simp [intOf]; omega
          · have x1d : decide (q < 0) = false := decide_eq_false x1
            by_cases x2 : n + m < q
            · have Hn1 := Lib.hid (Hn.out.trans (if_pos (.inr x2)))
              go_wp2
              go_roundw
              case rel => exact ⟨k + 1, by omega, by go_num, by rw [Hn1.out], below_step Hbd.out Hw5.out⟩
              case measure => simp [intOf]; omega
            · have Hn1 := Lib.hid (Hn.out.trans (if_neg (by omega)))
              go_wp2
              go_roundw
              case rel => exact ⟨k + 1, by omega, by go_num, by rw [Hn1.out], below_step Hbd.out Hw5.out⟩
              case measure => simp [intOf]; omega
end Go.Proofs.YtbcgglkgdjafiaaDoor

namespace Go.Proofs.YtbcgglkgdjafiaaDoor
open Go.RowKit

def slLen : Value → Nat
  | .slice _ n _ => n
  | _ => 0
theorem bsP_no {L : List UInt8} {J : List Jbs} (h : timeB L J = false) : bsP L J = [] := by unfold bsP; rw [h]; rfl

set_option maxRecDepth 100000 in
set_option maxHeartbeats 4000000 in
theorem specPlanBest_b (s : ByteArray) (A : Option Addr) (c : Nat) (J : List Jbs) (w : World) (hs : s.size ≤ 2097152) (ha : ArgJ w A c J) :
    Calls Tryd.prog 34 #[.string s, .slice A J.length c] w (RetS 3 (fun v => .tuple #[v, .bool (timeB (byL s) J)]) (bsP (byL s) J) w) := by
  obtain ⟨i0, hi, hz0, hz1, hz2⟩ := info_parts intInf
  have hbn := below_none w 3
  have hown := own_none w 3
  have HA := Lib.hid (ha.go hbn)
  have Hok := Lib.hid (l6rOk_c s hs A c J _ (ha.go hbn))
  have Hbn := Lib.hid hbn
  have Hown := Lib.hid hown
  have hjl := ha.len
  clear ha hbn hown
  cases ht : timeB (byL s) J
  · have Hn := Lib.hid (bsP_no ht)
    have Ht := Lib.hid ht
    clear ht
    go_enter Tryd.func34, Tryd.ntmps34
    go_wp2_with fail
    refine Hok.out.mono ?_
    rintro e w1 ⟨rfl, rfl⟩
    rw [Ht.out]
    go_wp2
    go_ret2
    rw [Hn.out]
    exact RetS.mk (f := fun v => .tuple #[v, .bool false]) (by simp) Hown.out Hbn.out
  obtain ⟨hbL, hbJ, _⟩ := timeB_true.1 ht
  have hj6 := (jbB_true.1 hbJ).1
  obtain ⟨x, hx⟩ := bp_some (byL s) J
  have hxv := bp_val ht hx
  rw [allP_from] at hx
  have Ht := Lib.hid ht
  have HbL := Lib.hid hbL
  have HbJ := Lib.hid hbJ
  have Hx := Lib.hid hx
  have Hxv := Lib.hid hxv
  have hop := opT_all (byL s)
  have hl30 := fc_l30 hbL
  have hwb := fun (r : List Int) (h : rwP J.length r) (hl : r.length ≤ J.length) => (show 0 ≤ wkP J r ∧ wkP J r ≤ 30 by have := wk_room ht h hl; omega)
  have Hwb := Lib.hid hwb
  clear ht hbL hbJ hx hxv hop hl30 hwb
  go_enter Tryd.func34, Tryd.ntmps34
  go_wp2_with fail
  refine Hok.out.mono ?_
  rintro e w1 ⟨rfl, rfl⟩
  rw [Ht.out]
  go_wp2
  obtain ⟨w1, hw1⟩ : ∃ w1, w.alloc (.cells #[] 3) = w1 := ⟨_, rfl⟩
  rw [hw1] at HA Hown Hbn
  rw [hw1]
  clear Hok hw1
  go_loopw [6, 7] (fun ov kv wr => ∃ (r : List Int), r.length ≤ J.length ∧ rwP J.length r ∧ bst (costP (byL s) J) (fromP J.length r) = some x ∧ kv = .int .i64 (wkP J r) ∧ Ow 3 w.heap.size wr.heap.size wr ov r ∧ Below w.heap.size w wr ∧ Below w1.heap.size w1 wr) (fun ov _ _ => J.length - slLen ov)
  case atStart => exact ⟨[], Nat.zero_le _, rwP_nil _, Hx.out, rfl, Ow.of_own Hown.out, Hbn.out, Below.refl _ _⟩
  case round =>
    obtain ⟨r, hrn, hxr, hbx, rfl, ho, hb, hbw⟩ := hrel
    obtain ⟨W0, hW0⟩ : ∃ W0, W0 = wr := ⟨_, rfl⟩
    subst hW0
    obtain ⟨A2, c2, rfl, _, _, _⟩ := ho.form
    have harg := ho.arg (by omega) (Nat.le_refl _)
    by_cases hr : r.length < J.length
    case neg =>
      have hrx : r = x := pickP_end (by omega) hbx
      have g00 : ¬ (r.length : Int) < (J.length : Int) := by omega
      have Hfin := Lib.hid (show RetS 3 (fun v => .tuple #[v, .bool true]) (bsP (byL s) J) w (.returned (.tuple #[.slice A2 r.length c2, .bool true])) W0 from ⟨A2, c2, by rw [Hxv.out, ← hrx], by rw [Hxv.out, ← hrx]; exact harg, by rw [Hxv.out, ← hrx]; exact ho, hb⟩)
      clear hbx ho hb hbw harg hrx hxr
      go_wp2
      go_ret2
      exact Hfin.out
    case pos =>
      have g00 : (r.length : Int) < (J.length : Int) := by omega
      have hlw := lstP_bd HbL.out HbJ.out hrn
      have hpy := fun (k : Nat) hk hp hm => pickP_yes (k := k) hr hbx hk hp hm
      have hpn := fun (k : Nat) hk hp => pickP_no (k := k) hr hbx hk hp
      have Hps := Lib.hid (fun h => pickP_some hr hbx h)
      have hca := l6rLeast_c s hs A c J Ht.out (J.length - r.length) r A2 c2 W0 (by omega) hxr (HA.out.go hbw) harg
      have Hdy := Lib.hid (fun (k : Nat) hk hm => dy_room Ht.out hxr hr (k := k) hk hm)
      have Hwk := Lib.hid (fun (k : Nat) => wkP_snoc J r (k : Int))
      have hnd := fun (k : Nat) => (show nxtP (byL s) J r k = (jbsAt J k).g * dyI (byL s) (wkP J r + (jbsAt J k).d) from rfl)
      obtain ⟨hw0, hw30⟩ := Hwb.out r hxr hrn
      obtain ⟨W, hW⟩ : ∃ W, wkP J r = W := ⟨_, rfl⟩
      rw [hW] at hca Hdy Hwk hnd hw0 hw30 ⊢
      obtain ⟨l, hl⟩ : ∃ l, lstP (byL s) J r = l := ⟨_, rfl⟩
      rw [hl] at hca hlw hpy hpn
      obtain ⟨l1, l2⟩ := hlw
      have Hnd := Lib.hid hnd
      have Hpy := Lib.hid hpy
      have Hpn := Lib.hid hpn
      have Hca := Lib.hid hca
      have Ho := Lib.hid ho
      have Hb := Lib.hid hb
      have Hbw := Lib.hid hbw
      have Hxr := Lib.hid hxr
      have Harg := Lib.hid harg
      clear hca hbx ho hb hbw hl hxr harg hW hpy hpn hnd
      go_wp2_with fail
      refine Hca.out.mono ?_
      rintro e W1 ⟨rfl, hbA⟩
      have HbA := Lib.hid hbA
      replace Ho := Lib.hid (Ho.out.below hbA (Nat.le_refl _))
      clear hbA Hca
      go_wp2
      go_loopw [6, 7, 9] (fun ov uv kv wr => ∃ k : Nat, k ≤ J.length ∧ kv = .int .i64 k ∧ ov = .slice A2 r.length c2 ∧ uv = .int .i64 W ∧ (∀ z ∈ preP J.length r k, costP (byL s) J x < costP (byL s) J z) ∧ Below W1.heap.size W1 wr) (fun _ _ kv _ => J.length - (intOf kv).toNat)
      case atStart => exact ⟨0, Nat.zero_le _, rfl, rfl, rfl, (by rw [preP_zero]; simp), Below.refl _ _⟩
      case round =>
        obtain ⟨k, hk, rfl, rfl, rfl, hp, hb⟩ := hrel
        have Hp := Lib.hid hp
        have Hbk := Lib.hid hb
        clear hp hb
        by_cases hlt : k < J.length
        case neg =>
          obtain rfl : k = J.length := by omega
          exact (Hps.out Hp.out).elim
        case pos =>
          have g1 : (k : Int) < (J.length : Int) := by omega
          have hWk := below_step HbA.out Hbk.out
          have hhas := l4Has_c A2 c2 r (k : Int) wr (Harg.out.go hWk)
          have hpn := Hpn.out k hlt Hp.out
          by_cases hm : (k : Int) ∈ r
          case pos =>
            rw [decide_eq_true hm] at hhas
            have Hhas := Lib.hid hhas
            have Hn := Lib.hid (hpn (.inl hm))
            clear hm hhas hpn hWk
            go_wp2_with fail
            refine Hhas.out.mono ?_
            rintro e w9 ⟨rfl, rfl⟩
            go_wp2
            go_roundw
            case rel => exact ⟨k + 1, by omega, by go_num, rfl, rfl, Hn.out, Hbk.out⟩
            case measure => simp [intOf]; omega
          rw [decide_eq_false hm] at hhas
          have Hhas := Lib.hid hhas
          obtain ⟨hdy, hd0, hd30⟩ := Hdy.out k hlt hm
          have hnb := nxt_bd (r := r) HbL.out HbJ.out k
          have hxr := rwP_snoc Hxr.out hlt hm
          have hmb := lstP_bd (r := r ++ [(k : Int)]) HbL.out HbJ.out (by simp; omega)
          have hwr := Hwk.out k
          have hnd := Hnd.out k
          have hpy := Hpy.out k hlt Hp.out hm
          rw [Int.toNat_natCast] at hwr
          have a1 := HA.out.go (below_step Hbw.out hWk)
          obtain ⟨b0, off0, rfl, _, hbw0, he0, he1⟩ := a1.rd.at_ hlt
          obtain ⟨r', hr'⟩ : ∃ r', r ++ [(k : Int)] = r' := ⟨_, rfl⟩
          have hl' : r'.length = r.length + 1 := by rw [← hr']; simp
          have ihr := fun (A3 : Option Addr) (c3 : Nat) (W9 : World) => l6rLeast_c s hs (some ⟨b0, off0, none⟩) c J Ht.out (J.length - r'.length) r' A3 c3 W9 (by omega) (by rw [← hr']; exact hxr)
          rw [hr'] at hpy hpn hmb hwr hxr
          obtain ⟨D, hD⟩ : ∃ D, (jbsAt J k).d = D := ⟨_, rfl⟩
          obtain ⟨y, hy⟩ : ∃ y, (jbsAt J k).g = y := ⟨_, rfl⟩
          rw [hD] at hdy hd0 hd30 hwr hnd he0
          rw [hy] at hnd he1
          rw [hwr, hl'] at ihr
          obtain ⟨U, hU⟩ : ∃ U, W + D = U := ⟨_, rfl⟩
          rw [hU] at hdy hd0 hd30 hnd ihr hwr
          have q3 : IntKind.i64.wrap (W + D) = U := by rw [hU]; exact IntWalk.i64_in _ (by omega)
          obtain ⟨v, hv⟩ : ∃ v, dyI (byL s) U = v := ⟨_, rfl⟩
          rw [hv] at hdy hnd
          obtain ⟨n, hn0⟩ : ∃ n, nxtP (byL s) J r k = n := ⟨_, rfl⟩
          rw [hn0] at hpy hpn hnb hnd
          obtain ⟨m, hm0⟩ : ∃ m, lstP (byL s) J r' = m := ⟨_, rfl⟩
          rw [hm0] at hpy hpn hmb ihr
          have hfc := specForecastDay_c s hs U
          rw [hdy] at hfc
          have q1 : IntKind.i64.wrap (y * v) = n := by rw [hnd]; exact IntWalk.i64_in _ (by omega)
          have q2 : IntKind.i64.wrap (n + m) = n + m := IntWalk.i64_in _ (by omega)
          have Hfc := Lib.hid hfc
          have Ihr := Lib.hid ihr
          have Hr' := Lib.hid hr'
          have Hxr' := Lib.hid hxr
          have Hwr := Lib.hid hwr
          have Hpy2 := Lib.hid hpy
          have Hpn2 := Lib.hid (fun h => hpn (.inr h))
          obtain ⟨hn1, hn2⟩ := hnb
          obtain ⟨hm1, hm2⟩ := hmb
          clear hhas hdy hxr hwr hnd ihr hr' hD hy hU hv hn0 hm0 hfc hm a1 hpy hpn
          go_wp2_with (first
            | (refine ⟨trivial, ?_⟩; fail)
            | (go_at_call 67; refine Hhas.out.mono ?_; rintro e w9 ⟨rfl, rfl⟩)
            | (at_builtin; first
              | (refine wpList_append_ints rfl (.tmp 44) (.tmp 45) 31 rfl wr.heap.size 3 i0 (.int .i64 0) Tryd.underlying31 hi hz0 hz1 hz2 rfl (.slice (some ⟨wr.heap.size, 0, none⟩) 0 0) [] rfl (own_none wr _) A2 c2 r rfl (Harg.out.go (below_step hWk (below_none wr _))) (by simp; omega) (by simp) ?_; intro v1 w3 hown3 hg3; have H3 := Lib.hid (next1 hown3 hg3); clear hown3 hg3)
              | (refine wpList_append_ints rfl (.tmp 46) (.tmp 48) 31 rfl wr.heap.size 3 i0 (.int .i64 0) Tryd.underlying31 hi hz0 hz1 hz2 rfl v1 r rfl (H3.out.1.alloc _) (some ⟨w3.heap.size, 0, none⟩) 1 [(k : Int)] rfl (arg_one w3 (k : Int) _) (by simp; omega) (by simp; have := H3.out.2.size; omega) ?_; intro v2 w4 hown4 hg4; obtain ⟨A3, c3, rfl, ra4, ro4, rb4⟩ := next2 H3.out Hr'.out (by omega) hown4 hg4; have Ha4 := Lib.hid ra4; have Hb4 := Lib.hid rb4; have Ho4 := Lib.hid ro4; clear hown4 hg4 ra4 ro4 rb4)))
          have he1' := below_cell (x := ⟨b0, off0 + k * 2 + 1, none⟩) Hb4.out hbw0 he1
          refine wp_region_held_drew (S := (fun w9 => w9.cell? ⟨b0, off0 + k * 2 + 1, none⟩ = some (.int .i64 y))) (by kernel_rfl) (by exact he1') (fun hHeld => ?_)
          have hwx := Hb4.out.size
          generalize hwd : w4.drew = wd at hHeld
          have hdr : Below w4.heap.size w4 wd := by rw [← hwd]; exact below_drewN (Below.refl _ _) 1
          have Hbd := Lib.hid (below_step Hb4.out hdr)
          have Hdz := Lib.hid hdr.size
          have Hbj := Lib.hid (below_step Hbw.out (below_step hWk (below_step Hb4.out hdr)))
          have Hpk := Lib.hid (fun (w2 : World) (h : Below wd.heap.size wd w2) => (show w2.cell? ⟨b0, off0 + k * 2 + 1, none⟩ = some (.int .i64 y) from below_cell (x := ⟨b0, off0 + k * 2 + 1, none⟩) h (Nat.lt_of_lt_of_le hbw0 Hbd.out.size) hHeld))
          have Hgo := Lib.hid (fun (W9 : World) (h : Below wd.heap.size wd W9) => (HA.out.go Hbj.out).go h)
          have Ha3 := Lib.hid (Ha4.out.go hdr)
          replace Ho4 := Lib.hid (Ho4.out.below hdr (Nat.le_refl _))
          clear hwd he0 he1 he1' hbw0 hdr Ha4 hWk
          refine wpAnyH_take (i := 0) (oi := { dst := some 50, op := _, type := _, pos := _, after := _, guard := _ }) (v := ?v0x1) rfl (by kernel_rfl) (by kernel_rfl) (by kernel_rfl) (fun _ _ _ h => h) (Or.inl ⟨by kernel_rfl, ?y0x1⟩) (by assumption) ?r0x1
          case y0x1 => intro w hSw; (try dsimp only at hSw); go_simp; try with_reducible rfl
          try simp only [Act.put, List.setIfInBounds_toArray, List.set_cons_zero, List.set_cons_succ]
          refine wpAnyH_take (i := 1) (oi := { dst := some 51, op := _, type := _, pos := _, after := _, guard := _ }) (v := ?v1x2) rfl (by kernel_rfl) (by kernel_rfl) (by kernel_rfl) (fun _ _ _ h => h) (Or.inl ⟨by kernel_rfl, ?y1x2⟩) (by assumption) ?r1x2
          case y1x2 => intro w hSw; (try dsimp only at hSw); go_simp; try with_reducible rfl
          try simp only [Act.put, List.setIfInBounds_toArray, List.set_cons_zero, List.set_cons_succ]
          refine wpAnyH_take (i := 2) (oi := { dst := some 52, op := _, type := _, pos := _, after := _, guard := _ }) (v := ?v2x3) rfl (by kernel_rfl) (by kernel_rfl) (by kernel_rfl) (fun _ _ _ h => h) (Or.inl ⟨by kernel_rfl, ?y2x3⟩) (by assumption) ?r2x3
          case y2x3 => intro w hSw; (try dsimp only at hSw); go_simp; try with_reducible rfl
          try simp only [Act.put, List.setIfInBounds_toArray, List.set_cons_zero, List.set_cons_succ]
          refine wpAnyH_take (i := 3) (oi := { dst := some 53, op := _, type := _, pos := _, after := _, guard := _ }) (v := ?v3x4) rfl (by kernel_rfl) (by kernel_rfl) (by kernel_rfl) (fun _ _ _ h => h) (Or.inl ⟨by kernel_rfl, ?y3x4⟩) (by assumption) ?r3x4
          case y3x4 => intro w hSw; (try dsimp only at hSw); go_simp; try with_reducible rfl
          try simp only [Act.put, List.setIfInBounds_toArray, List.set_cons_zero, List.set_cons_succ]
          refine wpAnyH_take (i := 4) (oi := { dst := some 54, op := _, type := _, pos := _, after := _, guard := _ }) (v := ?v4x5) rfl (by kernel_rfl) (by kernel_rfl) (by kernel_rfl) (fun _ _ _ h => h) (Or.inl ⟨by kernel_rfl, ?y4x5⟩) (by assumption) ?r4x5
          case y4x5 => intro w hSw; (try dsimp only at hSw); go_simp; try with_reducible rfl
          try simp only [Act.put, List.setIfInBounds_toArray, List.set_cons_zero, List.set_cons_succ]
          refine wpAnyH_take (i := 5) (oi := { dst := some 55, op := _, type := _, pos := _, after := _, guard := _ }) (v := ?v5x6) rfl (by kernel_rfl) (by kernel_rfl) (by kernel_rfl) (fun _ _ _ h => h) (Or.inl ⟨by kernel_rfl, ?y5x6⟩) (by assumption) ?r5x6
          case y5x6 => intro w hSw; (try dsimp only at hSw); go_simp; try with_reducible rfl
          try simp only [Act.put, List.setIfInBounds_toArray, List.set_cons_zero, List.set_cons_succ]
          refine wpAnyH_take (i := 6) (oi := { dst := some 56, op := _, type := _, pos := _, after := _, guard := _ }) (v := ?v6x7) rfl (by kernel_rfl) (by kernel_rfl) (by kernel_rfl) (fun _ _ _ h => h) (Or.inl ⟨by kernel_rfl, ?y6x7⟩) (by assumption) ?r6x7
          case y6x7 => intro w hSw; (try dsimp only at hSw); go_simp; try with_reducible rfl
          try simp only [Act.put, List.setIfInBounds_toArray, List.set_cons_zero, List.set_cons_succ]
          refine wpAnyH_call (i := 7) (oi := { dst := some 57, op := _, type := _, pos := _, after := _, guard := _ }) (v := .int .i64 v) rfl (by kernel_rfl) (by kernel_rfl) (by kernel_rfl) (fun _ _ _ h => h) ⟨by kernel_rfl, ?y7⟩ (by assumption) ?r7
          case y7 => intro w hSw; go_simp; exact (Hfc.out w).mono fun e w2 h => ⟨h.1, h.2.symm⟩
          try simp only [Act.put, List.setIfInBounds_toArray, List.set_cons_zero, List.set_cons_succ]
          refine wpAnyH_take (i := 8) (oi := { dst := some 58, op := _, type := _, pos := _, after := _, guard := _ }) (v := ?v8x8) rfl (by kernel_rfl) (by kernel_rfl) (by kernel_rfl) (fun _ _ _ h => h) (Or.inl ⟨by kernel_rfl, ?y8x8⟩) (by assumption) ?r8x8
          case y8x8 => intro w hSw; (try dsimp only at hSw); go_simp; try with_reducible rfl
          try simp only [Act.put, List.setIfInBounds_toArray, List.set_cons_zero, List.set_cons_succ]
          refine wpAnyH_take (i := 9) (oi := { dst := some 59, op := _, type := _, pos := _, after := _, guard := _ }) (v := ?v9x9) rfl (by kernel_rfl) (by kernel_rfl) (by kernel_rfl) (fun _ _ _ h => h) (Or.inl ⟨by kernel_rfl, ?y9x9⟩) (by assumption) ?r9x9
          case y9x9 => intro w hSw; (try dsimp only at hSw); go_simp; try with_reducible rfl
          try simp only [Act.put, List.setIfInBounds_toArray, List.set_cons_zero, List.set_cons_succ]
          refine wpAnyH_take (i := 10) (oi := { dst := some 60, op := _, type := _, pos := _, after := _, guard := _ }) (v := ?v10x10) rfl (by kernel_rfl) (by kernel_rfl) (by kernel_rfl) (fun _ _ _ h => h) (Or.inl ⟨by kernel_rfl, ?y10x10⟩) (by assumption) ?r10x10
          case y10x10 => intro w hSw; (try dsimp only at hSw); go_simp; try with_reducible rfl
          try simp only [Act.put, List.setIfInBounds_toArray, List.set_cons_zero, List.set_cons_succ]
          refine wpAnyH_take (i := 11) (oi := { dst := some 61, op := _, type := _, pos := _, after := _, guard := _ }) (v := ?v11x11) rfl (by kernel_rfl) (by kernel_rfl) (by kernel_rfl) (fun _ _ _ h => h) (Or.inl ⟨by kernel_rfl, ?y11x11⟩) (by assumption) ?r11x11
          case y11x11 => intro w hSw; (try dsimp only at hSw); go_simp; try with_reducible rfl
          try simp only [Act.put, List.setIfInBounds_toArray, List.set_cons_zero, List.set_cons_succ]
          refine wpAnyH_take (i := 12) (oi := { dst := some 62, op := _, type := _, pos := _, after := _, guard := _ }) (v := ?v12x12) rfl (by kernel_rfl) (by kernel_rfl) (by kernel_rfl) (fun _ _ _ h => h) (Or.inl ⟨by kernel_rfl, ?y12x12⟩) (by assumption) ?r12x12
          case y12x12 => intro w hSw; (try dsimp only at hSw); go_simp; try with_reducible rfl
          try simp only [Act.put, List.setIfInBounds_toArray, List.set_cons_zero, List.set_cons_succ]
          refine wpAnyH_take (i := 15) (oi := { dst := some 65, op := _, type := _, pos := _, after := _, guard := _ }) (v := ?v15x13) rfl (by kernel_rfl) (by kernel_rfl) (by kernel_rfl) (fun _ _ _ h => h) (Or.inl ⟨by kernel_rfl, ?y15x13⟩) (by assumption) ?r15x13
          case y15x13 => intro w hSw; (try dsimp only at hSw); go_simp; try with_reducible rfl
          try simp only [Act.put, List.setIfInBounds_toArray, List.set_cons_zero, List.set_cons_succ]
          refine wpAnyH_ready (rs := [13]) (by kernel_rfl) (by simp) ?_
          refine AllReadyH.cons (o := { dst := some 63, op := _, type := _, pos := _, after := _, guard := _ }) rfl (fun K hK => ?_) AllReadyH.nil
          go_simp
          refine (Ihr.out A3 c3 wd ((Hgo.out _ (Below.refl _ _))) Ha3.out).mono ?_
          rintro e w5 ⟨rfl, hb5⟩
          have pk5 := Hpk.out _ hb5
          have Hw5 := Lib.hid hb5
          clear hb5
          refine hK.out _ _ (pk5) (fun hHeld2 => ?_)
          clear hK K
          try simp only [Act.put, List.setIfInBounds_toArray, List.set_cons_zero, List.set_cons_succ]
          refine wpAnyH_take (i := 14) (oi := { dst := some 64, op := _, type := _, pos := _, after := _, guard := _ }) (v := ?v14x14) rfl (by kernel_rfl) (by kernel_rfl) (by kernel_rfl) (fun _ _ _ h => h) (Or.inl ⟨by kernel_rfl, ?y14x14⟩) (by assumption) ?r14x14
          case y14x14 => intro w hSw; (try dsimp only at hSw); go_simp; try with_reducible rfl
          try simp only [Act.put, List.setIfInBounds_toArray, List.set_cons_zero, List.set_cons_succ]
          refine wpAnyH_take (i := 16) (oi := { dst := some 66, op := _, type := _, pos := _, after := _, guard := _ }) (v := ?v16x15) rfl (by kernel_rfl) (by kernel_rfl) (by kernel_rfl) (fun _ _ _ h => h) (Or.inl ⟨by kernel_rfl, ?y16x15⟩) (by assumption) ?r16x15
          case y16x15 => intro w hSw; (try dsimp only at hSw); go_simp; try with_reducible rfl
          try simp only [Act.put, List.setIfInBounds_toArray, List.set_cons_zero, List.set_cons_succ]
          refine wpAnyH_done (by kernel_rfl) ?_ _
          by_cases x2 : n + m = l
          · have Hfin := Lib.hid (Hpy2.out x2)
            have hch := below_step (below_step HbA.out Hbk.out) (below_step Hbd.out Hw5.out)
            have hov := Ho4.out.below Hw5.out Hdz.out
            have hsz1 := (below_step (below_step Hb.out HbA.out) Hbk.out).size
            have Hov := Lib.hid (hov.more (lo' := w.heap.size) (hi' := w5.heap.size) hsz1 (Nat.le_trans Hdz.out Hw5.out.size))
            have Hch := Lib.hid hch
            rw [hl'] at Hov
            clear hov hch
            go_wp2
            go_roundw
            case rel => exact ⟨r', by omega, Hxr'.out, Hfin.out, by rw [Hwr.out], Hov.out, below_step Hb.out Hch.out, below_step Hbw.out Hch.out⟩
            case measure => simp [slLen]; omega
          · have Hn := Lib.hid (Hpn2.out x2)
            go_wp2
            go_roundw
            case rel => exact ⟨k + 1, by omega, by go_num, rfl, rfl, Hn.out, below_step Hbk.out (below_step Hbd.out Hw5.out)⟩
            case measure => simp [intOf]; omega
end Go.Proofs.YtbcgglkgdjafiaaDoor
