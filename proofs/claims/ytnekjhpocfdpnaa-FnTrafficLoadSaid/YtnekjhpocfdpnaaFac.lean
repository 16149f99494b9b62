/-
  Facts of the program that each statement of this seat asks: each a lemma of its own. (Written by a program of mine, tools/genfac.py.)
-/
import Derived.Test.YtnekjhpocfdpnaaRow
import Derived.JoinedOf
namespace Go.Proofs.Ytnekjhpocfdpnaa

def joinS : List (List Char) → List Char
  | [] => []
  | [w] => w
  | w :: x :: r => w ++ (Char.ofNat 32) :: joinS (x :: r)
theorem ws_word (r : List Char) : ∀ w : List Char, (∀ c ∈ w, c ≠ (Char.ofNat 32)) → wordsSigns (w ++ (Char.ofNat 32) :: r) = w :: wordsSigns r
  | [], _ => rfl
  | c :: w, h => by
    have h1 := ws_word r w (fun d hd => h d (List.mem_cons_of_mem _ hd))
    have h2 : c ≠ (Char.ofNat 32) := h c (by simp)
    rw [List.cons_append, wordsSigns.eq_3 _ _ h2, h1]
theorem ws_last : ∀ w : List Char, (∀ c ∈ w, c ≠ (Char.ofNat 32)) → wordsSigns w = [w]
  | [], _ => rfl
  | c :: w, h => by
    have h1 := ws_last w (fun d hd => h d (List.mem_cons_of_mem _ hd))
    have h2 : c ≠ (Char.ofNat 32) := h c (by simp)
    rw [wordsSigns.eq_3 _ _ h2, h1]
theorem ws_join : ∀ z : List (List Char), z ≠ [] → (∀ w ∈ z, ∀ c ∈ w, c ≠ (Char.ofNat 32)) → wordsSigns (joinS z) = z
  | [], h, _ => absurd rfl h
  | [w], _, h => ws_last w (h w (by simp))
  | w :: x :: r, _, h => by
    rw [joinS, ws_word _ w (h w (by simp)), ws_join (x :: r) (by simp) (fun y hy => h y (List.mem_cons_of_mem _ hy))]
theorem no_space {z : List (List Char)} (h : z.all (fun w => w.all fun c => c.toNat != 32) = true) : ∀ w ∈ z, ∀ c ∈ w, c ≠ (Char.ofNat 32) := by
  intro w hw c hc e
  have h1 := List.all_eq_true.1 (List.all_eq_true.1 h w hw) c hc
  rw [e] at h1
  revert h1; decide

def wz : List (List Char) := [[Char.ofNat 104, Char.ofNat 97, Char.ofNat 114, Char.ofNat 110, Char.ofNat 101, Char.ofNat 115, Char.ofNat 115], [Char.ofNat 97, Char.ofNat 53, Char.ofNat 99, Char.ofNat 98, Char.ofNat 100, Char.ofNat 98, Char.ofNat 98, Char.ofNat 98, Char.ofNat 100, Char.ofNat 54, Char.ofNat 100, Char.ofNat 55, Char.ofNat 101, Char.ofNat 50, Char.ofNat 51, Char.ofNat 52, Char.ofNat 99, Char.ofNat 48, Char.ofNat 51, Char.ofNat 53, Char.ofNat 57, Char.ofNat 53, Char.ofNat 56, Char.ofNat 101, Char.ofNat 98, Char.ofNat 57, Char.ofNat 51, Char.ofNat 50, Char.ofNat 52, Char.ofNat 57, Char.ofNat 50, Char.ofNat 97, Char.ofNat 52, Char.ofNat 50, Char.ofNat 98, Char.ofNat 57, Char.ofNat 101, Char.ofNat 100, Char.ofNat 102, Char.ofNat 52, Char.ofNat 54, Char.ofNat 53, Char.ofNat 98, Char.ofNat 54, Char.ofNat 55, Char.ofNat 55, Char.ofNat 57, Char.ofNat 57, Char.ofNat 101, Char.ofNat 54, Char.ofNat 99, Char.ofNat 53, Char.ofNat 102, Char.ofNat 51, Char.ofNat 53, Char.ofNat 99, Char.ofNat 49, Char.ofNat 54, Char.ofNat 102, Char.ofNat 56, Char.ofNat 99, Char.ofNat 53, Char.ofNat 50, Char.ofNat 57], [Char.ofNat 99, Char.ofNat 117, Char.ofNat 116], [Char.ofNat 97, Char.ofNat 116], [Char.ofNat 108, Char.ofNat 111, Char.ofNat 111, Char.ofNat 112, Char.ofNat 46, Char.ofNat 101, Char.ofNat 120, Char.ofNat 97, Char.ofNat 109, Char.ofNat 112, Char.ofNat 108, Char.ofNat 101, Char.ofNat 47, Char.ofNat 99, Char.ofNat 97, Char.ofNat 98, Char.ofNat 108, Char.ofNat 101, Char.ofNat 115, Char.ofNat 104, Char.ofNat 105, Char.ofNat 112, Char.ofNat 47, Char.ofNat 108, Char.ofNat 97, Char.ofNat 119, Char.ofNat 115, Char.ofNat 46, Char.ofNat 70, Char.ofNat 110, Char.ofNat 76, Char.ofNat 111, Char.ofNat 97, Char.ofNat 100], [Char.ofNat 108, Char.ofNat 111, Char.ofNat 111, Char.ofNat 112, Char.ofNat 46, Char.ofNat 101, Char.ofNat 120, Char.ofNat 97, Char.ofNat 109, Char.ofNat 112, Char.ofNat 108, Char.ofNat 101, Char.ofNat 47, Char.ofNat 99, Char.ofNat 97, Char.ofNat 98, Char.ofNat 108, Char.ofNat 101, Char.ofNat 115, Char.ofNat 104, Char.ofNat 105, Char.ofNat 112, Char.ofNat 47, Char.ofNat 108, Char.ofNat 97, Char.ofNat 119, Char.ofNat 115, Char.ofNat 46, Char.ofNat 70, Char.ofNat 110, Char.ofNat 76, Char.ofNat 111, Char.ofNat 97, Char.ofNat 100, Char.ofNat 84, Char.ofNat 114, Char.ofNat 97, Char.ofNat 102, Char.ofNat 102, Char.ofNat 105, Char.ofNat 99], [Char.ofNat 108, Char.ofNat 111, Char.ofNat 111, Char.ofNat 112, Char.ofNat 46, Char.ofNat 101, Char.ofNat 120, Char.ofNat 97, Char.ofNat 109, Char.ofNat 112, Char.ofNat 108, Char.ofNat 101, Char.ofNat 47, Char.ofNat 99, Char.ofNat 97, Char.ofNat 98, Char.ofNat 108, Char.ofNat 101, Char.ofNat 115, Char.ofNat 104, Char.ofNat 105, Char.ofNat 112, Char.ofNat 47, Char.ofNat 108, Char.ofNat 97, Char.ofNat 119, Char.ofNat 115, Char.ofNat 46, Char.ofNat 70, Char.ofNat 110, Char.ofNat 84, Char.ofNat 114, Char.ofNat 97, Char.ofNat 102, Char.ofNat 102, Char.ofNat 105, Char.ofNat 99, Char.ofNat 76, Char.ofNat 111, Char.ofNat 97, Char.ofNat 100], [Char.ofNat 108, Char.ofNat 111, Char.ofNat 111, Char.ofNat 112, Char.ofNat 46, Char.ofNat 101, Char.ofNat 120, Char.ofNat 97, Char.ofNat 109, Char.ofNat 112, Char.ofNat 108, Char.ofNat 101, Char.ofNat 47, Char.ofNat 99, Char.ofNat 97, Char.ofNat 98, Char.ofNat 108, Char.ofNat 101, Char.ofNat 115, Char.ofNat 104, Char.ofNat 105, Char.ofNat 112, Char.ofNat 47, Char.ofNat 108, Char.ofNat 97, Char.ofNat 119, Char.ofNat 115, Char.ofNat 46, Char.ofNat 70, Char.ofNat 110, Char.ofNat 76, Char.ofNat 111, Char.ofNat 97, Char.ofNat 100, Char.ofNat 65, Char.ofNat 100, Char.ofNat 100]]
set_option maxRecDepth 100000 in
theorem initIs : Try.prog.initOrder = String.ofList (joinS wz) := by kernel_rfl
set_option maxRecDepth 100000 in
theorem initWords : wordsSigns Try.prog.initOrder.toList = wz := by
  rw [initIs, String.toList_ofList]
  exact ws_join wz (by unfold wz; simp) (no_space (by kernel_rfl))
theorem enter_of {P : Program} {z : List (List Char)} (h : wordsSigns P.initOrder.toList = z) : P.mayEnter = (match behindMainWord z with
  | c :: rest =>
    ((c == "gc".toList || c == "spec".toList) && (rest.isEmpty || rest.head? == some "stop".toList)) ||
    (c == "carried".toList && rest.take 2 == ["gc".toList, "cut".toList] && !P.laysLater && !P.bearsReflect) ||
    ((stripLifts liftWords (c :: rest)).2.head? == some "cut".toList &&
      ((stripLifts liftWords (c :: rest)).1.contains "finals" || !P.laysLater) && ((stripLifts liftWords (c :: rest)).1.contains "reflectrows" || !P.bearsReflect) &&
      ((stripLifts liftWords (c :: rest)).1.contains "reflectrows" || !(stripLifts liftWords (c :: rest)).1.contains "leanrows") &&
      P.doorFits (stripLifts liftWords (c :: rest)).1)
  | [] => false) := by subst h; rfl
theorem lifts_of {P : Program} {z : List (List Char)} (h : wordsSigns P.initOrder.toList = z) : P.headLifts = (if (stripLifts liftWords (behindMainWord z)).2.head? == some "cut".toList then (stripLifts liftWords (behindMainWord z)).1 else []) := by subst h; rfl
theorem final_of {P : Program} {z : List (List Char)} {l : List String} (h : wordsSigns P.initOrder.toList = z) (h2 : P.headLifts = l) : P.liftsFinal = (((behindMainWord z).head? == some "carried".toList && (behindMainWord z).take 3 != ["carried".toList, "gc".toList, "cut".toList]) || l.contains "finals") := by subst h; subst h2; rfl
theorem make_of {P : Program} {z : List (List Char)} {l : List String} (h : wordsSigns P.initOrder.toList = z) (h2 : P.headLifts = l) : P.make = (match behindMainWord z with
  | c :: rest => if c == "gc".toList || c == "spec".toList then some .whole else if c == "cut".toList || (c == "finals".toList && rest.head? == some "cut".toList) then some .cut else if c == "carried".toList then some .carried else if l.isEmpty then none else some (.lifted l)
  | [] => none) := by subst h; subst h2; rfl
set_option maxRecDepth 100000 in
theorem facHead : Try.prog.headLifts = [] := (lifts_of initWords).trans (by kernel_rfl)
set_option maxRecDepth 100000 in
theorem facEnter : Try.prog.mayEnter = true := (enter_of initWords).trans (by kernel_rfl)
set_option maxRecDepth 100000 in
theorem facLifts : Try.prog.liftsFinal = false := (final_of initWords facHead).trans (by kernel_rfl)
set_option maxRecDepth 100000 in
theorem facMake : Try.prog.make = some .cut := (make_of initWords facHead).trans (by kernel_rfl)
theorem facAnd {a b : Bool} (h : a = true) (g : b = true) : (a && b) = true := by rw [h, g]; rfl
theorem facLaid : laidOutB Try.prog = true := by kernel_rfl
theorem facMaps : mapsRowed Try.prog = true := by kernel_rfl
theorem facStops : (Try.prog.stops == []) = true := by kernel_rfl
theorem facKnobs : (Try.prog.stopKnobs == []) = true := by kernel_rfl
theorem facKeys : Try.prog.plainKeys = false ∨ Try.prog.plainKeys = true := by cases Try.prog.plainKeys <;> simp
theorem facHeard : Try.prog.stopsHeard = true := by kernel_rfl
end Go.Proofs.Ytnekjhpocfdpnaa
