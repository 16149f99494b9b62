/-
  Facts of the program that each statement of this seat asks: each a lemma of its own. (Written by a program of mine, tools/genfac.py.)
-/
import Derived.Test.YtbcgglkgdjafiaaDoorRow
import Derived.JoinedOf
namespace Go.Proofs.YtbcgglkgdjafiaaDoor

def joinS : List (List Char) → List Char
  | [] => []
  | [w] => w
  | w :: x :: r => w ++ ' ' :: joinS (x :: r)
theorem ws_word (r : List Char) : ∀ w : List Char, (∀ c ∈ w, c ≠ ' ') → wordsSigns (w ++ ' ' :: r) = w :: wordsSigns r
  | [], _ => rfl
  | c :: w, h => by
    have h1 := ws_word r w (fun d hd => h d (List.mem_cons_of_mem _ hd))
    have h2 : c ≠ ' ' := h c (by simp)
    rw [List.cons_append, wordsSigns.eq_3 _ _ h2, h1]
theorem ws_last : ∀ w : List Char, (∀ c ∈ w, c ≠ ' ') → wordsSigns w = [w]
  | [], _ => rfl
  | c :: w, h => by
    have h1 := ws_last w (fun d hd => h d (List.mem_cons_of_mem _ hd))
    have h2 : c ≠ ' ' := h c (by simp)
    rw [wordsSigns.eq_3 _ _ h2, h1]
theorem ws_join : ∀ z : List (List Char), z ≠ [] → (∀ w ∈ z, ∀ c ∈ w, c ≠ ' ') → wordsSigns (joinS z) = z
  | [], h, _ => absurd rfl h
  | [w], _, h => ws_last w (h w (by simp))
  | w :: x :: r, _, h => by
    rw [joinS, ws_word _ w (h w (by simp)), ws_join (x :: r) (by simp) (fun y hy => h y (List.mem_cons_of_mem _ hy))]
theorem no_space {z : List (List Char)} (h : z.all (fun w => w.all fun c => c.toNat != 32) = true) : ∀ w ∈ z, ∀ c ∈ w, c ≠ ' ' := by
  intro w hw c hc e
  have h1 := List.all_eq_true.1 (List.all_eq_true.1 h w hw) c hc
  rw [e] at h1
  revert h1; decide

def wz : List (List Char) := [['h', 'a', 'r', 'n', 'e', 's', 's'], ['4', '0', '9', 'e', '9', 'c', '4', '9', '7', 'c', '4', 'b', 'b', 'd', 'a', '1', '4', 'd', '1', 'f', 'b', 'b', '2', '0', '2', 'c', '7', '2', '4', 'c', 'f', 'a', 'e', 'a', 'e', '1', 'd', 'c', '8', 'c', '0', '7', '8', '9', '2', '4', 'd', 'd', 'f', 'a', 'b', '3', 'c', '7', '7', '3', 'c', '8', '3', '4', '2', '6', '0', '0'], ['c', 'u', 't'], ['a', 't'], ['l', 'o', 'o', 'p', '.', 'e', 'x', 'a', 'm', 'p', 'l', 'e', '/', 'c', 'a', 'b', 'l', 'e', 's', 'h', 'i', 'p', '/', 'l', 'a', 'w', 's', '.', 'F', 'n', 'F', 'o', 'r', 'e', 'c', 'a', 's', 't', 'O', 'p', 'e', 'n'], ['l', 'o', 'o', 'p', '.', 'e', 'x', 'a', 'm', 'p', 'l', 'e', '/', 'c', 'a', 'b', 'l', 'e', 's', 'h', 'i', 'p', '/', 'l', 'a', 'w', 's', '.', 'F', 'n', 'D', 'a', 'y'], ['l', 'o', 'o', 'p', '.', 'e', 'x', 'a', 'm', 'p', 'l', 'e', '/', 'c', 'a', 'b', 'l', 'e', 's', 'h', 'i', 'p', '/', 'l', 'a', 'w', 's', '.', 'F', 'n', 'F', 'o', 'r', 'e', 'c', 'a', 's', 't', 'L', 'o', 'n', 'g', 'e', 's', 't'], ['l', 'o', 'o', 'p', '.', 'e', 'x', 'a', 'm', 'p', 'l', 'e', '/', 'c', 'a', 'b', 'l', 'e', 's', 'h', 'i', 'p', '/', 'l', 'a', 'w', 's', '.', 'F', 'n', 'W', 'i', 'n', 'd', 'o', 'w'], ['l', 'o', 'o', 'p', '.', 'e', 'x', 'a', 'm', 'p', 'l', 'e', '/', 'c', 'a', 'b', 'l', 'e', 's', 'h', 'i', 'p', '/', 'l', 'a', 'w', 's', '.', 'F', 'n', 'L', 'o', 's', 's'], ['l', 'o', 'o', 'p', '.', 'e', 'x', 'a', 'm', 'p', 'l', 'e', '/', 'c', 'a', 'b', 'l', 'e', 's', 'h', 'i', 'p', '/', 'l', 'a', 'w', 's', '.', 'F', 'n', 'P', 'l', 'a', 'n', 'B', 'e', 's', 't'], ['l', 'o', 'o', 'p', '.', 'e', 'x', 'a', 'm', 'p', 'l', 'e', '/', 'c', 'a', 'b', 'l', 'e', 's', 'h', 'i', 'p', '/', 'l', 'a', 'w', 's', '.', 'F', 'n', 'E', 'x', 'a', 'c', 't', 'F', 'o', 'r', 'e', 'c', 'a', 's', 't', 'D', 'a', 'y'], ['l', 'o', 'o', 'p', '.', 'e', 'x', 'a', 'm', 'p', 'l', 'e', '/', 'c', 'a', 'b', 'l', 'e', 's', 'h', 'i', 'p', '/', 'l', 'a', 'w', 's', '.', 'F', 'n', 'E', 'x', 'a', 'c', 't', 'F', 'o', 'r', 'e', 'c', 'a', 's', 't', 'L', 'o', 'n', 'g', 'e', 's', 't'], ['l', 'o', 'o', 'p', '.', 'e', 'x', 'a', 'm', 'p', 'l', 'e', '/', 'c', 'a', 'b', 'l', 'e', 's', 'h', 'i', 'p', '/', 'l', 'a', 'w', 's', '.', 'F', 'n', 'E', 'x', 'a', 'c', 't', 'F', 'o', 'r', 'e', 'c', 'a', 's', 't', 'W', 'i', 'n', 'd', 'o', 'w'], ['l', 'o', 'o', 'p', '.', 'e', 'x', 'a', 'm', 'p', 'l', 'e', '/', 'c', 'a', 'b', 'l', 'e', 's', 'h', 'i', 'p', '/', 'l', 'a', 'w', 's', '.', 'F', 'n', 'E', 'x', 'a', 'c', 't', 'P', 'l', 'a', 'n', 'E', 'n', 'd', 's'], ['l', 'o', 'o', 'p', '.', 'e', 'x', 'a', 'm', 'p', 'l', 'e', '/', 'c', 'a', 'b', 'l', 'e', 's', 'h', 'i', 'p', '/', 'l', 'a', 'w', 's', '.', 'F', 'n', 'E', 'x', 'a', 'c', 't', 'P', 'l', 'a', 'n', 'L', 'o', 's', 's'], ['l', 'o', 'o', 'p', '.', 'e', 'x', 'a', 'm', 'p', 'l', 'e', '/', 'c', 'a', 'b', 'l', 'e', 's', 'h', 'i', 'p', '/', 'l', 'a', 'w', 's', '.', 'F', 'n', 'E', 'x', 'a', 'c', 't', 'P', 'l', 'a', 'n', 'B', 'e', 's', 't']]
set_option maxRecDepth 100000 in
theorem initIs : Tryd.prog.initOrder = String.ofList (joinS wz) := by kernel_rfl
set_option maxRecDepth 100000 in
theorem initWords : wordsSigns Tryd.prog.initOrder.toList = wz := by
  rw [initIs, String.toList_ofList]
  exact ws_join wz (by unfold wz; simp) (no_space (by kernel_rfl))
theorem enter_of {P : Program} {z : List (List Char)} (h : wordsSigns P.initOrder.toList = z) : P.mayEnter = (match behindMainWord z with
  | c :: rest =>
    ((c == "gc".toList || c == "spec".toList) && (rest.isEmpty || rest.head? == some "stop".toList)) ||
    (c == "carried".toList && rest.take 2 == ["gc".toList, "cut".toList] && !P.laysLater && !P.bearsReflect) ||
    ((stripLifts liftWords (c :: rest)).2.head? == some "cut".toList &&
      ((stripLifts liftWords (c :: rest)).1.contains "finals" || !P.laysLater) && ((stripLifts liftWords (c :: rest)).1.contains "reflectrows" || !P.bearsReflect) &&
      ((stripLifts liftWords (c :: rest)).1.contains "reflectrows" || !(stripLifts liftWords (c :: rest)).1.contains "leanrows") &&
      P.doorFits (stripLifts liftWords (c :: rest)).1)
  | [] => false) := by subst h; rfl
theorem lifts_of {P : Program} {z : List (List Char)} (h : wordsSigns P.initOrder.toList = z) : P.headLifts = (if (stripLifts liftWords (behindMainWord z)).2.head? == some "cut".toList then (stripLifts liftWords (behindMainWord z)).1 else []) := by subst h; rfl
theorem final_of {P : Program} {z : List (List Char)} {l : List String} (h : wordsSigns P.initOrder.toList = z) (h2 : P.headLifts = l) : P.liftsFinal = (((behindMainWord z).head? == some "carried".toList && (behindMainWord z).take 3 != ["carried".toList, "gc".toList, "cut".toList]) || l.contains "finals") := by subst h; subst h2; rfl
theorem make_of {P : Program} {z : List (List Char)} {l : List String} (h : wordsSigns P.initOrder.toList = z) (h2 : P.headLifts = l) : P.make = (match behindMainWord z with
  | c :: rest => if c == "gc".toList || c == "spec".toList then some .whole else if c == "cut".toList || (c == "finals".toList && rest.head? == some "cut".toList) then some .cut else if c == "carried".toList then some .carried else if l.isEmpty then none else some (.lifted l)
  | [] => none) := by subst h; subst h2; rfl
set_option maxRecDepth 100000 in
theorem facHead : Tryd.prog.headLifts = [] := (lifts_of initWords).trans (by kernel_rfl)
set_option maxRecDepth 100000 in
theorem facEnter : Tryd.prog.mayEnter = true := (enter_of initWords).trans (by kernel_rfl)
set_option maxRecDepth 100000 in
theorem facLifts : Tryd.prog.liftsFinal = false := (final_of initWords facHead).trans (by kernel_rfl)
set_option maxRecDepth 100000 in
theorem facMake : Tryd.prog.make = some .cut := (make_of initWords facHead).trans (by kernel_rfl)
theorem facAnd {a b : Bool} (h : a = true) (g : b = true) : (a && b) = true := by rw [h, g]; rfl
theorem facLaid : laidOutB Tryd.prog = true := by kernel_rfl
theorem facMaps : mapsRowed Tryd.prog = true := by kernel_rfl
theorem facStops : (Tryd.prog.stops == []) = true := by kernel_rfl
theorem facKnobs : (Tryd.prog.stopKnobs == []) = true := by kernel_rfl
theorem facKeys : Tryd.prog.plainKeys = false ∨ Tryd.prog.plainKeys = true := by cases Tryd.prog.plainKeys <;> simp
theorem facHeard : Tryd.prog.stopsHeard = true := by kernel_rfl
end Go.Proofs.YtbcgglkgdjafiaaDoor
