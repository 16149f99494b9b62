/-
  FloorValid of the program and of the model: the contracts in the laws' form.
-/
import Derived.Test.YtpkcfdbgndpkeaaFloor1
namespace Go.Proofs.Ytpkcfdbgndpkeaa
open Go.RowKit

theorem implFloorValid_b (A : Option Addr) (c : Nat) (zs : List Int) (w : World) (ha : Arg w A c zs) : Calls Try.prog 40 #[.slice A zs.length c] w (RetB (.bool (validB zs)) w) :=
  (implFloorValid_c A c zs w ha).mono fun _ _ h => RetB.same h
theorem specFloorValid_b (A : Option Addr) (c : Nat) (zs : List Int) (w : World) (ha : Arg w A c zs) : Calls Try.prog 38 #[.slice A zs.length c] w (RetB (.bool (validB zs)) w) :=
  (specFloorValid_c A c zs w ha).mono fun _ _ h => RetB.same h

end Go.Proofs.Ytpkcfdbgndpkeaa
