/-
  PayCarry: nothing beside.
-/
import Derived.Test.YtpkcfdbgndpkeabCarry
