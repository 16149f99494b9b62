/-
  PayCarry: nothing beside.
-/
import Derived.Test.YtndpdoiomoefpaaCarry
