/-
  PayHangs: nothing beside.
-/
import Derived.Test.YtndpdoiomoefpaaHangs
