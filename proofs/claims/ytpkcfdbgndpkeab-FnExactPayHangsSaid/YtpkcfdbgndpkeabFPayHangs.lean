/-
  PayHangs: nothing beside.
-/
import Derived.Test.YtpkcfdbgndpkeabHangs
