/-
  PayReach: nothing beside.
-/
import Derived.Test.YtpkcfdbgndpkeabReach
