/-
  Layer 7's two contracts together: Put (SixPP) and Get (SixPG). No condition of its own.
-/
import Derived.Test.YtmnlcmgkhgckcaaSixPP
import Derived.Test.YtmnlcmgkhgckcaaSixPG
