/-
  (The held way stands in XHeld.)
-/
import Derived.Test.YtjbiaomkbgfgfaaGMem
import Derived.Test.YtjbiaomkbgfgfaaHeld
