/-
  What package tree tells: its seven contracts lie in the texts below this one.
-/
import Derived.Test.YtgfehlmiejnonaaTreeZg
import Derived.Test.YtgfehlmiejnonaaJG
