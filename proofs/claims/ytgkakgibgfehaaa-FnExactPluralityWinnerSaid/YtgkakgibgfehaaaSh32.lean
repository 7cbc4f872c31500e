/-
  MADE BY PROGRAM (gen_tq.sh): all of them.
-/
import Derived.Test.YtgkakgibgfehaaaTqF0
import Derived.Test.YtgkakgibgfehaaaSh1

