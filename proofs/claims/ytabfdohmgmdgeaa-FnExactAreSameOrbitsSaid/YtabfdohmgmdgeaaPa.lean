/-
  LISTS OF 64-BIT NUMBERS beside groups. Conditions: as each theorem states.
-/
import Derived.Test.YtabfdohmgmdgeaaMg
import Derived.Test.YtabfdohmgmdgeaaPz
