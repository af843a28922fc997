/-
  Lists of slices as arguments, beside chapter 4's runs.
-/
import Derived.Test.YtillhpgdlmeajaaGreatDoorKOKeeps
import Derived.Test.YtillhpgdlmeajaaGreatDoorKLMore
