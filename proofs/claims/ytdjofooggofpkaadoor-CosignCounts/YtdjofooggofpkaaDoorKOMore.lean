/-
  Lists of slices as arguments, beside chapter 4's runs.
-/
import Derived.Test.YtdjofooggofpkaaDoorKOKeeps
import Derived.Test.YtdjofooggofpkaaDoorKLMore
