/-
  The contracts of slices.SortFunc at this seat stand in the shelf's text.
-/
import Derived.Test.YtkmknogejhhajabDoorSShelf
