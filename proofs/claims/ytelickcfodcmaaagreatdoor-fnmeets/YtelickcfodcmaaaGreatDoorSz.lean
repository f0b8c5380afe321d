/-
  The laws' own measure of an argument: what it answers, and that it leaves memory alone.
-/
import Derived.Test.YtelickcfodcmaaaGreatDoorBase
namespace Go.Proofs.YtelickcfodcmaaaGreatDoor
open Go.RowKit

end Go.Proofs.YtelickcfodcmaaaGreatDoor
