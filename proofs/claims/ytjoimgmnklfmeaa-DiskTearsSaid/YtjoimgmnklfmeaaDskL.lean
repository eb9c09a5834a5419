/-
  The program's disk, whole: all that is asked of it.
-/
import Derived.Test.YtjoimgmnklfmeaaDskH
import Derived.Test.YtjoimgmnklfmeaaDskI
namespace Go.Proofs.Ytjoimgmnklfmeaa
open Go.RowKit

def theDisk : DiskKit where
  toDiskRel := theRel
  newOk := dNew_any
  newNo := dNew_no
  write := dWrite_any
  read := dRead_any
  arm := dArm_any
  power := dPower_any
  on := fun h _ => dOn_any h
  writes := fun h _ => dWrites_any h
  len := fun h _ => dLen_any h
  copy := dCopy_any
  nWrite := dWrite_nil
  nRead := dRead_nil
  nArm := dArm_nil
  nPower := dPower_nil
  nOn := dOn_nil
  nLen := dLen_nil
  nWrites := dWrites_nil
  nCopy := dCopy_nil
end Go.Proofs.Ytjoimgmnklfmeaa
