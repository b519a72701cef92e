import Derived.Test.YtckmcglkjfkghaaDoorAwX
import Derived.Test.YtckmcglkjfkghaaDoorProg
import Derived.Lib.BytesEntry
import Derived.Lib.Strings
import Derived.Lib.Walk
import Derived.WalkKit
import Derived.KernelRfl
namespace Go.Proofs.YtckmcglkjfkghaaDoor.LibB
open Go Go.Proofs Go.Proofs.YtckmcglkjfkghaaDoor.Aw Go.RowKit
set_option linter.unusedSimpArgs false
set_option linter.unusedVariables false
def indexF (b : List UInt8) (c : UInt8) : Int := Lib.indexByte b c
theorem bytesOf_nat (l : List UInt8) : Lib.bytesOf (l.map fun x => (x.toNat : Int)) = l := by
  unfold Lib.bytesOf
  rw [List.map_map]
  conv => rhs; rw [← List.map_id l]
  refine List.map_congr_left fun x _ => ?_
  simp
def indexM : FM
  | [.bytes b _, .int .u8 c] => some (True, .int .i64 (indexF b c.toNat.toUInt8), [])
  | _ => none
end Go.Proofs.YtckmcglkjfkghaaDoor.LibB
