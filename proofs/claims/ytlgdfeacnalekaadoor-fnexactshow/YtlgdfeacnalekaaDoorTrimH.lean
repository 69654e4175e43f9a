/-
  strings.Trim at the digits of sums, strings.CutSuffix at a newline: out of the shelf.
-/
import Derived.Test.YtlgdfeacnalekaaDoorRows
import Derived.WalkKit
import Derived.Ground.NamesProg
import Derived.Shelf.Lay
import Derived.Shelf.Strings.SlTrimAscii
import Derived.Shelf.Small.Wraps
namespace Go.Proofs
open Go.Shelf
shelf_lay Lays.n160 Nm 160 at Tryd as Tryd.laysTrim
shelf_lay Lays.n104 Nm 104 at Tryd as Tryd.laysCutSuf
end Go.Proofs
namespace Go.Proofs.YtlgdfeacnalekaaDoor
open Go.RowKit

def hexS : ByteArray := ⟨#[48, 49, 50, 51, 52, 53, 54, 55, 56, 57, 97, 98, 99, 100, 101, 102]⟩
theorem trim_any (s : ByteArray) (w : World) (hs : s.size ≤ 1099511627776) :
    Calls Tryd.prog 53 #[.string s, .string hexS] w fun e w' => e = .returned (.string ⟨(Lib.trimS s.data.toList hexS.data.toList).toArray⟩) ∧ Below w.heap.size w w' :=
  Any.strings_Trim_laid Tryd.laysTrim (by kernel_rfl) s hexS w (by omega) (by decide) (ascii_of_all (by decide))
theorem cutSuf_any (s : ByteArray) (w : World) (hs : s.size ≤ 1099511627776) :
    Calls Tryd.prog 52 #[.string s, .string ⟨#[10]⟩] w fun e w' => e = .returned (.tuple #[.string ⟨(Lib.trimSuffix s.data.toList [10]).toArray⟩, .bool (Lib.hasSuffix s.data.toList [10])]) ∧ w' = w :=
  Any.strings_CutSuffix Tryd.laysCutSuf s ⟨#[10]⟩ w (by omega)
end Go.Proofs.YtlgdfeacnalekaaDoor
