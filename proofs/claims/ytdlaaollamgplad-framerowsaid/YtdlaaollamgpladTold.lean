/-
  CONTRACTS of plain.Told and tollsame.Error: of nil, and of an error that is an Errno. No claim by itself.
-/
import Derived.Test.YtdlaaollamgpladAs
namespace Go.Proofs.Ytdlaaollamgplad
open Go.RowKit

end Go.Proofs.Ytdlaaollamgplad
