/- Rows of syllables carried over calls. -/
import Derived.Test.YtjajbkbocbodfaaY3
import Derived.Test.YtjajbkbocbodfaaY1
namespace Go.Proofs.Ytjajbkbocbodfaa
open Go.RowKit M

end Go.Proofs.Ytjajbkbocbodfaa
