/- The cells of commonsbook's book, of which lists of ints alone are kept. -/
import Derived.Test.YtfjpoadmbdjmnaaGreatKit
namespace Go.Proofs.YtfjpoadmbdjmnaaGreat
open Go
/-- The book's cells. -/
abbrev bookI (iv wv : Value) : Array Value := #[.slice none 0 0, .slice none 0 0, iv, wv, .slice none 0 0, .slice none 0 0, .slice none 0 0, .slice none 0 0, .slice none 0 0, .slice none 0 0, .slice none 0 0, .slice none 0 0, .slice none 0 0, .slice none 0 0, .slice none 0 0, .slice none 0 0, .slice none 0 0, .slice none 0 0, .slice none 0 0, .slice none 0 0, .slice none 0 0, .slice none 0 0, .slice none 0 0, .slice none 0 0, .slice none 0 0, .slice none 0 0, .slice none 0 0, .slice none 0 0, .slice none 0 0, .slice none 0 0]
end Go.Proofs.YtfjpoadmbdjmnaaGreat
