/- What the program's signs and functions do: CodeOk. -/
import Derived.Test.YtbbhcbpfffabpaaGaz
import Derived.Test.YtbbhcbpfffabpaaGbb
import Derived.Test.YtbbhcbpfffabpaaGbc
import Derived.Test.YtbbhcbpfffabpaaGbd
namespace Go.Proofs.Ytbbhcbpfffabpaa
open Go.RowKit T3

theorem codeOk : CodeOk where
  two g k n s k2 n2 s2 w hn hn2 ha hb := two_any g k n s k2 n2 s2 hn hn2 ha hb w
  one g k n s w hn ha := one_any g k n s hn (fitK ha).1 w
  join k n s k2 n2 s2 w hn hn2 _ _ hs hs2 := join_any k n s k2 n2 s2 hn hn2 hs hs2 w
  key l p n cap sep w hsep hl _ hc := key_any l p n cap sep hsep hl w hc
  count k n s w hn ha := count_any k n s hn (fitK ha).1 w
  bool w := bool_any true w
end Go.Proofs.Ytbbhcbpfffabpaa
