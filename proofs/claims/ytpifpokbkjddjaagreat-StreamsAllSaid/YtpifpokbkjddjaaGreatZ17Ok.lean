/- The program's streams do what layer 17 asks of them. -/
import Derived.Test.YtpifpokbkjddjaaGreatZ17D
import Derived.Test.YtpifpokbkjddjaaGreatK17H
import Derived.Test.YtpifpokbkjddjaaGreatK17I
import Derived.Test.YtpifpokbkjddjaaGreatK17J
import Derived.Test.YtpifpokbkjddjaaGreatK17M
namespace Go.Proofs.YtpifpokbkjddjaaGreat
open Go.RowKit
theorem streamsOk (w : World) : StreamsOk w StP where
  lt := fun h => StP.lt h
  keep := fun h => StP.keep h
  new := fun w1 main p n cap l _ hf hn hm hs => new_spec w1 main p n cap l hf hn hm hs
  write := fun w1 b O s name t more _ hP _ ht => write_spec w1 b O s name t more hP ht
  files := fun w1 b O s _ hP _ => files_spec w1 b O s hP
  main := fun w1 b O s c hc _ hP _ => main_spec w1 b O s c hc hP
end Go.Proofs.YtpifpokbkjddjaaGreat
