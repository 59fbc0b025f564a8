/- The program's streams do what layer 17 asks of them. -/
import Derived.Test.YtpifpokbkjddjaaS17G
import Derived.Test.YtpifpokbkjddjaaK17F
import Derived.Test.YtpifpokbkjddjaaK17H
import Derived.Test.YtpifpokbkjddjaaK17I
import Derived.Test.YtpifpokbkjddjaaK17J
import Derived.Test.YtpifpokbkjddjaaK17T
namespace Go.Proofs.Ytpifpokbkjddjaa
open Go.RowKit
theorem streamsOk (w : World) : StreamsOk w StP where
  lt := fun h => StP.lt h
  keep := fun h => StP.keep h
  new := fun w1 main p n cap l _ hf hn hm hs => new_spec w1 main p n cap l hf hn hm hs
  print := fun w1 b O s t _ hP _ ht => print_spec w1 b O s t hP ht
  write := fun w1 b O s name t more _ hP _ ht => write_spec w1 b O s name t more hP ht
  out := fun w1 b O s _ hP _ => out_spec w1 b O s hP
  files := fun w1 b O s _ hP _ => files_spec w1 b O s hP
  read := fun w1 b O s name c hc _ hP _ => read_spec w1 b O s name c hc hP
end Go.Proofs.Ytpifpokbkjddjaa
