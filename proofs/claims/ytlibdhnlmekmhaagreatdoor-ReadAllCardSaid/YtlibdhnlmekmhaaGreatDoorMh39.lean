/- The contract of (*Heap).remove. -/
import Derived.Test.YtlibdhnlmekmhaaGreatDoorMh22
namespace Go.Proofs.YtlibdhnlmekmhaaGreatDoor.Remove
set_option maxRecDepth 100000
open Go.RowKit
open Go.Proofs.YtlibdhnlmekmhaaGreatDoor.Own Go.Proofs.YtlibdhnlmekmhaaGreatDoor.Hp Go.Proofs.YtlibdhnlmekmhaaGreatDoor.HeapOrd Go.Proofs.YtlibdhnlmekmhaaGreatDoor.Rep Go.Proofs.YtlibdhnlmekmhaaGreatDoor.Base Go.Proofs.YtlibdhnlmekmhaaGreatDoor.Get Go.Proofs.YtlibdhnlmekmhaaGreatDoor.Meth Go.Proofs.YtlibdhnlmekmhaaGreatDoor.Size Go.Proofs.YtlibdhnlmekmhaaGreatDoor.Nums Go.Proofs.YtlibdhnlmekmhaaGreatDoor.Add

end Go.Proofs.YtlibdhnlmekmhaaGreatDoor.Remove
