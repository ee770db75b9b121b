/- Texts, sorted: plain. -/
import Derived.Test.YtonjohlecomeoaaTm
namespace Go.Proofs.Ytonjohlecomeoaa.its
open Go Go.Proofs.Ytonjohlecomeoaa.tm

def srt (zs : List Bs) : List Bs := zs.mergeSort fun x y => decide (x ≤ y)
theorem srt_len (zs : List Bs) : (srt zs).length = zs.length := List.length_mergeSort _
end Go.Proofs.Ytonjohlecomeoaa.its
