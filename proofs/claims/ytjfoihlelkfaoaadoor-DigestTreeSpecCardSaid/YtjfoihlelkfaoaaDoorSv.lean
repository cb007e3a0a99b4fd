/- Two hashes that the chapter names. -/
import Derived.Test.YtjfoihlelkfaoaaDoorLf
namespace Go.Proofs.YtjfoihlelkfaoaaDoor

theorem sha_abc : (sha [97, 98, 99]).take 4 = [0xba, 0x78, 0x16, 0xbf] := by decide +kernel
theorem sha_nil : (sha []).take 4 = [0xe3, 0xb0, 0xc4, 0x42] := by decide +kernel
end Go.Proofs.YtjfoihlelkfaoaaDoor
